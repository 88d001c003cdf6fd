/- A region whose order is drawn, on what is known: the region. Generic over the program. -/
import Derived.Test.YtgfnakdfhfoplaaGreatDoorCxS
namespace Go.Proofs.YtgfnakdfhfoplaaGreatDoor.Cx
open Go
section
variable {P : Program} {F : T (Option FI)} {ih : Rec} {ops : Array Oper} {a0 a aE a' : Fr} {h0 h hE : T AObj} {N0 nx NE N n : Nat} {l L : List Rc} {r : Rc} {R : Option Nat} {m m0 m2 : Mp} {A A0 : Act} {w w0 w2 : World} {s : St} {S S' : Nat → Bool}
def left (n : Nat) (listed : Array Bool) : List Nat := (List.range n).filter fun i => !listed.getD i true
theorem left_lt {n k : Nat} {listed : Array Bool} (hk : k < n) (hn : listed.size = n) (hun : listed.getD k true = false) : (left n (listed.setIfInBounds k true)).length < (left n listed).length := by
  have e : left n (listed.setIfInBounds k true) = (left n listed).filter fun i => !(listed.setIfInBounds k true).getD i true := by
    unfold left
    rw [List.filter_filter]
    refine List.filter_congr fun i _ => ?_
    by_cases hik : k = i
    · subst hik
      have : (listed.setIfInBounds k true).getD k true = true := by simp [hn, hk]
      simp [this]
    · rw [getD_set_ne true hik]; simp
  rw [e, List.length_filter_lt_length_iff_exists]
  refine ⟨k, ?_, ?_⟩
  · unfold left; rw [List.mem_filter]; exact ⟨List.mem_range.2 hk, by rw [hun]; rfl⟩
  · have : (listed.setIfInBounds k true).getD k true = true := by simp [hn, hk]
    rw [this]; simp
theorem lt_of_get {k : Nat} {o : Oper} (h : ops[k]? = some o) : k < ops.size := by
  rcases Nat.lt_or_ge k ops.size with hl | hl
  · exact hl
  · rw [Array.getElem?_eq_none hl] at h; cases h
theorem all_listed {listed : Array Bool} (hn : listed.size = ops.size) (back : ∀ (k : Nat) (o : Oper), ops[k]? = some o → ∀ e ∈ o.after, Region.binds .any e = true → e.on < k) (hr : Region.ready .any ops listed = []) : ∀ k, k < ops.size → listed.getD k false = true := by
  intro k
  induction k using Nat.strongRecOn with
  | ind k ih =>
    intro hk
    cases hx : listed.getD k true with
    | true =>
      have hs : k < listed.size := by omega
      simp [hs] at hx ⊢; exact hx
    | false =>
      exfalso
      have : k ∈ Region.ready .any ops listed := by
        rw [mem_ready]
        exact ⟨hx, ops[k], Array.getElem?_eq_getElem hk, fun e he hbi => ih e.on (back k _ (Array.getElem?_eq_getElem hk) e he hbi) (Nat.lt_trans (back k _ (Array.getElem?_eq_getElem hk) e he hbi) hk)⟩
      rw [hr] at this
      cases this
theorem un_false {listed : Array Bool} {k : Nat} (h : listed.getD k true = false) : listed.getD k false = false := by
  rcases Nat.lt_or_ge k listed.size with hl | hl
  · simp [hl] at h ⊢; exact h
  · simp [Array.getElem?_eq_none hl]
theorem Tr.has (t : Tr P F ih ops a0 h0 N0 l a h nx) : ∀ i, i < l.length → ∃ r ∈ l, r.i = i := by
  induction t with
  | nil => intro i hi; cases hi
  | cons t g hp ih =>
    intro i hi
    rw [List.length_cons] at hi
    rcases Nat.lt_or_ge i _ with h1 | h1
    · obtain ⟨r, h2, h3⟩ := ih i h1; exact ⟨r, List.mem_cons_of_mem _ h2, h3⟩
    · exact ⟨_, List.mem_cons_self, by rw [g.i]; omega⟩
theorem Tr.back (t : Tr P F ih ops a0 h0 N0 l a h nx) : ∀ r ∈ l, ∀ e ∈ r.o.after, Region.binds .any e = true → e.on < r.i := by
  induction t with
  | nil => intro r hr; cases hr
  | cons t g hp ih =>
    intro r hr
    rcases List.mem_cons.1 hr with rfl | hm
    · exact g.back
    · exact ih r hm
theorem draw_walk (hF : FOk P F) (hI : ∀ task s out s', ih task s = some (out, s') → TaskOk P N task s out s') (B : Base P F ih ops L a0 aE h0 hE N0 NE m0 A0 w0) {Q : Exit → Act → World → Prop}
    (hQ : ∀ m A w S, (∀ k, k < ops.size → S k = true) → DI P L a0 h0 N0 NE m0 A0 w0 S m A w → Q .normal A w) :
    ∀ (fuel : Nat) (listed : Array Bool) (m : Mp) (A : Act) (w : World), listed.size = ops.size → Closed ops (fun i => listed.getD i false) → DI P L a0 h0 N0 NE m0 A0 w0 (fun i => listed.getD i false) m A w → (left ops.size listed).length ≤ fuel →
      wpAnyIn (fen R) n P .any ops Q fuel listed A w
  | fuel, listed, m, A, w, hsz, hc, D, hf => by
    have hback : ∀ (k : Nat) (o : Oper), ops[k]? = some o → ∀ e ∈ o.after, Region.binds .any e = true → e.on < k := fun k o ho => by
      obtain ⟨r, hr, e⟩ := B.tr.has k (by rw [B.len]; exact lt_of_get ho)
      have h2 := (B.tr.each.2.2.2 r hr).2.2.2.2.2.2
      rw [e, ho] at h2; injection h2 with h2; subst h2
      rw [← e]; exact B.tr.back r hr
    have hend : Region.ready .any ops listed = [] → Q .normal A w := fun hr => hQ m A w _ (all_listed hsz hback hr) D
    match fuel with
    | 0 =>
      have hnil : left ops.size listed = [] := List.length_eq_zero_iff.1 (Nat.le_zero.1 hf)
      have hr : Region.ready .any ops listed = [] := by
        rw [List.eq_nil_iff_forall_not_mem]
        intro k hk
        obtain ⟨h0, o, ho, _⟩ := mem_ready.1 hk
        have : k ∈ left ops.size listed := by
          unfold left; rw [List.mem_filter]; exact ⟨List.mem_range.2 (lt_of_get ho), by rw [h0]; rfl⟩
        rw [hnil] at this; cases this
      exact ⟨hr, hend hr⟩
    | fuel + 1 =>
      refine ⟨hend, fun k hk => ?_⟩
      obtain ⟨hun, o, ho, hall⟩ := mem_ready.1 hk
      have hkn := lt_of_get ho
      obtain ⟨r, hr, e⟩ := B.tr.has k (by rw [B.len]; exact hkn)
      subst e
      have h2 := (B.tr.each.2.2.2 r hr).2.2.2.2.2.2
      rw [ho] at h2; injection h2 with h2; subst h2
      have hs : (fun i => listed.getD i false) r.i = false := un_false hun
      have Z := B.sees hr hc hs hall
      obtain ⟨hok, hfr⟩ := D.pre B Z
      have hin : r.i < listed.size := by rw [hsz]; exact hkn
      have s1 : (listed.setIfInBounds r.i true).getD r.i false = true := by simp [hin]
      have s2 : ∀ i, i ≠ r.i → (listed.setIfInBounds r.i true).getD i false = listed.getD i false := fun i hi => getD_set_ne false (Ne.symm hi)
      have next : ∀ m2 v' w2, VR m2 r.v v' → Post P (res m r.n0) { heap := r.view, next := r.n0, wr := .e } w m2 r.post w2 →
          wpAnyIn (fen R) n P .any ops Q fuel (listed.setIfInBounds r.i true) (A.put r.o.dst v') w2 := fun m2 v' w2 hv hp => by
        refine draw_walk hF hI B hQ fuel _ _ _ _ (by simpa using hsz) (fun k o ho hk e he hb => ?_) (D.step B hr Z hs (S' := fun i => (listed.setIfInBounds r.i true).getD i false) s1 s2 hp hv) ?_
        · dsimp only at hk ⊢
          by_cases hi : e.on = r.i
          · rw [hi]; exact s1
          · rw [s2 _ hi]
            by_cases hkr : k = r.i
            · subst hkr
              rw [‹ops[r.i]? = some r.o›] at ho; injection ho with ho; subst ho
              exact hall e he hb
            · rw [s2 _ hkr] at hk; exact hc k o ho hk e he hb
        · have := left_lt hkn hsz hun; omega
      unfold wpOpIn
      rw [ho]
      dsimp only
      obtain ⟨q, l, a, h, nx, _, _, g, _⟩ := B.tr.split hr
      rcases g.run with ⟨g1, g2⟩ | ⟨g1, g2, g3⟩
      · rw [if_pos (want_ok hfr g1)]
        exact runOp_ok hF hI hok hfr g2 fun m2 v' w2 hv hp => next m2 v' w2 hv hp
      · rw [if_neg (by rw [want_ok hfr g1]; exact Bool.false_ne_true)]
        refine ⟨wide_about r.o w _, next (res m r.n0) undef w (by rw [g2]; exact vr_undef _) ?_⟩
        rw [g3]; exact .refl hok
theorem sets_none {b : Nat} : ∀ {ks : List Nat} {t : T Unit}, (∀ k ∈ ks, k < lim) → (ks.foldl (fun w b => w.set b ()) t).get b = none → t.get b = none ∧ b ∉ ks
  | [], t, _, h => ⟨h, by simp⟩
  | k :: ks, t, hk, h => by
    rw [List.foldl_cons] at h
    obtain ⟨h1, h2⟩ := sets_none (fun j hj => hk j (List.mem_cons_of_mem _ hj)) h
    rw [T.get_set (hk k List.mem_cons_self)] at h1
    split at h1
    · cases h1
    · exact ⟨h1, by simp [*]⟩
theorem joinWr_none {b : Nat} : ∀ {l : List Rc} {t : T Unit}, (∀ p ∈ l, p.post.next < lim ∧ ∀ b, p.post.wr.get b ≠ none → b < p.post.next) → (joinWr l t).get b = none → t.get b = none ∧ ∀ p ∈ l, p.post.wr.get b = none
  | [], t, _, h => ⟨h, fun p hp => absurd hp (by simp)⟩
  | r :: l, t, hl, h => by
    unfold joinWr at h
    rw [List.foldl_cons] at h
    obtain ⟨h1, h2⟩ := joinWr_none (l := l) (fun p hp => hl p (List.mem_cons_of_mem _ hp)) h
    obtain ⟨k1, k2⟩ := hl r List.mem_cons_self
    obtain ⟨h3, h4⟩ := sets_none (fun k hk => Nat.lt_trans (k2 k (T.keys_get _ _ hk)) k1) h1
    refine ⟨h3, fun p hp => ?_⟩
    rcases List.mem_cons.1 hp with rfl | hp
    · cases e : p.post.wr.get b with
      | none => rfl
      | some u => exact absurd (T.mem_keys _ _ (by rw [e]; simp)) h4
    · exact h2 p hp
theorem draw_ok (hM : P.follows .mixedOrders = true) (hF : FOk P F) (hI : ∀ task s out s', ih task s = some (out, s') → TaskOk P N task s out s') {id : Nat} {ops : Array Oper} {hh : T AObj} {nx : Nat} {done : List Rc} (h : Ok P m s w) (hf : FrR m a A)
    (hr : runDraw P F ih ops ops.toList 0 a s.heap s.next [] = some (a', hh, nx, done)) {Q : Exit → Act → World → Prop}
    (hQ : ∀ m1 A1 w1, FrR m1 a' A1 → Post P m s w m1 { heap := hh, next := nx, wr := joinWr done s.wr } w1 → Q .normal A1 w1) : (Code.region id ops true).wpIn (fen R) n P Q A w := by
  obtain ⟨t, hlen⟩ := draw_tr ops.toList 0 [] (P := P) (F := F) (ih := ih) (ops := ops) (a0 := a) (h0 := s.heap) (N0 := s.next) .nil rfl (fun j o hj => by simpa using hj) hr
  have hlen : done.length = ops.size := by simpa using hlen
  have B : Base P F ih ops done a a' s.heap hh s.next nx m A { w with drawn := w.drawn + 1 } := ⟨t, hlen, ⟨s, rfl, rfl, ⟨h.dom, h.inj, h.glob, h.new⟩⟩, hf⟩
  refine wpIn_region_any hM (draw_walk hF hI B (fun m1 A1 w1 S hS D => ?_) ops.size _ m A _ (by simp) (fun k o ho hk => ?_) (DI.start B (fun i => ?_)) ?_)
  · have hHv : ∀ b, (Hv S s.heap s.next b done).1 = hh.get b := fun b => by
      rw [← hv_all t b]
      exact congrArg Prod.fst (ovr_agree fun p hp _ => hS _ (by rw [← hlen]; exact (t.each.2.2.2 p hp).2.2.2.2.2.1))
    have hTv : ∀ i, (Tv S a s.next i done).1 = a'.t.get i := fun i => by
      rw [← tv_all t i]
      exact congrArg Prod.fst (ovr_agree fun p hp _ => hS _ (by rw [← hlen]; exact (t.each.2.2.2 p hp).2.2.2.2.2.1))
    have hwr : ∀ b, (joinWr done s.wr).get b = none → s.wr.get b = none ∧ ∀ p ∈ done, p.post.wr.get b = none := fun b e => joinWr_none (fun p hp => let ⟨_, _, _, k4, k5, _⟩ := t.each.2.2.2 p hp; ⟨k4, k5⟩) e
    refine hQ m1 A1 w1 ⟨fun i v e => ?_, D.sz.trans t.each.2.1.symm, ?_⟩ ⟨⟨fun b o e => ?_, fun b b' o o' c x x' e e' => ?_, fun g hg => D.ext _ _ (h.glob g hg), fun b hb => D.top b hb⟩, D.ext, t.each.1, fun b hb e => ?_, fun b hb e => ?_, fun b e => (hwr b e).1, D.fr, D.fresh, D.size, D.os, D.out, D.tape, D.old, fun b o c x k1 k2 k3 => D.un b o c x k1 k2 fun p hp _ => (hwr b k3).2 p hp⟩
    · obtain ⟨v', k1, k2⟩ := D.tm i v (by rw [hTv]; exact e)
      exact ⟨v', k1, k2.mono res_le⟩
    · rw [D.df, t.each.2.2.1]; exact hf.d.mono D.ext
    · obtain ⟨c, x, o', k1, k2, k3⟩ := D.rel b o (by rw [hHv]; exact e)
      exact ⟨c, x, o', k1, k2, k3.mono res_le⟩
    · exact D.inj b b' o o' c x x' (by rw [hHv]; exact e) (by rw [hHv]; exact e')
    · exact D.dm b hb (by rw [hHv]; exact e)
    · rw [← hHv b]
      refine congrArg Prod.fst (ovr_base (base := (s.heap.get b, s.next)) fun p hp _ => touch_not.2 ⟨(hwr b e).2 p hp, ?_⟩)
      have := (t.each.2.2.2 p hp).1; omega
  · dsimp only at hk
    rw [Array.getD_eq_getD_getElem?, Array.getElem?_replicate] at hk
    split at hk <;> cases hk
  · rw [Array.getD_eq_getD_getElem?, Array.getElem?_replicate]
    split <;> rfl
  · refine Nat.le_trans (List.length_filter_le _ _) (by simp)
end
end Go.Proofs.YtgfnakdfhfoplaaGreatDoor.Cx
