/- A region whose order is drawn, on what is known: every order. Generic over the program. -/
import Derived.Test.YtgfnakdfhfoplaaGreatDoorCxP
namespace Go.Proofs.YtgfnakdfhfoplaaGreatDoor.Cx
open Go
section
variable {P : Program} {F : T (Option FI)} {ih : Rec} {ops : Array Oper} {a0 a aE : Fr} {h0 h hE : T AObj} {N0 nx NE N n : Nat} {l L : List Rc} {r : Rc} {R : Option Nat} {m m0 m2 : Mp} {A A0 : Act} {w w0 w2 : World} {s : St}
theorem draw_tr : ∀ (l : List Oper) (i : Nat) (done : List Rc) {a h nx a' h' nx' done'}, Tr P F ih ops a0 h0 N0 done a h nx → done.length = i → (∀ j o, l[j]? = some o → ops[i + j]? = some o) → runDraw P F ih ops l i a h nx done = some (a', h', nx', done') →
    Tr P F ih ops a0 h0 N0 done' a' h' nx' ∧ done'.length = i + l.length
  | [], i, done, a, h, nx, a', h', nx', done', t, hd, _, hr => by
    injection hr with hr; injection hr with e1 hr; injection hr with e2 hr; injection hr with e3 e4; subst e1; subst e2; subst e3; subst e4
    exact ⟨t, hd⟩
  | o :: l, i, done, a, h, nx, a', h', nx', done', t, hd, hl, hr => by
    unfold runDraw at hr
    split at hr
    · rename_i r hm
      cases hc : checkRc r done with
      | false => rw [hc] at hr; cases hr
      | true =>
        rw [hc] at hr
        simp only [cond] at hr
        split at hr
        · rename_i a1 hp
          obtain ⟨e, g⟩ := mk_good t hd.symm (by have := hl 0 o rfl; simpa using this) hm hc hp
          have := draw_tr l (i + 1) (r :: done) (t.cons g (by rw [e]; exact hp)) (by rw [List.length_cons, hd]) (fun j p hj => by have := hl (j + 1) p (by simpa using hj); rwa [show i + 1 + j = i + (j + 1) by omega]) hr
          exact ⟨this.1, by rw [this.2, List.length_cons]; omega⟩
        · cases hr
    · cases hr
/-! ### What the operations of a set leave of one place -/
def ovr {α : Type} (S : Nat → Bool) (tch : Rc → Bool) (val : Rc → α) (base : α) : List Rc → α
  | [] => base
  | r :: l => bif S r.i && tch r then val r else ovr S tch val base l
section
variable {α : Type} {S S' : Nat → Bool} {tch : Rc → Bool} {val : Rc → α} {base : α}
theorem ovr_skip {q : List Rc} (hq : ∀ p ∈ q, S p.i = true → tch p = false) : ovr S tch val base (q ++ l) = ovr S tch val base l := by
  induction q with
  | nil => rfl
  | cons p q ih =>
    rw [List.cons_append, ovr, ih fun p hp => hq p (List.mem_cons_of_mem _ hp)]
    cases hs : S p.i with
    | false => rfl
    | true => rw [hq p List.mem_cons_self hs]; rfl
theorem ovr_base (hq : ∀ p ∈ l, S p.i = true → tch p = false) : ovr S tch val base l = base := by
  have := ovr_skip (S := S) (tch := tch) (val := val) (base := base) (q := l) (l := []) hq
  rw [List.append_nil] at this; exact this
theorem ovr_agree (hl : ∀ p ∈ l, tch p = true → S p.i = S' p.i) : ovr S tch val base l = ovr S' tch val base l := by
  induction l with
  | nil => rfl
  | cons p l ih =>
    rw [ovr, ovr, ih fun p hp => hl p (List.mem_cons_of_mem _ hp)]
    cases ht : tch p with
    | false => simp
    | true => rw [hl p List.mem_cons_self ht]
theorem ovr_step {q : List Rc} (hn : S r.i = false) (hs : S' r.i = true) (he : ∀ i, i ≠ r.i → S' i = S i) (hi : ∀ p ∈ q ++ l, p.i ≠ r.i) (hq : tch r = true → ∀ p ∈ q, S p.i = true → tch p = false) :
    ovr S' tch val base (q ++ r :: l) = if tch r then val r else ovr S tch val base (q ++ r :: l) := by
  cases ht : tch r with
  | true =>
    rw [ovr_skip fun p hp h => hq ht p hp (by rwa [he _ (hi p (List.mem_append_left _ hp))] at h), ovr, hs, ht]; rfl
  | false =>
    rw [if_neg (by simp)]
    refine ovr_agree fun p hp hp2 => ?_
    rcases List.mem_append.1 hp with hp | hp
    · exact he _ (hi p (List.mem_append_left _ hp))
    · rcases List.mem_cons.1 hp with rfl | hp
      · rw [ht] at hp2; cases hp2
      · exact he _ (hi p (List.mem_append_right _ hp))
end
def all : Nat → Bool := fun _ => true
abbrev Hv (S : Nat → Bool) (h0 : T AObj) (N0 b : Nat) (l : List Rc) : Option AObj × Nat := ovr S (fun r => touch r b) (fun r => (r.post.heap.get b, r.post.next)) (h0.get b, N0) l
abbrev Tv (S : Nat → Bool) (a0 : Fr) (N0 t : Nat) (l : List Rc) : Option Value × Nat := ovr S (fun r => r.o.dst == some t) (fun r => (some r.v, r.post.next)) (a0.t.get t, N0) l
theorem hv_all (t : Tr P F ih ops a0 h0 N0 l a h nx) (b : Nat) : (Hv all h0 N0 b l).1 = h.get b := by
  induction t with
  | nil => rfl
  | cons t g hp ih =>
    rw [cover_get g.lt g.n1 g.wk]
    simp only [Hv, ovr, all, Bool.true_and]
    cases touch _ b with
    | true => rfl
    | false => exact ih
theorem tv_all (t : Tr P F ih ops a0 h0 N0 l a h nx) (i : Nat) : (Tv all a0 N0 i l).1 = a.t.get i := by
  induction t with
  | nil => rfl
  | @cons l a a' h nx r t g hp ih =>
    simp only [Tv, ovr, all, Bool.true_and]
    cases hd : r.o.dst with
    | none =>
      rw [hd] at hp; injection hp with hp; subst hp
      exact ih
    | some d =>
      rw [hd] at hp
      obtain ⟨p1, p2, p3⟩ := put_lt hp
      rw [p3, T.get_set p2]
      by_cases e : d = i
      · subst e; simp
      · rw [if_neg (Ne.symm e)]
        have : (some d == some i) = false := by simpa using e
        rw [this]; exact ih
theorem hv_le (t : Tr P F ih ops a0 h0 N0 l a h nx) (S : Nat → Bool) (b : Nat) : (Hv S h0 N0 b l).2 ≤ nx := by
  induction t with
  | nil => exact Nat.le_refl _
  | cons t g hp ih =>
    have h1 := g.n0; have h2 := g.n1
    simp only [Hv, ovr]
    cases (S _ && touch _ b) with
    | true => exact Nat.le_refl _
    | false => exact Nat.le_trans ih (by omega)
theorem tv_le (t : Tr P F ih ops a0 h0 N0 l a h nx) (S : Nat → Bool) (i : Nat) : (Tv S a0 N0 i l).2 ≤ nx := by
  induction t with
  | nil => exact Nat.le_refl _
  | @cons l a a' h nx r t g hp ih =>
    have h1 := g.n0; have h2 := g.n1
    simp only [Tv, ovr]
    cases (S r.i && (r.o.dst == some i)) with
    | true => exact Nat.le_refl _
    | false => exact Nat.le_trans ih (by omega)
theorem Tr.dom (t : Tr P F ih ops a0 h0 N0 l a h nx) (hd : ∀ b o, h0.get b = some o → b < N0) : ∀ b o, h.get b = some o → b < nx := by
  induction t with
  | nil => exact hd
  | cons t g hp ih =>
    intro b o e
    have h1 := g.n0; have h2 := g.n1
    rw [cover_get g.lt g.n1 g.wk] at e
    split at e
    · rename_i ht
      rcases touch_iff.1 ht with h3 | h3
      · exact g.wk b h3
      · exact h3.2
    · have := ih b o e; omega
theorem Tr.split (t : Tr P F ih ops a0 h0 N0 L aE hE NE) (hr : r ∈ L) : ∃ q l a h nx, L = q ++ r :: l ∧ Tr P F ih ops a0 h0 N0 l a h nx ∧ Good P F ih ops r l a h nx ∧
    (∀ p ∈ q, ∃ l2 a2 h2 nx2, r ∈ l2 ∧ Good P F ih ops p l2 a2 h2 nx2 ∧ r.post.next ≤ p.n0 ∧ r.i < p.i) ∧ r.post.next ≤ NE := by
  induction t with
  | nil => cases hr
  | @cons l a a' h nx p t g hp ih =>
    rcases List.mem_cons.1 hr with rfl | hm
    · exact ⟨[], l, a, h, nx, rfl, t, g, fun p hp => absurd hp (by simp), Nat.le_refl _⟩
    · obtain ⟨q, l1, a1, h1, nx1, e, t1, g1, hq, hle⟩ := ih hm
      obtain ⟨_, _, _, he⟩ := t.each
      obtain ⟨_, _, k1, _, _, k2, _⟩ := he r hm
      have h3 := g.n0; have h4 := g.n1
      refine ⟨p :: q, l1, a1, h1, nx1, by rw [e]; rfl, t1, g1, fun p2 hp2 => ?_, by omega⟩
      rcases List.mem_cons.1 hp2 with rfl | hp2
      · exact ⟨l, a, h, nx, hm, g, by rw [g.n0]; exact k1, by rw [g.i]; exact k2⟩
      · exact hq p2 hp2
def Closed (ops : Array Oper) (S : Nat → Bool) : Prop := ∀ k o, ops[k]? = some o → S k = true → ∀ e ∈ o.after, Region.binds .any e = true → S e.on = true
theorem Tr.waits (t : Tr P F ih ops a0 h0 N0 l a h nx) {S : Nat → Bool} (hc : Closed ops S) : ∀ r ∈ l, ∀ k, r.mask.testBit k = true → (∀ e ∈ r.o.after, Region.binds .any e = true → S e.on = true) → S k = true := by
  induction t with
  | nil => intro r hr; cases hr
  | @cons l a a' h nx p t g hp ih =>
    intro r hr k hk hs
    rcases List.mem_cons.1 hr with rfl | hm
    · obtain ⟨e, he, hb, hx⟩ := g.mb k hk
      have := hs e he hb
      rcases hx with rfl | ⟨p, hp2, e2, hb2⟩
      · exact this
      · exact ih p hp2 k hb2 (hc p.i p.o (t.each.2.2.2 p hp2).2.2.2.2.2.2 (by rw [e2]; exact this))
    · exact ih r hm k hk hs
/-! ### Every order -/
def res (m : Mp) (N : Nat) : Mp := fun b => if b < N then m b else none
theorem res_le {N : Nat} : (res m N).le m := fun b x e => by
  unfold res at e; split at e
  · exact e
  · cases e
theorem res_some {N b : Nat} {x : Nat × Nat} (h : res m N b = some x) : b < N ∧ m b = some x := by
  unfold res at h; split at h
  · exact ⟨‹_›, h⟩
  · cases h
theorem res_lt {N b : Nat} (h : b < N) : res m N b = m b := if_pos h
theorem res_mono {N N' : Nat} (h : N ≤ N') : (res m N).le (res m N') := fun b x e => by
  obtain ⟨h1, h2⟩ := res_some e
  rw [res_lt (by omega)]; exact h2
theorem res_mono2 {N : Nat} (h : m.le m2) : (res m N).le (res m2 N) := fun b x e => by
  obtain ⟨h1, h2⟩ := res_some e
  rw [res_lt h1]; exact h _ _ h2
structure DI (P : Program) (L : List Rc) (a0 : Fr) (h0 : T AObj) (N0 NE : Nat) (m0 : Mp) (A0 : Act) (w0 : World) (S : Nat → Bool) (m : Mp) (A : Act) (w : World) : Prop where
  rel : ∀ b o, (Hv S h0 N0 b L).1 = some o → ∃ c x o', m b = some (c, x) ∧ w.heap[c]? = some o' ∧ OO P (res m (Hv S h0 N0 b L).2) x o o'
  inj : ∀ b b' o o' c x x', (Hv S h0 N0 b L).1 = some o → (Hv S h0 N0 b' L).1 = some o' → m b = some (c, x) → m b' = some (c, x') → b = b'
  ext : m0.le m
  old : ∀ b, b < N0 → m b = m0 b
  new : ∀ r ∈ L, S r.i = false → ∀ b, r.n0 ≤ b → b < r.post.next → m b = none
  top : ∀ b, NE ≤ b → m b = none
  tm : ∀ t v, (Tv S a0 N0 t L).1 = some v → ∃ v', A.tmps[t]? = some v' ∧ VR (res m (Tv S a0 N0 t L).2) v v'
  sz : A.tmps.size = a0.n
  df : A.defers = A0.defers
  dm : ∀ b, b < N0 → (Hv S h0 N0 b L).1 ≠ none → h0.get b ≠ none
  fr : ∀ c, c < w0.heap.size → (∀ b o x, h0.get b = some o → m0 b ≠ some (c, x)) → w.heap[c]? = w0.heap[c]?
  fresh : ∀ b c x, m0 b = none → m b = some (c, x) → w0.heap.size ≤ c ∨ ∃ b1 o1 x1, h0.get b1 = some o1 ∧ m0 b1 = some (c, x1)
  size : w0.heap.size ≤ w.heap.size
  os : w.os = w0.os
  out : w.output = w0.output
  tape : w.tape = w0.tape
  un : ∀ b o c x, h0.get b = some o → m0 b = some (c, x) → (∀ r ∈ L, S r.i = true → r.post.wr.get b = none) → w.heap[c]? = w0.heap[c]?
structure Base (P : Program) (F : T (Option FI)) (ih : Rec) (ops : Array Oper) (L : List Rc) (a0 aE : Fr) (h0 hE : T AObj) (N0 NE : Nat) (m0 : Mp) (A0 : Act) (w0 : World) : Prop where
  tr : Tr P F ih ops a0 h0 N0 L aE hE NE
  len : L.length = ops.size
  ok : ∃ s, s.heap = h0 ∧ s.next = N0 ∧ Ok P m0 s w0
  fr : FrR m0 a0 A0
theorem Base.lt (B : Base P F ih ops L a0 aE h0 hE N0 NE m0 A0 w0) : ∀ b x, m0 b = some x → b < N0 := fun b x e => by
  obtain ⟨s, rfl, rfl, ho⟩ := B.ok
  rcases Nat.lt_or_ge b s.next with h | h
  · exact h
  · rw [ho.new b h] at e; cases e
theorem Base.hd (B : Base P F ih ops L a0 aE h0 hE N0 NE m0 A0 w0) : ∀ b o, h0.get b = some o → b < N0 := fun b o e => by
  obtain ⟨s, rfl, rfl, ho⟩ := B.ok
  obtain ⟨c, x, _, e2, _⟩ := ho.dom b o e
  exact B.lt b _ e2
theorem DI.start (B : Base P F ih ops L a0 aE h0 hE N0 NE m0 A0 w0) {S : Nat → Bool} (hS : ∀ i, S i = false) : DI P L a0 h0 N0 NE m0 A0 w0 S m0 A0 w0 := by
  have e1 : ∀ b, Hv S h0 N0 b L = (h0.get b, N0) := fun b => ovr_base fun p _ h => by rw [hS] at h; cases h
  have e2 : ∀ t, Tv S a0 N0 t L = (a0.t.get t, N0) := fun t => ovr_base fun p _ h => by rw [hS] at h; cases h
  have hle : m0.le (res m0 N0) := fun b x e => by rw [res_lt (B.lt b x e)]; exact e
  have hlt := B.lt
  obtain ⟨s, hh, hn, ho⟩ := B.ok
  subst hh; subst hn
  refine ⟨fun b o e => ?_, fun b b' o o' c x x' h1 h2 => ?_, .refl _, fun _ _ => rfl, fun r hr _ b h1 h2 => ?_, fun b hb => ?_, fun t v e => ?_, B.fr.n, rfl, fun b _ h => ?_, fun _ _ _ => rfl, fun b c x h1 h2 => ?_, Nat.le_refl _, rfl, rfl, rfl, fun _ _ _ _ _ _ _ => rfl⟩
  · rw [e1] at e ⊢
    obtain ⟨c, x, o', k1, k2, k3⟩ := ho.dom b o e
    exact ⟨c, x, o', k1, k2, k3.mono hle⟩
  · rw [e1] at h1 h2; exact ho.inj b b' o o' c x x' h1 h2
  · exact ho.new b (Nat.le_trans (B.tr.each.2.2.2 r hr).1 h1)
  · exact ho.new b (Nat.le_trans B.tr.each.1 hb)
  · rw [e2] at e ⊢
    obtain ⟨v', k1, k2⟩ := B.fr.t t v e
    exact ⟨v', k1, k2.mono hle⟩
  · rw [e1] at h; exact h
  · rw [h1] at h2; cases h2
end
end Go.Proofs.YtgfnakdfhfoplaaGreatDoor.Cx
