/- graph: a seeker of knots in memory; lower, tie, leave told. -/
import Derived.Test.YtghfodjefjijdaaGrJ
namespace Go.Proofs.Ytghfodjefjijdaa
section
open Go Go.RowKit Go.Shelf
attribute [local go_sem ↓] Go.wp_at_zero Go.wp_at_succ
/-- A step of the way in memory: its thing, what is left, and the slice that holds that. -/
structure Fr where
  at_ : Nat
  left : List Nat
  v : Value
def Fr.pair (f : Fr) : Nat × List Nat := (f.at_, f.left)
def frV (l : List Fr) : List Value := l.flatMap fun f => [.int .i64 (f.at_ : Int), f.v]
theorem frV_append (l k : List Fr) : frV (l ++ k) = frV l ++ frV k := by simp [frV]
theorem frV_len (l : List Fr) : (frV l).length = l.length * 2 := by
  unfold frV
  induction l with
  | nil => rfl
  | cons f r ih =>
    rw [List.flatMap_cons, List.length_append, ih, List.length_cons]
    simp
    omega
/-- What is left, as a slice: its cells lie in none of the blocks of P. -/
def LeftAt (w : World) (P : Nat → Prop) (v : Value) (l : List Nat) : Prop :=
  ∃ (p : Option Addr) (cap : Nat), v = .slice p l.length cap ∧ l.length ≤ cap ∧ (∀ a, p = some a → a.block < w.heap.size) ∧ ∀ (j x : Nat), l[j]? = some x → ∃ g off, p = some ⟨g, off, none⟩ ∧ ¬ P g ∧ (∃ cs fr, w.heap[g]? = some (.cells cs 3 fr)) ∧ w.cell? ⟨g, off + j, none⟩ = some (.int .i64 (x : Int))
theorem LeftAt.kept {w w' : World} {P Q : Nat → Prop} {v : Value} {l : List Nat} {row : Option Nat} (h : LeftAt w P v l) (hg : w.grownBy w' row) (hr : ∀ g, ¬ P g → (∃ cs fr, w.heap[g]? = some (.cells cs 3 fr)) → some g ≠ row ∧ ¬ Q g) : LeftAt w' Q v l := by
  obtain ⟨p, cap, e, hc, hz, h1⟩ := h
  refine ⟨p, cap, e, hc, fun a ha => Nat.lt_of_lt_of_le (hz a ha) hg.size, fun j x hx => ?_⟩
  obtain ⟨g, off, e2, hP, ⟨cs, fr, hb⟩, h2⟩ := h1 j x hx
  obtain ⟨h3, h4⟩ := hr g hP ⟨cs, fr, hb⟩
  exact ⟨g, off, e2, h4, ⟨cs, fr, heap_kept hb hg h3⟩, (Joins.cell_of_block (heap_kept hb hg h3) _).trans ((Joins.cell_of_block hb _).symm.trans h2)⟩
/-- Blocks of numbers that a seeker writes. -/
def SkB (mb lb kb : Nat) (ov dv : Value) : Nat → Prop := fun g => g = mb ∨ g = lb ∨ g = kb ∨ ov.ownBlock = some g ∨ dv.ownBlock = some g
def skOb (gv : Value) (times : Nat) (mb lb kb n : Nat) (pv ov : Value) (knots : Nat) (dv : Value) : Obj :=
  .cells #[gv, .int .i64 (times : Int), .slice (some ⟨mb, 0, none⟩) n n, .slice (some ⟨lb, 0, none⟩) n n, pv, ov, .int .i64 (knots : Int), .slice (some ⟨kb, 0, none⟩) n n, dv] 57 (0, 0)
/-- A seeker in memory. -/
structure SkAt (w : World) (B sb mb lb kb n : Nat) (gv pv ov dv : Value) (F : List Fr) (s : Sk) : Prop where
  sk : w.heap[sb]? = some (skOb gv s.times mb lb kb n pv ov s.knots dv)
  me : Vec w mb 3 n (fun i => .int .i64 (s.met i : Int))
  lo : Vec w lb 3 n (fun i => .int .i64 (s.low i : Int))
  kn : Vec w kb 3 n (fun i => .int .i64 (s.kn i))
  fp : s.path = F.map Fr.pair
  pr : w.ownsRow B 78 2 pv F.length (frV F)
  opr : w.ownsRow B 3 1 ov s.opn.length (intsV s.opn)
  dr : w.ownsRow B 3 1 dv s.done.length (intsV s.done)
  lf : ∀ f ∈ F, LeftAt w (SkB mb lb kb ov dv) f.v f.left
  a1 : mb ≠ lb ∧ mb ≠ kb ∧ lb ≠ kb
  a2 : ∀ g, ov.ownBlock = some g → g ≠ mb ∧ g ≠ lb ∧ g ≠ kb
  a3 : ∀ g, dv.ownBlock = some g → g ≠ mb ∧ g ≠ lb ∧ g ≠ kb ∧ ov.ownBlock ≠ some g
  bs : B ≤ sb ∧ B ≤ mb ∧ B ≤ lb ∧ B ≤ kb ∧ B ≤ w.heap.size
section
variable {w w' : World} {B sb mb lb kb n : Nat} {gv pv ov dv pv' ov' dv' : Value} {F : List Fr} {s : Sk}
theorem ne_of_types {w : World} {b c : Nat} {cs cs' : Array Value} {t t' : TypeId} {fr fr' : Nat × Nat} (h : w.heap[b]? = some (.cells cs t fr)) (h' : w.heap[c]? = some (.cells cs' t' fr')) (ht : t ≠ t') : b ≠ c := fun e => by
  rw [e, h'] at h
  injection h with h
  injection h with _ h
  exact ht h.symm
theorem row_ne {w : World} {B e sz k b : Nat} {v : Value} {xs : List Value} {cs : Array Value} {t : TypeId} {fr : Nat × Nat} (h : w.ownsRow B e sz v k xs) (hb : w.heap[b]? = some (.cells cs t fr)) (ht : t ≠ e) : v.ownBlock ≠ some b := fun hv => by
  rcases h.2 with ⟨rfl, _⟩ | ⟨g, cap, cur, rfl, _, hh, _⟩
  · cases hv
  · obtain rfl := Option.some.inj hv
    exact ne_of_types hb hh ht rfl
theorem SkAt.up (h : SkAt w B sb mb lb kb n gv pv ov dv F s) (hb : Below w.heap.size w w') : SkAt w' B sb mb lb kb n gv pv ov dv F s :=
  { h with
    sk := heap_up h.sk hb, me := heap_up h.me hb, lo := heap_up h.lo hb, kn := heap_up h.kn hb
    pr := ownsBelow h.pr hb, opr := ownsBelow h.opr hb, dr := ownsBelow h.dr hb
    lf := fun f hf => (h.lf f hf).kept (grown_below none hb) (fun g hP _ => ⟨by simp, hP⟩)
    bs := ⟨h.bs.1, h.bs.2.1, h.bs.2.2.1, h.bs.2.2.2.1, Nat.le_trans h.bs.2.2.2.2 hb.size⟩ }
/-- What is at the seeker's places, but for its slices that grow. -/
structure SkC (w : World) (B sb mb lb kb n : Nat) (met low : Nat → Nat) (kn : Nat → Int) : Prop where
  sk : ∃ cs, w.heap[sb]? = some (.cells cs 57 (0, 0))
  me : Vec w mb 3 n (fun i => .int .i64 (met i : Int))
  lo : Vec w lb 3 n (fun i => .int .i64 (low i : Int))
  kn : Vec w kb 3 n (fun i => .int .i64 (kn i))
  a1 : mb ≠ lb ∧ mb ≠ kb ∧ lb ≠ kb
  bs : B ≤ sb ∧ B ≤ mb ∧ B ≤ lb ∧ B ≤ kb ∧ B ≤ w.heap.size
theorem SkAt.core (h : SkAt w B sb mb lb kb n gv pv ov dv F s) : SkC w B sb mb lb kb n s.met s.low s.kn := ⟨⟨_, h.sk⟩, h.me, h.lo, h.kn, h.a1, h.bs⟩
theorem SkC.kept {met low : Nat → Nat} {kn : Nat → Int} {row : Option Nat} (h : SkC w B sb mb lb kb n met low kn) (hg : w.grownBy w' row) (hr : ∀ r, row = some r → r ≠ sb ∧ r ≠ mb ∧ r ≠ lb ∧ r ≠ kb) : SkC w' B sb mb lb kb n met low kn := by
  obtain ⟨cs, hs⟩ := h.sk
  exact ⟨⟨cs, heap_kept hs hg (fun e => (hr sb e.symm).1 rfl)⟩, heap_kept h.me hg (fun e => (hr mb e.symm).2.1 rfl), heap_kept h.lo hg (fun e => (hr lb e.symm).2.2.1 rfl), heap_kept h.kn hg (fun e => (hr kb e.symm).2.2.2 rfl), h.a1, ⟨h.bs.1, h.bs.2.1, h.bs.2.2.1, h.bs.2.2.2.1, Nat.le_trans h.bs.2.2.2.2 hg.size⟩⟩
/-- A number of the seeker's struct, or a slice, is stored. -/
theorem SkC.field {s' : Sk} (h : SkC w B sb mb lb kb n s'.met s'.low s'.kn) (i : Nat) (v : Value) {F' : List Fr}
    (hob : (w.setCell ⟨sb, i, none⟩ v).heap[sb]? = some (skOb gv s'.times mb lb kb n pv' ov' s'.knots dv')) (hp : s'.path = F'.map Fr.pair)
    (hpr : w.ownsRow B 78 2 pv' F'.length (frV F')) (hor : w.ownsRow B 3 1 ov' s'.opn.length (intsV s'.opn)) (hdr : w.ownsRow B 3 1 dv' s'.done.length (intsV s'.done))
    (hlf : ∀ f ∈ F', LeftAt w (SkB mb lb kb ov' dv') f.v f.left) (h2 : ∀ g, ov'.ownBlock = some g → g ≠ mb ∧ g ≠ lb ∧ g ≠ kb) (h3 : ∀ g, dv'.ownBlock = some g → g ≠ mb ∧ g ≠ lb ∧ g ≠ kb ∧ ov'.ownBlock ≠ some g) :
    SkAt (w.setCell ⟨sb, i, none⟩ v) B sb mb lb kb n gv pv' ov' dv' F' s' := by
  have sg := set_grown w sb i v
  obtain ⟨cs, hs⟩ := h.sk
  have nm := ne_of_types h.me hs (by decide)
  have nl := ne_of_types h.lo hs (by decide)
  have nk := ne_of_types h.kn hs (by decide)
  refine { sk := hob, me := heap_set_other _ h.me nm, lo := heap_set_other _ h.lo nl, kn := heap_set_other _ h.kn nk, fp := hp, pr := ownsKeep hpr sg (fun g e e2 => row_ne hpr hs (by decide) (by rw [e]; exact e2.symm)), opr := ownsKeep hor sg (fun g e e2 => row_ne hor hs (by decide) (by rw [e]; exact e2.symm)), dr := ownsKeep hdr sg (fun g e e2 => row_ne hdr hs (by decide) (by rw [e]; exact e2.symm)), lf := fun f hf => (hlf f hf).kept sg (fun g hP hb => ⟨?_, hP⟩), a1 := h.a1, a2 := h2, a3 := h3, bs := ⟨h.bs.1, h.bs.2.1, h.bs.2.2.1, h.bs.2.2.2.1, by simpa [World.setCell] using h.bs.2.2.2.2⟩ }
  obtain ⟨cs, fr, hb⟩ := hb
  exact fun e => ne_of_types hb hs (by decide) (Option.some.inj e)
/-- One more thing whose knot is known. -/
theorem SkAt.appDone {w1 : World} {o : Obj} {x : Nat} (h : SkAt w B sb mb lb kb n gv pv ov dv F s) (hr : w1.ownsRow B 3 1 dv' (s.done.length + 1) (intsV s.done ++ [.int .i64 (x : Int)])) (hg : (w.alloc o).grownBy w1 dv.ownBlock) (hat : dv'.ownBlock = dv.ownBlock ∨ dv'.ownBlock = some (w.heap.size + 1)) :
    SkAt (w1.setCell ⟨sb, 8, none⟩ dv') B sb mb lb kb n gv pv ov dv' F { s with done := s.done ++ [x] } := by
  have hg1 : w.grownBy w1 dv.ownBlock := (World.grownBy_alloc w o _).trans hg
  have hsb : dv.ownBlock ≠ some sb := row_ne h.dr h.sk (by decide)
  have hc : SkC w1 B sb mb lb kb n s.met s.low s.kn := h.core.kept hg1 (fun r e => ⟨fun e2 => hsb (by rw [e, e2]), (h.a3 r e).1, (h.a3 r e).2.1, (h.a3 r e).2.2.1⟩)
  have hnew : ∀ g, dv'.ownBlock = some g → dv.ownBlock = some g ∨ g = w.heap.size + 1 := fun g e => by
    rcases hat with e2 | e2
    · exact .inl (by rw [← e2]; exact e)
    · rw [e] at e2
      exact .inr (Option.some.inj e2)
  have lm := h.me.lt
  have ll := h.lo.lt
  have lk := h.kn.lt
  refine SkC.field (s' := { s with done := s.done ++ [x] }) hc 8 dv' ?_ h.fp (ownsKeep h.pr hg1 (fun g e e2 => rows_apart (by decide) h.pr h.dr g e e2)) (ownsKeep h.opr hg1 (fun g e e2 => (h.a3 g e2).2.2.2 e)) ?_ (fun f hf => (h.lf f hf).kept hg1 (fun g hP hb => ⟨fun e => hP (.inr (.inr (.inr (.inr e.symm)))), fun hQ => ?_⟩)) h.a2 (fun g e => ?_)
  · refine (Joins.block_setCell (heap_kept h.sk hg1 (fun e => hsb e.symm)) _).trans ?_
    simp [skOb]
  · rw [List.length_append, List.length_singleton, show intsV (s.done ++ [x]) = intsV s.done ++ [.int .i64 (x : Int)] by simp [intsV]]
    exact hr
  · obtain ⟨cs, fr, hb⟩ := hb
    rcases hQ with hQ | hQ | hQ | hQ | hQ
    · exact hP (.inl hQ)
    · exact hP (.inr (.inl hQ))
    · exact hP (.inr (.inr (.inl hQ)))
    · exact hP (.inr (.inr (.inr (.inl hQ))))
    · rcases hnew g hQ with e | e
      · exact hP (.inr (.inr (.inr (.inr e))))
      · have := Reg.size_of_get hb
        omega
  · rcases hnew g e with e | e
    · exact h.a3 g e
    · refine ⟨by omega, by omega, by omega, fun e2 => ?_⟩
      have := (ownsLt h.opr e2).2
      omega
theorem SkAt.far {w1 : World} {o : Obj} {row : Option Nat} (h : SkAt w B sb mb lb kb n gv pv ov dv F s) (hg : (w.alloc o).grownBy w1 row) (hne : row ≠ some sb) (i : Nat) : w1.cell? ⟨sb, i, none⟩ = w.cell? ⟨sb, i, none⟩ ∧ w1.frozen? ⟨sb, i, none⟩ = false := by
  have hk := heap_kept h.sk ((World.grownBy_alloc w o row).trans hg) (fun e => hne e.symm)
  exact ⟨(Joins.cell_of_block hk i).trans (Joins.cell_of_block h.sk i).symm, Joins.unfrozen_of_block hk i⟩
theorem SkAt.appOpn {w1 : World} {o : Obj} {x : Nat} (h : SkAt w B sb mb lb kb n gv pv ov dv F s) (hr : w1.ownsRow B 3 1 ov' (s.opn.length + 1) (intsV s.opn ++ [.int .i64 (x : Int)])) (hg : (w.alloc o).grownBy w1 ov.ownBlock) (hat : ov'.ownBlock = ov.ownBlock ∨ ov'.ownBlock = some (w.heap.size + 1)) :
    SkAt (w1.setCell ⟨sb, 5, none⟩ ov') B sb mb lb kb n gv pv ov' dv F { s with opn := s.opn ++ [x] } := by
  have hg1 : w.grownBy w1 ov.ownBlock := (World.grownBy_alloc w o _).trans hg
  have hsb : ov.ownBlock ≠ some sb := row_ne h.opr h.sk (by decide)
  have hc : SkC w1 B sb mb lb kb n s.met s.low s.kn := h.core.kept hg1 (fun r e => ⟨fun e2 => hsb (by rw [e, e2]), (h.a2 r e).1, (h.a2 r e).2.1, (h.a2 r e).2.2⟩)
  have hnew : ∀ g, ov'.ownBlock = some g → ov.ownBlock = some g ∨ g = w.heap.size + 1 := fun g e => by
    rcases hat with e2 | e2
    · exact .inl (by rw [← e2]; exact e)
    · rw [e] at e2
      exact .inr (Option.some.inj e2)
  have lm := h.me.lt
  have ll := h.lo.lt
  have lk := h.kn.lt
  refine SkC.field (s' := { s with opn := s.opn ++ [x] }) hc 5 ov' ?_ h.fp (ownsKeep h.pr hg1 (fun g e e2 => rows_apart (by decide) h.pr h.opr g e e2)) ?_ (ownsKeep h.dr hg1 (fun g e e2 => (h.a3 g e).2.2.2 e2)) (fun f hf => (h.lf f hf).kept hg1 (fun g hP hb => ⟨fun e => hP (.inr (.inr (.inr (.inl e.symm)))), fun hQ => ?_⟩)) (fun g e => ?_) (fun g e => ⟨(h.a3 g e).1, (h.a3 g e).2.1, (h.a3 g e).2.2.1, fun e2 => ?_⟩)
  · refine (Joins.block_setCell (heap_kept h.sk hg1 (fun e => hsb e.symm)) _).trans ?_
    simp [skOb]
  · rw [List.length_append, List.length_singleton, show intsV (s.opn ++ [x]) = intsV s.opn ++ [.int .i64 (x : Int)] by simp [intsV]]
    exact hr
  · obtain ⟨cs, fr, hb⟩ := hb
    rcases hQ with hQ | hQ | hQ | hQ | hQ
    · exact hP (.inl hQ)
    · exact hP (.inr (.inl hQ))
    · exact hP (.inr (.inr (.inl hQ)))
    · rcases hnew g hQ with e | e
      · exact hP (.inr (.inr (.inr (.inl e))))
      · have := Reg.size_of_get hb
        omega
    · exact hP (.inr (.inr (.inr (.inr hQ))))
  · rcases hnew g e with e | e
    · exact h.a2 g e
    · exact ⟨by omega, by omega, by omega⟩
  · rcases hnew g e2 with e3 | e3
    · exact (h.a3 g e).2.2.2 e3
    · have := (ownsLt h.dr e).2
      omega
/-- The last element of a row is left out. -/
theorem row_pop {w : World} {B e sz k : Nat} {p : Option Addr} {cap : Nat} {xs ys : List Value} (h : w.ownsRow B e sz (.slice p (k + 1) cap) (k + 1) (xs ++ ys)) (hl : xs.length = k * sz) : ∃ g, p = some ⟨g, 0, none⟩ ∧ k + 1 ≤ cap ∧ w.ownsRow B e sz (.slice (some ⟨g, 0, none⟩) k cap) k xs := by
  rcases h.2 with ⟨_, h0⟩ | ⟨g, cap', cur, hv, hb, hh, hn, hm, hs, ht⟩
  · omega
  · injection hv with hv _ hv2
    subst hv hv2
    refine ⟨g, rfl, hn, ⟨hl, .inr ⟨g, cap, cur, rfl, hb, hh, by omega, hm, hs, ?_⟩⟩⟩
    have h2 : (cur.toList.take ((k + 1) * sz)).take (k * sz) = (xs ++ ys).take (k * sz) := by rw [ht]
    rw [List.take_take, Nat.min_eq_left (Nat.mul_le_mul_right _ (Nat.le_succ _))] at h2
    rw [h2, ← hl]
    simp
/-- The last open thing is taken off. -/
theorem SkAt.popOpn {A : List Nat} {x : Nat} {p : Option Addr} {k cap : Nat} (h : SkAt w B sb mb lb kb n gv pv (.slice p (k + 1) cap) dv F s) (ho : s.opn = A ++ [x]) (hk : k = A.length) :
    ∃ g, p = some ⟨g, 0, none⟩ ∧ k + 1 ≤ cap ∧ w.cell? ⟨g, k, none⟩ = some (.int .i64 (x : Int)) ∧ SkAt (w.setCell ⟨sb, 5, none⟩ (.slice (some ⟨g, 0, none⟩) k cap)) B sb mb lb kb n gv pv (.slice (some ⟨g, 0, none⟩) k cap) dv F { s with opn := A } := by
  have hr := h.opr
  have e1 : s.opn.length = k + 1 := by rw [ho, List.length_append, hk]; rfl
  rw [e1] at hr
  obtain ⟨g, cap', e2, _, _, hcell⟩ := row_form hr (by omega)
  injection e2 with e2 _ e3
  subst e2 e3
  have hr2 := hr
  rw [ho, show intsV (A ++ [x]) = intsV A ++ [.int .i64 (x : Int)] by simp [intsV]] at hr2
  obtain ⟨g2, e4, hcap, hrow⟩ := row_pop hr2 (by rw [intsV_len, hk, Nat.mul_one])
  injection e4 with e4
  injection e4 with e4
  subst e4
  refine ⟨g, rfl, hcap, hcell k x (by rw [ho, hk]; simp), ?_⟩
  refine SkC.field (s' := { s with opn := A }) h.core 5 _ ?_ h.fp h.pr (by rw [hk] at hrow ⊢; exact hrow) h.dr (fun f hf => h.lf f hf) (fun g e => h.a2 g e) (fun g e => h.a3 g e)
  refine (Joins.block_setCell h.sk _).trans ?_
  simp [skOb]
theorem SkAt.setMet (h : SkAt w B sb mb lb kb n gv pv ov dv F s) (i x : Nat) : SkAt (w.setCell ⟨mb, i, none⟩ (.int .i64 (x : Int))) B sb mb lb kb n gv pv ov dv F { s with met := upd s.met i x } := by
  have sg := set_grown w mb i (.int .i64 (x : Int))
  refine { h with sk := heap_set_other _ h.sk (Ne.symm (ne_of_types h.me h.sk (by decide))), me := ?_, lo := heap_set_other _ h.lo (Ne.symm h.a1.1), kn := heap_set_other _ h.kn (Ne.symm h.a1.2.1), pr := ownsKeep h.pr sg (fun g e e2 => row_ne h.pr h.me (by decide) (by rw [e]; exact e2.symm)), opr := ownsKeep h.opr sg (fun g e e2 => (h.a2 g e).1 (Option.some.inj e2).symm), dr := ownsKeep h.dr sg (fun g e e2 => (h.a3 g e).1 (Option.some.inj e2).symm), lf := fun f hf => (h.lf f hf).kept sg (fun g hP _ => ⟨fun e => hP (.inl (Option.some.inj e)), hP⟩), bs := ⟨h.bs.1, h.bs.2.1, h.bs.2.2.1, h.bs.2.2.2.1, by simpa [World.setCell] using h.bs.2.2.2.2⟩ }
  have := h.me.set i (.int .i64 (x : Int))
  have e : upd (fun i => Value.int .i64 (s.met i : Int)) i (.int .i64 (x : Int)) = fun j => .int .i64 ((upd s.met i x) j : Int) := by
    funext j
    unfold upd
    split <;> rfl
  rw [e] at this
  exact this
theorem SkAt.setLow (h : SkAt w B sb mb lb kb n gv pv ov dv F s) (i x : Nat) : SkAt (w.setCell ⟨lb, i, none⟩ (.int .i64 (x : Int))) B sb mb lb kb n gv pv ov dv F { s with low := upd s.low i x } := by
  have sg := set_grown w lb i (.int .i64 (x : Int))
  refine { h with sk := heap_set_other _ h.sk (Ne.symm (ne_of_types h.lo h.sk (by decide))), lo := ?_, me := heap_set_other _ h.me h.a1.1, kn := heap_set_other _ h.kn (Ne.symm h.a1.2.2), pr := ownsKeep h.pr sg (fun g e e2 => row_ne h.pr h.lo (by decide) (by rw [e]; exact e2.symm)), opr := ownsKeep h.opr sg (fun g e e2 => (h.a2 g e).2.1 (Option.some.inj e2).symm), dr := ownsKeep h.dr sg (fun g e e2 => (h.a3 g e).2.1 (Option.some.inj e2).symm), lf := fun f hf => (h.lf f hf).kept sg (fun g hP _ => ⟨fun e => hP (.inr (.inl (Option.some.inj e))), hP⟩), bs := ⟨h.bs.1, h.bs.2.1, h.bs.2.2.1, h.bs.2.2.2.1, by simpa [World.setCell] using h.bs.2.2.2.2⟩ }
  have := h.lo.set i (.int .i64 (x : Int))
  have e : upd (fun i => Value.int .i64 (s.low i : Int)) i (.int .i64 (x : Int)) = fun j => .int .i64 ((upd s.low i x) j : Int) := by
    funext j
    unfold upd
    split <;> rfl
  rw [e] at this
  exact this
theorem SkAt.setKn (h : SkAt w B sb mb lb kb n gv pv ov dv F s) (i : Nat) (x : Int) : SkAt (w.setCell ⟨kb, i, none⟩ (.int .i64 x)) B sb mb lb kb n gv pv ov dv F { s with kn := upd s.kn i x } := by
  have sg := set_grown w kb i (.int .i64 x)
  refine { h with sk := heap_set_other _ h.sk (Ne.symm (ne_of_types h.kn h.sk (by decide))), kn := ?_, me := heap_set_other _ h.me h.a1.2.1, lo := heap_set_other _ h.lo h.a1.2.2, pr := ownsKeep h.pr sg (fun g e e2 => row_ne h.pr h.kn (by decide) (by rw [e]; exact e2.symm)), opr := ownsKeep h.opr sg (fun g e e2 => (h.a2 g e).2.2 (Option.some.inj e2).symm), dr := ownsKeep h.dr sg (fun g e e2 => (h.a3 g e).2.2.1 (Option.some.inj e2).symm), lf := fun f hf => (h.lf f hf).kept sg (fun g hP _ => ⟨fun e => hP (.inr (.inr (.inl (Option.some.inj e)))), hP⟩), bs := ⟨h.bs.1, h.bs.2.1, h.bs.2.2.1, h.bs.2.2.2.1, by simpa [World.setCell] using h.bs.2.2.2.2⟩ }
  have := h.kn.set i (.int .i64 x)
  have e : upd (fun i => Value.int .i64 (s.kn i)) i (.int .i64 x) = fun j => .int .i64 ((upd s.kn i x) j) := by
    funext j
    unfold upd
    split <;> rfl
  rw [e] at this
  exact this
end
theorem SkAt.cells {w : World} {B sb mb lb kb n : Nat} {gv pv ov dv : Value} {F : List Fr} {s : Sk} (h : SkAt w B sb mb lb kb n gv pv ov dv F s) :
    w.cell? ⟨sb, 0, none⟩ = some gv ∧ w.cell? ⟨sb, 1, none⟩ = some (.int .i64 (s.times : Int)) ∧ w.cell? ⟨sb, 2, none⟩ = some (.slice (some ⟨mb, 0, none⟩) n n) ∧ w.cell? ⟨sb, 3, none⟩ = some (.slice (some ⟨lb, 0, none⟩) n n) ∧ w.cell? ⟨sb, 4, none⟩ = some pv ∧ w.cell? ⟨sb, 5, none⟩ = some ov ∧ w.cell? ⟨sb, 6, none⟩ = some (.int .i64 (s.knots : Int)) ∧ w.cell? ⟨sb, 7, none⟩ = some (.slice (some ⟨kb, 0, none⟩) n n) ∧ w.cell? ⟨sb, 8, none⟩ = some dv := by
  have hc := fun i => Joins.cell_of_block h.sk i
  refine ⟨(hc 0).trans rfl, (hc 1).trans rfl, (hc 2).trans rfl, (hc 3).trans rfl, (hc 4).trans rfl, (hc 5).trans rfl, (hc 6).trans rfl, (hc 7).trans rfl, (hc 8).trans rfl⟩
set_option maxRecDepth 100000 in
set_option maxHeartbeats 4000000 in
theorem glower_any {w : World} {B sb mb lb kb n : Nat} {gv pv ov dv : Value} {F : List Fr} {s : Sk} (h : SkAt w B sb mb lb kb n gv pv ov dv F s) (u t : Nat) (hu : u < n) :
    Calls Try.prog 35 #[.pointer (some ⟨sb, 0, none⟩), .int .i64 (u : Int), .int .i64 (t : Int)] w fun e w' => e = .returned (.tuple #[]) ∧ SkAt w' B sb mb lb kb n gv pv ov dv F { s with low := upd s.low u (min (s.low u) t) } ∧ Below B w w' := by
  obtain ⟨_, _, _, c3, _⟩ := h.cells
  have cl := h.lo.cell hu
  have fl := h.lo.unfrozen u
  have hmin : min (s.low u : Int) (t : Int) = ((min (s.low u) t : Nat) : Int) := by omega
  have HS := qhid ((h.setLow u (min (s.low u) t)).up (Below.drew (Below.refl _ _)))
  have HB := qhid h.bs
  clear h
  go_enter Try.func35, Try.ntmps35
  go_wp2_with fail
  go_region
  go_end0
  exact ⟨rfl, HS.out, ((Below.refl B w).setCell (p := ⟨lb, u, none⟩) HB.out.2.2.1 _).drew⟩
/-- What a seeker's function leaves. -/
structure SkTo (w w' : World) (B sb mb lb kb n : Nat) (gv : Value) (F : List Fr) (s : Sk) : Prop where
  ex : ∃ pv ov dv, SkAt w' B sb mb lb kb n gv pv ov dv F s
  be : Below B w w'
/-- A knot is tied. -/
def Sk.tied (s : Sk) (A L : List Nat) : Sk := { s with opn := A, kn := fun v => if v ∈ L then (s.knots : Int) else s.kn v, knots := s.knots + 1, done := s.done ++ L.reverse }
/-- The knots, when those of L are known to be of knot k. -/
def knU (kn : Nat → Int) (L : List Nat) (k : Nat) : Nat → Int := fun v => if v ∈ L then (k : Int) else kn v
theorem knU_nil (kn : Nat → Int) (k : Nat) : knU kn [] k = kn := by funext v; simp [knU]
theorem knU_cons (kn : Nat → Int) (x : Nat) (L : List Nat) (k : Nat) : upd (knU kn L k) x (k : Int) = knU kn (x :: L) k := by
  funext v
  unfold upd knU
  by_cases e : v = x
  · simp [e]
  · simp [e]
set_option maxRecDepth 100000 in
set_option maxHeartbeats 4000000 in
theorem gtie_any {w : World} {B sb mb lb kb n : Nat} {gv pv ov dv : Value} {F : List Fr} {s : Sk} (h : SkAt w B sb mb lb kb n gv pv ov dv F s) (A Z : List Nat) (t : Nat) (ho : s.opn = A ++ t :: Z) (hk : s.kn t = -1) (hlt : ∀ v ∈ t :: Z, v < n) (ht : t ∉ Z) (hn : s.done.length + (t :: Z).length ≤ 1048576) (hA : A.length + (t :: Z).length ≤ 1048576) (hks : s.knots ≤ 1048576) :
    Calls Try.prog 41 #[.pointer (some ⟨sb, 0, none⟩), .int .i64 (t : Int)] w fun e w' => e = .returned (.tuple #[]) ∧ SkTo w w' B sb mb lb kb n gv F (s.tied A (t :: Z)) := by
  obtain ⟨kk, hkk⟩ : ∃ k, k = s.knots := ⟨_, rfl⟩
  have H0 : Hid (SkAt w B sb mb lb kb n gv pv ov dv F { s with opn := A ++ (t :: Z), kn := knU s.kn [] kk, done := s.done ++ ([] : List Nat).reverse }) := qhid (by
    rw [knU_nil, ← ho, List.reverse_nil, List.append_nil]
    exact h)
  have HB := qhid (Below.refl B w)
  have HLT := qhid hlt
  have HK := qhid hk
  have HT := qhid ht
  have HKK := qhid hkk
  have HBS := qhid h.bs
  have htn := hlt t (by simp)
  have hks2 : kk ≤ 1048576 := by rw [hkk]; exact hks
  clear h ho hlt hk ht hkk hks
  go_enter Try.func41, Try.ntmps41
  go_wp2_with fail
  go_loopg [] ((t :: Z).length) (fun gk wr => ∃ (Y1 Y2 : List Nat) (ov' dv' : Value), Y1.length ≤ gk ∧ Hid (t :: Z = Y1 ++ Y2) ∧ Hid (SkAt wr B sb mb lb kb n gv pv ov' dv' F { s with opn := A ++ Y1, kn := knU s.kn Y2 kk, done := s.done ++ Y2.reverse }) ∧ Hid (Below B w wr))
  case atStart => exact ⟨t :: Z, [], ov, dv, Nat.le_refl _, qhid (List.append_nil _).symm, H0, HB⟩
  case round =>
    clear H0 HB
    obtain ⟨Y1, Y2, ov1, dv1, hgk, HY, HS, HB⟩ := hrel
    obtain ⟨_, _, _, _, _, c5, c6, c7, c8⟩ := HS.out.cells
    have ck := HS.out.kn.cell htn
    have hyl := congrArg List.length HY.out
    rw [List.length_append] at hyl
    have HYL := qhid hyl
    clear hyl
    rcases List.eq_nil_or_concat Y1 with rfl | ⟨Y, x, rfl⟩
    · -- all are tied
      have hkt : knU s.kn Y2 kk t = (kk : Int) := by
        unfold knU
        have h2 : t :: Z = Y2 := HY.out
        rw [← h2]
        exact if_pos (List.mem_cons_self ..)
      have hd : ((kk : Int) == -1) = false := by simp
      have ck' : wr.cell? ⟨kb, t, none⟩ = some (.int .i64 (kk : Int)) := ck.trans (by show some (Value.int .i64 (knU s.kn Y2 kk t)) = _; rw [hkt])
      have c6' : wr.cell? ⟨sb, 6, none⟩ = some (.int .i64 (kk : Int)) := by rw [c6, HKK.out]
      have f6 := Joins.unfrozen_of_block HS.out.sk 6
      have HF := qhid (SkC.field (s' := s.tied A (t :: Z)) (by have := HS.out.core; rw [HKK.out] at this; rw [HY.out]; exact this) 6 (.int .i64 ((kk : Int) + 1)) (gv := gv) (ov' := ov1) (dv' := dv1) (pv' := pv) (F' := F) (by
        refine (Joins.block_setCell HS.out.sk _).trans ?_
        simp [skOb, Sk.tied, HKK.out]) HS.out.fp HS.out.pr (by have := HS.out.opr; dsimp only at this; rw [List.append_nil] at this; exact this) (by have := HS.out.dr; rw [HY.out]; exact this) HS.out.lf HS.out.a2 HS.out.a3)
      clear ck c5 c6 c8 hkt
      go_wp2_with fail
      go_end0
      exact ⟨rfl, ⟨pv, ov1, dv1, HF.out⟩, HB.out.setCell (p := ⟨sb, 6, none⟩) HBS.out.1 _⟩
    · rw [List.concat_eq_append] at hgk HY HS HYL
      have htY : t ∉ Y2 := fun hm => by
        have h1 := HY.out
        cases Y with
        | nil =>
          simp at h1
          exact HT.out (by rw [h1.2]; exact hm)
        | cons y r =>
          simp at h1
          exact HT.out (by rw [h1.2]; simp [hm])
      have hkt : knU s.kn Y2 kk t = -1 := by
        unfold knU
        rw [if_neg htY]
        exact HK.out
      have ck' : wr.cell? ⟨kb, t, none⟩ = some (.int .i64 (-1)) := ck.trans (by show some (Value.int .i64 (knU s.kn Y2 kk t)) = _; rw [hkt])
      obtain ⟨q, hq⟩ : ∃ q, q = (A ++ Y).length := ⟨_, rfl⟩
      have hq2 : q + (Y2.length + 1) ≤ 1048576 := by
        have := HYL.out
        rw [hq, List.length_append]
        simp at this hA ⊢
        omega
      obtain ⟨po, co, hov⟩ : ∃ p c, ov1 = .slice p (q + 1) c := by
        have := HS.out.opr
        rw [show (A ++ (Y ++ [x])).length = q + 1 by rw [hq]; simp [Nat.add_assoc]] at this
        exact row_slice this
      subst hov
      obtain ⟨g, hpo, hcap, cx, HS1⟩ := HS.out.popOpn (A := A ++ Y) (x := x) (by simp) hq
      subst hpo
      have hxn : x < n := HLT.out x (by rw [HY.out]; simp)
      have HS1 := qhid HS1
      have f5 := Joins.unfrozen_of_block HS.out.sk 5
      have c6' : wr.cell? ⟨sb, 6, none⟩ = some (.int .i64 (kk : Int)) := by rw [c6, HKK.out]
      have HQ := qhid hq
      clear ck c6 c8 hkt htY hq
      go_upto_region 4 with fail
      obtain ⟨W1, hW1⟩ : ∃ X, X = wr.setCell ⟨sb, 5, none⟩ (.slice (some ⟨g, 0, none⟩) q co) := ⟨_, rfl⟩
      change Code.wp _ _ _ _ (wr.setCell ⟨sb, 5, none⟩ (.slice (some ⟨g, 0, none⟩) q co))
      have HB1 : Hid (Below B wr W1) := qhid (by rw [hW1]; exact (Below.refl B wr).setCell (p := ⟨sb, 5, none⟩) HBS.out.1 _)
      rw [← hW1] at HS1 ⊢
      clear hW1 f5 c5 c6' c7 ck' cx
      obtain ⟨_, _, _, _, _, _, d6, d7, d8⟩ := HS1.out.cells
      have d6' : W1.cell? ⟨sb, 6, none⟩ = some (.int .i64 (kk : Int)) := by rw [d6, HKK.out]
      have ek := HS1.out.kn.cell hxn
      have fk := HS1.out.kn.unfrozen x
      have HS2 : Hid (SkAt (W1.setCell ⟨kb, x, none⟩ (.int .i64 (kk : Int))).drew B sb mb lb kb n gv pv (.slice (some ⟨g, 0, none⟩) q co) dv1 F { s with opn := A ++ Y, kn := knU s.kn (x :: Y2) kk, done := s.done ++ Y2.reverse }) := qhid (by
        have := (HS1.out.setKn x (kk : Int)).up (Below.drew (Below.refl _ _))
        rw [show upd ({ s with opn := A ++ Y, kn := knU s.kn Y2 kk, done := s.done ++ Y2.reverse } : Sk).kn x (kk : Int) = knU s.kn (x :: Y2) kk from knU_cons _ _ _ _] at this
        exact this)
      have HB2 : Hid (Below B wr (W1.setCell ⟨kb, x, none⟩ (.int .i64 (kk : Int))).drew) := qhid ((HB1.out.setCell (p := ⟨kb, x, none⟩) HBS.out.2.2.2.1 _).drew)
      clear d6 d8
      go_region
      obtain ⟨W2, hW2⟩ : ∃ X, X = (W1.setCell ⟨kb, x, none⟩ (.int .i64 (kk : Int))).drew := ⟨_, rfl⟩
      rw [← hW2] at HS2 HB2 ⊢
      clear hW2 d7 ek fk HS1 HB1 d6'
      obtain ⟨_, _, _, _, _, _, _, _, e8⟩ := HS2.out.cells
      have f8 := Joins.unfrozen_of_block HS2.out.sk 8
      obtain ⟨dn, hdn⟩ : ∃ k, k = (s.done ++ Y2.reverse).length := ⟨_, rfl⟩
      have hdl : dn ≤ 1048576 := by
        have := HYL.out
        rw [hdn, List.length_append, List.length_reverse]
        simp at this hn ⊢
        omega
      have hdr := HS2.out.dr
      have HDN := qhid hdn
      dsimp only at hdr
      rw [← hdn] at hdr
      have HDR := qhid hdr
      obtain ⟨i0, hif, hy0, hy1, hy2⟩ := info_parts Try.infoInt
      have hble : B ≤ W2.heap.size := HS2.out.bs.2.2.2.2
      have HSK := qhid (fun w1 (hg : (W2.alloc (.cells #[.int .i64 (x : Int)] 3)).grownBy w1 dv1.ownBlock) => HS2.out.far hg (row_ne HS2.out.dr HS2.out.sk (by decide)) 8)
      clear hdn hdr
      go_wp2_with (first
        | (at_builtin; go_must (refine wpList_append_own_at _ rfl _ _ 30 rfl B 3 i0 (.int .i64 0) 1 8 Try.underlying30 hif hy0 hy1 hy2 rfl (by decide) _ _ _ rfl (ownsAlloc HDR.out _) ⟨W2.heap.size, 0, none⟩ 1 1 [.int .i64 (x : Int)] rfl rfl (cell_one_new _ _ _) (by simp [Value.oneCell']) (by unfold maxLen; omega) (by omega) (by simp; omega) ?_; intro v' w1 hown' hgrow _ hat; obtain ⟨g', cap', rfl⟩ := ownsRow_succ hown'; obtain ⟨k8, kf⟩ := HSK.out w1 hgrow; rw [e8] at k8))
        | fail)
      have hgr : (W2.alloc (.cells #[.int .i64 (x : Int)] 3)).grownBy w1 dv1.ownBlock := hgrow
      have hat' : (Value.slice (some ⟨g', 0, none⟩) (dn + 1) cap').ownBlock = dv1.ownBlock ∨ (Value.slice (some ⟨g', 0, none⟩) (dn + 1) cap').ownBlock = some (W2.heap.size + 1) := by
        have h6 : (Value.slice (some ⟨g', 0, none⟩) (dn + 1) cap').ownBlock = dv1.ownBlock ∨ (Value.slice (some ⟨g', 0, none⟩) (dn + 1) cap').ownBlock = some (W2.alloc (.cells #[.int .i64 (x : Int)] 3)).heap.size := hat
        rw [World.size_alloc] at h6
        exact h6
      have HS3 := qhid (HS2.out.appDone (x := x) (by dsimp only; rw [← HDN.out]; exact hown') hgr hat')
      have hb3 : Below B w w1 := (HB.out.trans HB2.out).trans (belowApp HDR.out hgr hble)
      have HB3 := qhid (hb3.setCell (p := ⟨sb, 8, none⟩) HBS.out.1 (.slice (some ⟨g', 0, none⟩) (dn + 1) cap'))
      rw [List.length_append, List.length_singleton] at hgk
      clear hat hat' hgrow hgr hown' hb3
      go_roundg (Y.length)
      case rel => exact ⟨Y, x :: Y2, _, _, Nat.le_refl _, qhid (by rw [HY.out]; simp), qhid (by
        have := HS3.out
        rw [List.reverse_cons, ← List.append_assoc]
        exact this), HB3⟩
      case measure => omega
end
end Go.Proofs.Ytghfodjefjijdaa
