/- graph: the document's answer for how far: Far told. -/
import Derived.Test.YtghfodjefjijdaaGrY
namespace Go.Proofs.Ytghfodjefjijdaa
section
open Go Go.RowKit Go.Shelf
attribute [local go_sem ↓] Go.wp_at_zero Go.wp_at_succ
/-- From such things arrows were followed, as far as step s, thing i and thing k. -/
def FarU (E : Nat → Nat → Prop) (a s i k v : Nat) : Prop := ∃ u, Rch E a u ∧ dst E a u = s ∧ E u v ∧ (u < i ∨ (u = i ∧ v < k))
structure FarI (E : Nat → Nat → Prop) (a n s i k : Nat) (out : Nat → Int) : Prop where
  near : ∀ v, v < n → Rch E a v → dst E a v ≤ s → out v = (dst E a v : Int)
  next : ∀ v, v < n → ¬ (Rch E a v ∧ dst E a v ≤ s) → FarU E a s i k v → out v = (s : Int) + 1
  no : ∀ v, v < n → ¬ (Rch E a v ∧ dst E a v ≤ s) → ¬ FarU E a s i k v → out v = -1
variable {E : Nat → Nat → Prop} {a n s i k : Nat} {out : Nat → Int}
theorem FarI.start (E : Nat → Nat → Prop) (a n : Nat) : FarI E a n 0 0 0 (upd (fun _ => -1) a 0) := by
  have h0 : ∀ v, ¬ FarU E a 0 0 0 v := fun v ⟨u, _, _, _, h⟩ => by omega
  refine ⟨fun v _ hr hd => ?_, fun v _ _ h => absurd h (h0 v), fun v _ h _ => ?_⟩
  · obtain rfl := dst_zero hr (Nat.le_zero.1 hd)
    rw [upd_same, dst_self]
    rfl
  · refine upd_other _ _ (fun e => h ?_)
    rw [e]
    exact ⟨.refl _, Nat.le_of_eq (dst_self E a)⟩
theorem FarI.at_ (h : FarI E a n s i k out) {u : Nat} (hu : u < n) : out u = (s : Int) ↔ Rch E a u ∧ dst E a u = s := by
  constructor
  · intro e
    by_cases h1 : Rch E a u ∧ dst E a u ≤ s
    · have := h.near u hu h1.1 h1.2
      exact ⟨h1.1, by omega⟩
    · by_cases h2 : FarU E a s i k u
      · have := h.next u hu h1 h2
        omega
      · have := h.no u hu h1 h2
        omega
  · rintro ⟨h1, h2⟩
    rw [h.near u hu h1 (by omega), h2]
/-- An arrow is followed. -/
theorem FarI.step (h : FarI E a n s i k out) (hi : Rch E a i ∧ dst E a i = s) : ((E i k ∧ out k < 0) → FarI E a n s i (k + 1) (upd out k ((s : Int) + 1))) ∧ (¬ (E i k ∧ out k < 0) → k < n → FarI E a n s i (k + 1) out) := by
  have hU : ∀ v, FarU E a s i (k + 1) v ↔ FarU E a s i k v ∨ (v = k ∧ E i k) := fun v => by
    constructor
    · rintro ⟨u, h1, h2, h3, h4 | ⟨h4, h5⟩⟩
      · exact .inl ⟨u, h1, h2, h3, .inl h4⟩
      · by_cases hv : v = k
        · rw [h4, hv] at h3
          exact .inr ⟨hv, h3⟩
        · exact .inl ⟨u, h1, h2, h3, .inr ⟨h4, by omega⟩⟩
    · rintro (⟨u, h1, h2, h3, h4⟩ | ⟨rfl, h3⟩)
      · exact ⟨u, h1, h2, h3, h4.imp id (fun h => ⟨h.1, by omega⟩)⟩
      · exact ⟨i, hi.1, hi.2, h3, .inr ⟨rfl, Nat.lt_succ_self _⟩⟩
  constructor
  · rintro ⟨he, ho⟩
    refine ⟨fun v hv h1 h2 => ?_, fun v hv h1 h2 => ?_, fun v hv h1 h2 => ?_⟩
    · by_cases hvk : v = k
      · have := h.near v hv h1 h2
        rw [hvk] at this
        omega
      · rw [upd_other _ _ hvk]
        exact h.near v hv h1 h2
    · by_cases hvk : v = k
      · rw [hvk, upd_same]
      · rw [upd_other _ _ hvk]
        exact h.next v hv h1 (((hU v).1 h2).resolve_right (fun e => hvk e.1))
    · have hvk : v ≠ k := fun e => h2 ((hU v).2 (.inr ⟨e, he⟩))
      rw [upd_other _ _ hvk]
      exact h.no v hv h1 (fun e => h2 ((hU v).2 (.inl e)))
  · intro hno hk
    refine ⟨h.near, fun v hv h1 h2 => ?_, fun v hv h1 h2 => h.no v hv h1 (fun e => h2 ((hU v).2 (.inl e)))⟩
    by_cases h3 : FarU E a s i k v
    · exact h.next v hv h1 h3
    · rcases (hU v).1 h2 with h4 | ⟨rfl, h4⟩
      · exact absurd h4 h3
      · have := h.no v hv h1 h3
        exact absurd ⟨h4, by omega⟩ hno
/-- All arrows of a thing were followed. -/
theorem FarI.thing (h : FarI E a n s i k out) (hi : i < n) (hk : n ≤ k ∨ out i ≠ (s : Int)) : FarI E a n s (i + 1) 0 out := by
  have hU : ∀ v, v < n → (FarU E a s (i + 1) 0 v ↔ FarU E a s i k v) := fun v hv => by
    constructor
    · rintro ⟨u, h1, h2, h3, h4 | ⟨_, h5⟩⟩
      · rcases Nat.lt_succ_iff_lt_or_eq.1 h4 with h4 | rfl
        · exact ⟨u, h1, h2, h3, .inl h4⟩
        · rcases hk with hk | hk
          · exact ⟨u, h1, h2, h3, .inr ⟨rfl, by omega⟩⟩
          · exact absurd ((h.at_ hi).2 ⟨h1, h2⟩) hk
      · omega
    · rintro ⟨u, h1, h2, h3, h4⟩
      exact ⟨u, h1, h2, h3, .inl (by omega)⟩
  exact ⟨h.near, fun v hv h1 h2 => h.next v hv h1 ((hU v hv).1 h2), fun v hv h1 h2 => h.no v hv h1 (fun e => h2 ((hU v hv).2 e))⟩
/-- A step is done. -/
theorem FarI.done (h : FarI E a n s n 0 out) (hE : ∀ u v, E u v → u < n) : FarI E a n (s + 1) 0 0 out := by
  have h0 : ∀ v, ¬ FarU E a (s + 1) 0 0 v := fun v ⟨u, _, _, _, h⟩ => by omega
  have hU : ∀ v, FarU E a s n 0 v → Rch E a v ∧ dst E a v ≤ s + 1 := fun v ⟨u, h1, h2, h3, _⟩ => by
    have := dst_step h1 h3
    exact ⟨.tail h1 h3, by omega⟩
  refine ⟨fun v hv h1 h2 => ?_, fun v _ _ h => absurd h (h0 v), fun v hv h1 _ => ?_⟩
  · by_cases h3 : dst E a v ≤ s
    · exact h.near v hv h1 h3
    · obtain ⟨u, h4, h5, h6⟩ := dst_pred h1 (show dst E a v = s + 1 by omega)
      rw [h.next v hv (fun e => h3 e.2) ⟨u, h4, h5, h6, .inl (hE u v h6)⟩]
      omega
  · exact h.no v hv (fun e => h1 ⟨e.1, by omega⟩) (fun e => h1 (hU v e))
end
section
open Go Go.RowKit Go.Shelf
attribute [local go_sem ↓] Go.wp_at_zero Go.wp_at_succ
/-- What lies there while numbers are written. -/
structure FaM (w W : World) (B ob lb n : Nat) (rb : Nat → Nat) (m : Nat → Nat → Bool) (out : Nat → Int) : Prop where
  tab : TbAt W B ob rb n n m
  li : Vec W lb 3 n (fun v => .int .i64 (out v))
  be : Below w.heap.size w W
  lw : w.heap.size ≤ lb
theorem FaM.set {w W : World} {B ob lb n : Nat} {rb : Nat → Nat} {m : Nat → Nat → Bool} {out : Nat → Int} (h : FaM w W B ob lb n rb m out) (k : Nat) (x : Int) : FaM w (W.setCell ⟨lb, k, none⟩ (.int .i64 x)) B ob lb n rb m (upd out k x) := by
  refine ⟨⟨heap_set_other _ h.tab.o (ne_of_types h.tab.o h.li (by decide)), fun j hj => heap_set_other _ (h.tab.r j hj) (ne_of_types (h.tab.r j hj) h.li (by decide)), h.tab.inj, h.tab.lb⟩, (h.li.set k _).trans ?_, h.be.setCell (p := ⟨lb, k, none⟩) h.lw _, h.lw⟩
  rw [vl_congr (fun v _ => ?_)]
  by_cases hv : v = k
  · rw [hv, upd_same, upd_same]
  · rw [upd_other _ _ hv, upd_other _ _ hv]
theorem FaM.up {w W W' : World} {B ob lb n : Nat} {rb : Nat → Nat} {m : Nat → Nat → Bool} {out : Nat → Int} (h : FaM w W B ob lb n rb m out) (hb : Below W.heap.size W W') : FaM w W' B ob lb n rb m out :=
  ⟨h.tab.up hb, heap_up h.li hb, h.be.trans (hb.mono h.be.size), h.lw⟩
end
end Go.Proofs.Ytghfodjefjijdaa
