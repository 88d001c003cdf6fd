/- A region whose order is drawn, told ahead but for what one operation leaves: of that a property is told. -/
import Derived.Test.YtcpdobldconnaaaDoorRegion
namespace Go.Proofs.YtcpdobldconnaaaDoor.Reg
open Go Go.RowKit
section
variable {P : Program} {ops : Array Oper} {Q : Exit → Act → World → Prop}
theorem Inv.change {told told' : Nat → Told} {fills : List Fill} {a0 : Act} {w0 : World} {G : Nat → Nat} {listed : Array Bool} {A : Act} {w : World} (h : Inv ops told fills a0 w0 G listed A w) (he : ∀ i, listed.getD i false = true → told' i = told i) : Inv ops told' fills a0 w0 G listed A w :=
  { h with
    val := fun i o d x ho hd ht hl => h.val i o d x ho hd (by rw [← he i hl]; exact ht) hl
    mem := fun i o d c ho hd ht hl => h.mem i o d c ho hd (by rw [← he i hl]; exact ht) hl
    apart := fun i j o p d e c c' ho hd ht hl hp he' ht' hl' hne => h.apart i j o p d e c c' ho hd (by rw [← he i hl]; exact ht) hl hp he' (by rw [← he j hl']; exact ht') hl' hne }
/-- What is asked of an operation, where one leaves what isn't known. -/
def GoodX (told : Value → Nat → Told) (kL : Nat) (Pr : Value → World → Prop) (x : Value) (k : Nat) (w : World) (v : Value) (w' : World) : Prop :=
  if k = kL then Below w.heap.size w w' ∧ told v kL = .inl v ∧ Pr v w' else Good (told x) k w v w'
def OpOKX (P : Program) (ops : Array Oper) (told : Value → Nat → Told) (kL : Nat) (Pr : Value → World → Prop) (a0 : Act) (w0 : World) (k : Nat) (o : Oper) : Prop :=
  ∀ (x : Value) (G : Nat → Nat) (listed : Array Bool) (A : Act) (w : World), Inv ops (told x) [] a0 w0 G listed A w → (listed.getD kL false = true → Pr x w) → (∀ e ∈ o.after, Region.binds .any e = true → listed.getD e.on false = true) →
    (Region.wanted o (yielded ops A.tmps) = true ∧ Yields P o A w (GoodX told kL Pr x k w)) ∨ (k ≠ kL ∧ Region.wanted o (yielded ops A.tmps) = false ∧ told x k = .inl undef)
theorem good_below {told : Nat → Told} {k : Nat} {w w' : World} {v : Value} (h : Good told k w v w') : Below w.heap.size w w' := by
  unfold Good at h
  cases ht : told k with
  | inl x => simp only [ht] at h; exact h.2
  | inr c => simp only [ht] at h; obtain ⟨g, _, _, hb, _⟩ := h; exact hb
theorem wpAny_postsX {told : Value → Nat → Told} {kL : Nat} {Pr : Value → World → Prop} {a : Act} {w0 : World}
    (hPr : ∀ x w w', Pr x w → Below w.heap.size w w' → Pr x w') (htold : ∀ x x' i, i ≠ kL → told x i = told x' i) (hkL : kL < ops.size)
    (hd : ∀ (i j : Nat) (o p : Oper) d, ops[i]? = some o → ops[j]? = some p → o.dst = some d → p.dst = some d → i = j) (hs : ∀ (i : Nat) (o : Oper) d, ops[i]? = some o → o.dst = some d → d < a.tmps.size)
    (back : ∀ (k : Nat) (o : Oper), ops[k]? = some o → ∀ e ∈ o.after, e.on < k)
    (hok : ∀ (k : Nat) (o : Oper), ops[k]? = some o → OpOKX P ops told kL Pr a w0 k o)
    (hend : ∀ x G a' w', Inv ops (told x) [] a w0 G (Array.replicate ops.size true) a' w' → Pr x w' → Q .normal a' w') :
    ∀ (fuel : Nat) (x : Value) (G : Nat → Nat) (listed : Array Bool) (A : Act) (w : World), Inv ops (told x) [] a w0 G listed A w → (listed.getD kL false = true → Pr x w) → (left ops.size listed).length ≤ fuel → wpAny P .any ops Q fuel listed A w
  | 0, x, G, listed, A, w, hI, hP, hf => by
    have hnil : left ops.size listed = [] := List.length_eq_zero_iff.1 (Nat.le_zero.1 hf)
    have hr : Region.ready .any ops listed = [] := by
      rw [List.eq_nil_iff_forall_not_mem]
      intro k hk
      obtain ⟨h0, o, ho, _⟩ := mem_ready.1 hk
      have : k ∈ left ops.size listed := by
        unfold left; rw [List.mem_filter]; exact ⟨List.mem_range.2 (lt_of_get ho), by rw [h0]; rfl⟩
      rw [hnil] at this; cases this
    have hall := all_listed hI.size back hr
    subst hall
    exact ⟨hr, hend x G A w hI (hP (by simp [hkL]))⟩
  | fuel + 1, x, G, listed, A, w, hI, hP, hf => by
    refine ⟨fun hr => by
      have hall := all_listed hI.size back hr
      subst hall
      exact hend x G A w hI (hP (by simp [hkL])), fun k hk => ?_⟩
    obtain ⟨h0, o, ho, hall⟩ := mem_ready.1 hk
    have hkn : k < ops.size := lt_of_get ho
    have hin : k < listed.size := by rw [hI.size]; exact hkn
    have hun := un_false h0
    have hl := left_lt hkn hI.size h0
    have hop := hok k o ho x G listed A w hI hP hall
    have next : ∀ (x' : Value) (A' : Act) (w' : World), (∃ G', Inv ops (told x') [] a w0 G' (listed.setIfInBounds k true) A' w') → ((listed.setIfInBounds k true).getD kL false = true → Pr x' w') → wpAny P .any ops Q fuel (listed.setIfInBounds k true) A' w' :=
      fun x' A' w' ⟨G', h'⟩ hp' => wpAny_postsX hPr htold hkL hd hs back hok hend fuel x' G' _ A' w' h' hp' (by omega)
    have hkf : ∀ f ∈ ([] : List Fill), f.1 ≠ k := fun f hf => by cases hf
    unfold wpOp
    simp only [ho]
    rcases hop with ⟨hw, hy⟩ | ⟨hne, hw, hx⟩
    · rw [if_pos hw]
      refine .inl (hy.wp fun v w' hg => ?_)
      unfold GoodX at hg
      by_cases e : k = kL
      · subst e
        rw [if_pos rfl] at hg
        obtain ⟨hb, hv, hp⟩ := hg
        have hI' : Inv ops (told v) [] a w0 G listed A w := hI.change fun i hi => htold v x i (fun e => by subst e; exact hun hi)
        exact next v _ _ (step_plain ho hd hs hkf hI' hun hin v w' (by unfold Good; rw [hv]; exact ⟨rfl, hb⟩)) (fun _ => hp)
      · rw [if_neg e] at hg
        refine next x _ _ (step_plain ho hd hs hkf hI hun hin v w' hg) (fun hl' => ?_)
        rw [getD_set_ne false e] at hl'
        exact hPr x w w' (hP hl') (good_below hg)
    · rw [if_neg (by rw [hw]; exact Bool.false_ne_true)]
      refine next x _ _ (step_plain ho hd hs hkf hI hun hin undef w (by unfold Good; rw [hx]; exact ⟨rfl, Below.refl _ _⟩)) (fun hl' => ?_)
      rw [getD_set_ne false hne] at hl'
      exact hP hl'
def AllOKX (P : Program) (ops : Array Oper) (told : Value → Nat → Told) (kL : Nat) (Pr : Value → World → Prop) (a0 : Act) (w0 : World) : Nat → List Oper → Prop
  | _, [] => True
  | k, o :: r => OpOKX P ops told kL Pr a0 w0 k o ∧ AllOKX P ops told kL Pr a0 w0 (k + 1) r
theorem allOKX_get {told : Value → Nat → Told} {kL : Nat} {Pr : Value → World → Prop} {a0 : Act} {w0 : World} : ∀ (l : List Oper) (k : Nat), AllOKX P ops told kL Pr a0 w0 k l → ∀ (i : Nat) (o : Oper), l[i]? = some o → OpOKX P ops told kL Pr a0 w0 (k + i) o
  | [], _, _, i, o, h => by cases i <;> cases h
  | p :: r, k, h, 0, o, ho => by
    obtain rfl : p = o := by simpa using ho
    exact h.1
  | p :: r, k, h, i + 1, o, ho => by
    have := allOKX_get r (k + 1) h.2 i o (by simpa using ho)
    rw [show k + (i + 1) = k + 1 + i by omega]
    exact this
theorem wp_region_toldX {id : Nat} {a : Act} {w : World} {l : List Oper} (told : Value → Nat → Told) (kL : Nat) (Pr : Value → World → Prop) (ks : List Nat) (hks : ks = List.range l.length) (hm : P.follows .mixedOrders = true) (hB : checkB l.toArray a.tmps.size = true)
    (hPr : ∀ x w w', Pr x w → Below w.heap.size w w' → Pr x w') (htold : ∀ x x' i, i ≠ kL → told x i = told x' i) (hkL : kL < l.length)
    (hok : AllOKX P l.toArray told kL Pr a w.drew 0 l)
    (hend : ∀ x G w', Inv l.toArray (told x) [] a w.drew G (Array.replicate l.length true) { tmps := finalTmps l.toArray (told x) G ks a.tmps, defers := a.defers } w' → Pr x w' → Q .normal { tmps := finalTmps l.toArray (told x) G ks a.tmps, defers := a.defers } w') :
    (Code.region id l.toArray true).wp P Q a w := by
  subst hks
  obtain ⟨hd, hs, back⟩ := checkB_spec hB
  have rep : ∀ i, (Array.replicate l.toArray.size false).getD i false = false := by
    intro i
    rcases Nat.lt_or_ge i l.length with h | h
    · simp [h]
    · have : (Array.replicate l.length false)[i]? = none := Array.getElem?_eq_none (by simpa using h)
      simp [this]
  refine wp_region_any hm (wpAny_postsX (w0 := w.drew) hPr htold (by simpa using hkL) hd hs back (fun k o ho => ?_) (fun x G a' w' hI hp => ?_) _ undef (fun _ => 0) _ _ _ ?_ ?_ ?_)
  · have := allOKX_get l 0 hok k o (by simpa using ho)
    simpa using this
  · have ht := hI.final hB
    have hdf := hI.defers
    obtain ⟨ts, ds⟩ := a'
    simp only at ht hdf
    subst ht hdf
    simp only [List.size_toArray] at hI ⊢
    exact hend x G w' hI hp
  · refine ⟨by simp, rfl, rfl, fun _ _ => rfl, Below.refl _ _, ?_, ?_, ?_, ?_⟩
    · intro i o d x ho _ _ hl
      rw [rep] at hl; cases hl
    · intro i o d c ho _ _ hl
      rw [rep] at hl; cases hl
    · intro f hf
      cases hf
    · intro i j o p d e c c' ho _ _ hl
      rw [rep] at hl; cases hl
  · intro hl
    rw [rep] at hl; cases hl
  · unfold left
    exact Nat.le_trans (List.length_filter_le _ _) (by simp)
theorem opOKX_val {told : Value → Nat → Told} {kL : Nat} {Pr : Value → World → Prop} {a0 : Act} {w0 : World} {k : Nat} {o : Oper} (hk : k ≠ kL)
    (h : ∀ (x : Value) (G : Nat → Nat) (listed : Array Bool) (A : Act) (w : World), Inv ops (told x) [] a0 w0 G listed A w → (listed.getD kL false = true → Pr x w) → (∀ e ∈ o.after, Region.binds .any e = true → listed.getD e.on false = true) →
      (Region.wanted o (yielded ops A.tmps) = true ∧ Yields P o A w (Good (told x) k w)) ∨ (Region.wanted o (yielded ops A.tmps) = false ∧ told x k = .inl undef)) : OpOKX P ops told kL Pr a0 w0 k o := by
  intro x G listed A w hI hP hall
  rcases h x G listed A w hI hP hall with ⟨h1, h2⟩ | ⟨h1, h2⟩
  · left
    refine ⟨h1, ?_⟩
    have : GoodX told kL Pr x k w = Good (told x) k w := by funext v w'; unfold GoodX; rw [if_neg hk]
    rw [this]; exact h2
  · exact .inr ⟨hk, h1, h2⟩
theorem opOKX_var {told : Value → Nat → Told} {kL : Nat} {Pr : Value → World → Prop} {a0 : Act} {w0 : World} {o : Oper}
    (h : ∀ (x : Value) (G : Nat → Nat) (listed : Array Bool) (A : Act) (w : World), Inv ops (told x) [] a0 w0 G listed A w → (∀ e ∈ o.after, Region.binds .any e = true → listed.getD e.on false = true) →
      Region.wanted o (yielded ops A.tmps) = true ∧ Yields P o A w (fun v w' => Below w.heap.size w w' ∧ told v kL = .inl v ∧ Pr v w')) : OpOKX P ops told kL Pr a0 w0 kL o := by
  intro x G listed A w hI _ hall
  obtain ⟨h1, h2⟩ := h x G listed A w hI hall
  left
  refine ⟨h1, ?_⟩
  have : GoodX told kL Pr x kL w = fun v w' => Below w.heap.size w w' ∧ told v kL = .inl v ∧ Pr v w' := by funext v w'; unfold GoodX; rw [if_pos rfl]
  rw [this]; exact h2
end
end Go.Proofs.YtcpdobldconnaaaDoor.Reg
