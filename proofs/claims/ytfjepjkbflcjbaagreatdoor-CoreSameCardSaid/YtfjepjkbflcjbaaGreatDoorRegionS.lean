/- A region whose order is drawn, walked operation by operation: each one's value is told ahead, and of the world what holds of it once some are done (a predicate of those, which the writer chooses): calls that write into old memory and stores into it are borne, whatever stands between them. Generic over the program. -/
import Derived.Test.YtfjepjkbflcjbaaGreatDoorRegion
namespace Go.Proofs.YtfjepjkbflcjbaaGreatDoor.Reg
open Go Go.RowKit
section
variable {P : Program} {ops : Array Oper} {Q : Exit → Act → World → Prop}
structure InvS (ops : Array Oper) (told : Nat → Value) (S : Array Bool → World → Prop) (a0 : Act) (listed : Array Bool) (a : Act) (w : World) : Prop where
  size : listed.size = ops.size
  len : a.tmps.size = a0.tmps.size
  defers : a.defers = a0.defers
  old : ∀ d, (∀ (i : Nat) (o : Oper), ops[i]? = some o → listed.getD i false = true → o.dst ≠ some d) → a.tmps[d]? = a0.tmps[d]?
  val : ∀ (i : Nat) (o : Oper) d, ops[i]? = some o → o.dst = some d → listed.getD i false = true → a.tmps[d]? = some (told i)
  st : S listed w
/-- What is asked of an operation. -/
def OpOKS (P : Program) (ops : Array Oper) (told : Nat → Value) (S : Array Bool → World → Prop) (a0 : Act) (k : Nat) (o : Oper) : Prop :=
  ∀ (listed : Array Bool) (A : Act) (w : World), InvS ops told S a0 listed A w → k < listed.size → listed.getD k false = false → (∀ e ∈ o.after, Region.binds .any e = true → listed.getD e.on false = true) →
    (Region.wanted o (yielded ops A.tmps) = true ∧ Yields P o A w fun v w' => v = told k ∧ S (listed.setIfInBounds k true) w') ∨
    (Region.wanted o (yielded ops A.tmps) = false ∧ told k = undef ∧ S (listed.setIfInBounds k true) w)
theorem stepS {told : Nat → Value} {S : Array Bool → World → Prop} {a0 : Act} {listed : Array Bool} {A : Act} {w w' : World} {k : Nat} {o : Oper} (ho : ops[k]? = some o)
    (hd : ∀ (i j : Nat) (o p : Oper) d, ops[i]? = some o → ops[j]? = some p → o.dst = some d → p.dst = some d → i = j) (hs : ∀ (i : Nat) (o : Oper) d, ops[i]? = some o → o.dst = some d → d < a0.tmps.size)
    (h : InvS ops told S a0 listed A w) (hst : S (listed.setIfInBounds k true) w') : InvS ops told S a0 (listed.setIfInBounds k true) (A.put o.dst (told k)) w' := by
  have hin : k < listed.size := by rw [h.size]; exact lt_of_get ho
  refine ⟨by simpa using h.size, by rw [put_size]; exact h.len, by rw [put_defers]; exact h.defers, ?_, ?_, hst⟩
  · intro d hdd
    rw [put_other (hdd k o ho (set_self hin))]
    exact h.old d fun i o' ho' hl => hdd i o' ho' (getD_set_true hl)
  · intro i p d hp hpd hl
    by_cases hod : o.dst = some d
    · obtain rfl := hd k i o p d ho hp hod hpd
      rw [hod]
      exact put_same (by rw [h.len]; exact hs k o d ho hod)
    · rw [put_other hod]
      rcases set_true hl with e | hl'
      · subst e
        rw [ho] at hp; obtain rfl := Option.some.inj hp
        exact absurd hpd hod
      · exact h.val i p d hp hpd hl'
theorem wpAny_postsS {told : Nat → Value} {S : Array Bool → World → Prop} {a : Act}
    (hd : ∀ (i j : Nat) (o p : Oper) d, ops[i]? = some o → ops[j]? = some p → o.dst = some d → p.dst = some d → i = j) (hs : ∀ (i : Nat) (o : Oper) d, ops[i]? = some o → o.dst = some d → d < a.tmps.size)
    (back : ∀ (k : Nat) (o : Oper), ops[k]? = some o → ∀ e ∈ o.after, Region.binds .any e = true → e.on < k)
    (hok : ∀ (k : Nat) (o : Oper), ops[k]? = some o → OpOKS P ops told S a k o)
    (hend : ∀ a' w', InvS ops told S a (Array.replicate ops.size true) a' w' → Q .normal a' w') :
    ∀ (fuel : Nat) (listed : Array Bool) (A : Act) (w : World), InvS ops told S a listed A w → (left ops.size listed).length ≤ fuel → wpAny P .any ops Q fuel listed A w
  | 0, listed, A, w, hI, hf => by
    have hnil : left ops.size listed = [] := List.length_eq_zero_iff.1 (Nat.le_zero.1 hf)
    have hr : Region.ready .any ops listed = [] := by
      rw [List.eq_nil_iff_forall_not_mem]
      intro k hk
      obtain ⟨h0, o, ho, _⟩ := mem_ready.1 hk
      have : k ∈ left ops.size listed := by
        unfold left; rw [List.mem_filter]; exact ⟨List.mem_range.2 (lt_of_get ho), by rw [h0]; rfl⟩
      rw [hnil] at this; cases this
    exact ⟨hr, hend A w (by have := all_listed hI.size back hr; rw [← this]; exact hI)⟩
  | fuel + 1, listed, A, w, hI, hf => by
    refine ⟨fun hr => hend A w (by have := all_listed hI.size back hr; rw [← this]; exact hI), fun k hk => ?_⟩
    obtain ⟨h0, o, ho, hall⟩ := mem_ready.1 hk
    have hkn : k < ops.size := lt_of_get ho
    have hin : k < listed.size := by rw [hI.size]; exact hkn
    have hun := un_false h0
    have hl := left_lt hkn hI.size h0
    have hop := hok k o ho listed A w hI hin (by simpa using hun) hall
    have next : ∀ (A' : Act) (w' : World), InvS ops told S a (listed.setIfInBounds k true) A' w' → wpAny P .any ops Q fuel (listed.setIfInBounds k true) A' w' :=
      fun A' w' h' => wpAny_postsS hd hs back hok hend fuel _ A' w' h' (by omega)
    unfold wpOp
    simp only [ho]
    rcases hop with ⟨hw, hy⟩ | ⟨hw, hx, hst⟩
    · rw [if_pos hw]
      refine .inl (hy.wp fun v w' hg => ?_)
      obtain ⟨rfl, hst⟩ := hg
      exact next _ _ (stepS ho hd hs hI hst)
    · rw [if_neg (by rw [hw]; exact Bool.false_ne_true)]
      have := stepS (w' := w) ho hd hs hI hst
      rw [hx] at this
      exact next _ _ this
theorem InvS.final {told : Nat → Value} {S : Array Bool → World → Prop} {a0 : Act} {A : Act} {w : World} (hB : checkB ops a0.tmps.size = true) (h : InvS ops told S a0 (Array.replicate ops.size true) A w) :
    A.tmps = finalTmps ops (fun i => .inl (told i)) (fun _ => 0) (List.range ops.size) a0.tmps := by
  obtain ⟨hd, hs, _⟩ := checkB_spec hB
  apply Array.ext_getElem?
  intro d
  by_cases he : ∃ (i : Nat) (o : Oper), ops[i]? = some o ∧ o.dst = some d
  · obtain ⟨i, o, ho, hod⟩ := he
    have hin := lt_of_get ho
    have hl : (Array.replicate ops.size true).getD i false = true := by simp [hin]
    rw [finalTmps_at (fun i => .inl (told i)) (fun _ => 0) d i (by rw [dstAt_of ho]; exact hod) _ _ (List.mem_range.2 hin) (hs i o d ho hod) (fun j hj e => by
      have hj' := List.mem_range.1 hj
      have hoj : ops[j]? = some ops[j] := Array.getElem?_eq_getElem hj'
      rw [dstAt_of hoj] at e
      exact hd j i _ o d hoj ho e hod)]
    exact h.val i o d ho hod hl
  · rw [finalTmps_none (fun i => .inl (told i)) (fun _ => 0) d _ _ (fun i hi e => by
      have hi' := List.mem_range.1 hi
      have hoi : ops[i]? = some ops[i] := Array.getElem?_eq_getElem hi'
      rw [dstAt_of hoi] at e
      exact he ⟨i, _, hoi, e⟩)]
    exact h.old d fun i o ho _ e => he ⟨i, o, ho, e⟩
theorem InvS.ev {told : Nat → Value} {S : Array Bool → World → Prop} {a0 : Act} {listed : Array Bool} {A : Act} {w : World} (h : InvS ops told S a0 listed A w) {i d : Nat} (hi : dstAt ops i = some d) (hl : listed.getD i false = true) : A.tmps[d]? = some (told i) := by
  unfold dstAt at hi
  cases ho : ops[i]? with
  | none => rw [ho] at hi; cases hi
  | some o => rw [ho] at hi; exact h.val i o d ho hi hl
theorem InvS.evo {told : Nat → Value} {S : Array Bool → World → Prop} {a0 : Act} {listed : Array Bool} {A : Act} {w : World} (h : InvS ops told S a0 listed A w) {d : Nat} {x : Value} (hno : (ops.all fun o => o.dst != some d) = true) (h0 : a0.tmps[d]? = some x) : A.tmps[d]? = some x := by
  rw [h.old d fun i o ho _ e => ?_]
  · exact h0
  · have := Array.all_eq_true_iff_forall_mem.1 hno o (Array.mem_of_getElem? ho)
    rw [e] at this; simp at this
def AllOKS (P : Program) (ops : Array Oper) (told : Nat → Value) (S : Array Bool → World → Prop) (a0 : Act) : Nat → List Oper → Prop
  | _, [] => True
  | k, o :: r => OpOKS P ops told S a0 k o ∧ AllOKS P ops told S a0 (k + 1) r
theorem allOKS_get {told : Nat → Value} {S : Array Bool → World → Prop} {a0 : Act} : ∀ (l : List Oper) (k : Nat), AllOKS P ops told S a0 k l → ∀ (i : Nat) (o : Oper), l[i]? = some o → OpOKS P ops told S a0 (k + i) o
  | [], _, _, i, o, h => by cases i <;> cases h
  | p :: r, k, h, 0, o, ho => by
    obtain rfl : p = o := by simpa using ho
    exact h.1
  | p :: r, k, h, i + 1, o, ho => by
    have := allOKS_get r (k + 1) h.2 i o (by simpa using ho)
    rw [show k + (i + 1) = k + 1 + i by omega]
    exact this
/-- The theorem: S is what holds of the world once the listed operations are done. -/
theorem wp_region_S {id : Nat} {a : Act} {w : World} {l : List Oper} (told : Nat → Value) (S : Array Bool → World → Prop) (ks : List Nat) (hks : ks = List.range l.length) (hm : P.follows .mixedOrders = true) (hB : checkB l.toArray a.tmps.size = true)
    (h0 : S (Array.replicate l.length false) w.drew)
    (hok : AllOKS P l.toArray told S a 0 l)
    (hend : ∀ w', S (Array.replicate l.length true) w' → Q .normal { tmps := finalTmps l.toArray (fun i => .inl (told i)) (fun _ => 0) ks a.tmps, defers := a.defers } w') :
    (Code.region id l.toArray true).wp P Q a w := by
  subst hks
  obtain ⟨hd, hs, back⟩ := checkB_spec hB
  have rep : ∀ i, (Array.replicate l.toArray.size false).getD i false = false := by
    intro i
    rcases Nat.lt_or_ge i l.length with h | h
    · simp [h]
    · have : (Array.replicate l.length false)[i]? = none := Array.getElem?_eq_none (by simpa using h)
      simp [this]
  refine wp_region_any hm (wpAny_postsS (told := told) (S := S) hd hs back (fun k o ho => ?_) (fun a' w' hI => ?_) _ _ _ _ ?_ ?_)
  · have := allOKS_get l 0 hok k o (by simpa using ho)
    simpa using this
  · have ht := hI.final hB
    have hdf := hI.defers
    have hst := hI.st
    obtain ⟨ts, ds⟩ := a'
    simp only at ht hdf
    subst ht hdf
    simp only [List.size_toArray] at hst ⊢
    exact hend w' hst
  · refine ⟨by simp, rfl, rfl, fun _ _ => rfl, ?_, by simpa using h0⟩
    intro i o d ho _ hl
    rw [rep] at hl; cases hl
  · unfold left
    exact Nat.le_trans (List.length_filter_le _ _) (by simp)
end
end Go.Proofs.YtfjepjkbflcjbaaGreatDoor.Reg
