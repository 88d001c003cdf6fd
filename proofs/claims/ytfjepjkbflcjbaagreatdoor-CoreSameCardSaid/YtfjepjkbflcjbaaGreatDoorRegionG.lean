/- A region whose order is drawn, walked operation by operation, where what an operation leaves hangs on a ghost that is chosen as the region runs (addresses of new blocks): as RegionS. Generic over the program. -/
import Derived.Test.YtfjepjkbflcjbaaGreatDoorRegionS
namespace Go.Proofs.YtfjepjkbflcjbaaGreatDoor.Reg
open Go Go.RowKit
section
variable {P : Program} {ops : Array Oper} {Q : Exit → Act → World → Prop} {γ : Type}
/-- What an operation must come to: the ghost may be chosen anew, if what was told of listed operations stays. -/
def GoodG (told : γ → Nat → Value) (S : γ → Array Bool → World → Prop) (k : Nat) (g : γ) (listed : Array Bool) (v : Value) (w' : World) : Prop :=
  ∃ g', (∀ i, listed.getD i false = true → told g' i = told g i) ∧ v = told g' k ∧ S g' (listed.setIfInBounds k true) w'
theorem goodG_same {told : γ → Nat → Value} {S : γ → Array Bool → World → Prop} {k : Nat} {g : γ} {listed : Array Bool} {v : Value} {w' : World} (hv : v = told g k) (hS : S g (listed.setIfInBounds k true) w') : GoodG told S k g listed v w' := ⟨g, fun _ _ => rfl, hv, hS⟩
/-- What is asked of an operation: the ghost may be chosen anew, if what was told of listed operations stays. -/
def OpOKG (P : Program) (ops : Array Oper) (told : γ → Nat → Value) (S : γ → Array Bool → World → Prop) (a0 : Act) (k : Nat) (o : Oper) : Prop :=
  ∀ (g : γ) (listed : Array Bool) (A : Act) (w : World), InvS ops (told g) (S g) a0 listed A w → k < listed.size → listed.getD k false = false → (∀ e ∈ o.after, Region.binds .any e = true → listed.getD e.on false = true) →
    Region.wanted o (yielded ops A.tmps) = true ∧ Yields P o A w (GoodG told S k g listed)
theorem stepG {told told' : Nat → Value} {S S' : Array Bool → World → Prop} {a0 : Act} {listed : Array Bool} {A : Act} {w w' : World} {k : Nat} {o : Oper} (ho : ops[k]? = some o)
    (hd : ∀ (i j : Nat) (o p : Oper) d, ops[i]? = some o → ops[j]? = some p → o.dst = some d → p.dst = some d → i = j) (hs : ∀ (i : Nat) (o : Oper) d, ops[i]? = some o → o.dst = some d → d < a0.tmps.size)
    (h : InvS ops told S a0 listed A w) (ht : ∀ i, listed.getD i false = true → told' i = told i) (hst : S' (listed.setIfInBounds k true) w') : InvS ops told' S' a0 (listed.setIfInBounds k true) (A.put o.dst (told' k)) w' := by
  have hin : k < listed.size := by rw [h.size]; exact lt_of_get ho
  refine ⟨by simpa using h.size, by rw [put_size]; exact h.len, by rw [put_defers]; exact h.defers, ?_, ?_, hst⟩
  · intro d hdd
    rw [put_other (hdd k o ho (set_self hin))]
    exact h.old d fun i o' ho' hl => hdd i o' ho' (getD_set_true hl)
  · intro i p d hp hpd hl
    by_cases hod : o.dst = some d
    · obtain rfl := hd k i o p d ho hp hod hpd
      rw [hod]
      exact put_same (by rw [h.len]; exact hs k o d ho hod)
    · rw [put_other hod]
      rcases set_true hl with e | hl'
      · subst e
        rw [ho] at hp; obtain rfl := Option.some.inj hp
        exact absurd hpd hod
      · rw [ht i hl']; exact h.val i p d hp hpd hl'
theorem wpAny_postsG {told : γ → Nat → Value} {S : γ → Array Bool → World → Prop} {a : Act}
    (hd : ∀ (i j : Nat) (o p : Oper) d, ops[i]? = some o → ops[j]? = some p → o.dst = some d → p.dst = some d → i = j) (hs : ∀ (i : Nat) (o : Oper) d, ops[i]? = some o → o.dst = some d → d < a.tmps.size)
    (back : ∀ (k : Nat) (o : Oper), ops[k]? = some o → ∀ e ∈ o.after, Region.binds .any e = true → e.on < k)
    (hok : ∀ (k : Nat) (o : Oper), ops[k]? = some o → OpOKG P ops told S a k o)
    (hend : ∀ g a' w', InvS ops (told g) (S g) a (Array.replicate ops.size true) a' w' → Q .normal a' w') :
    ∀ (fuel : Nat) (g : γ) (listed : Array Bool) (A : Act) (w : World), InvS ops (told g) (S g) a listed A w → (left ops.size listed).length ≤ fuel → wpAny P .any ops Q fuel listed A w
  | 0, g, listed, A, w, hI, hf => by
    have hnil : left ops.size listed = [] := List.length_eq_zero_iff.1 (Nat.le_zero.1 hf)
    have hr : Region.ready .any ops listed = [] := by
      rw [List.eq_nil_iff_forall_not_mem]
      intro k hk
      obtain ⟨h0, o, ho, _⟩ := mem_ready.1 hk
      have : k ∈ left ops.size listed := by
        unfold left; rw [List.mem_filter]; exact ⟨List.mem_range.2 (lt_of_get ho), by rw [h0]; rfl⟩
      rw [hnil] at this; cases this
    exact ⟨hr, hend g A w (by have := all_listed hI.size back hr; rw [← this]; exact hI)⟩
  | fuel + 1, g, listed, A, w, hI, hf => by
    refine ⟨fun hr => hend g A w (by have := all_listed hI.size back hr; rw [← this]; exact hI), fun k hk => ?_⟩
    obtain ⟨h0, o, ho, hall⟩ := mem_ready.1 hk
    have hkn : k < ops.size := lt_of_get ho
    have hin : k < listed.size := by rw [hI.size]; exact hkn
    have hun := un_false h0
    have hl := left_lt hkn hI.size h0
    obtain ⟨hw, hy⟩ := hok k o ho g listed A w hI hin (by simpa using hun) hall
    unfold wpOp
    simp only [ho]
    rw [if_pos hw]
    refine .inl (hy.wp fun v w' hg => ?_)
    obtain ⟨g', ht, rfl, hst⟩ := hg
    exact wpAny_postsG hd hs back hok hend fuel g' _ _ _ (stepG (S := S g) (S' := S g') ho hd hs hI ht hst) (by omega)
def AllOKG (P : Program) (ops : Array Oper) (told : γ → Nat → Value) (S : γ → Array Bool → World → Prop) (a0 : Act) : Nat → List Oper → Prop
  | _, [] => True
  | k, o :: r => OpOKG P ops told S a0 k o ∧ AllOKG P ops told S a0 (k + 1) r
theorem allOKG_get {told : γ → Nat → Value} {S : γ → Array Bool → World → Prop} {a0 : Act} : ∀ (l : List Oper) (k : Nat), AllOKG P ops told S a0 k l → ∀ (i : Nat) (o : Oper), l[i]? = some o → OpOKG P ops told S a0 (k + i) o
  | [], _, _, i, o, h => by cases i <;> cases h
  | p :: r, k, h, 0, o, ho => by
    obtain rfl : p = o := by simpa using ho
    exact h.1
  | p :: r, k, h, i + 1, o, ho => by
    have := allOKG_get r (k + 1) h.2 i o (by simpa using ho)
    rw [show k + (i + 1) = k + 1 + i by omega]
    exact this
theorem wp_region_G {id : Nat} {a : Act} {w : World} {l : List Oper} (told : γ → Nat → Value) (S : γ → Array Bool → World → Prop) (g0 : γ) (ks : List Nat) (hks : ks = List.range l.length) (hm : P.follows .mixedOrders = true) (hB : checkB l.toArray a.tmps.size = true)
    (h0 : S g0 (Array.replicate l.length false) w.drew)
    (hok : AllOKG P l.toArray told S a 0 l)
    (hend : ∀ g w', S g (Array.replicate l.length true) w' → Q .normal { tmps := finalTmps l.toArray (fun i => .inl (told g i)) (fun _ => 0) ks a.tmps, defers := a.defers } w') :
    (Code.region id l.toArray true).wp P Q a w := by
  subst hks
  obtain ⟨hd, hs, back⟩ := checkB_spec hB
  have rep : ∀ i, (Array.replicate l.toArray.size false).getD i false = false := by
    intro i
    rcases Nat.lt_or_ge i l.length with h | h
    · simp [h]
    · have : (Array.replicate l.length false)[i]? = none := Array.getElem?_eq_none (by simpa using h)
      simp [this]
  refine wp_region_any hm (wpAny_postsG (told := told) (S := S) hd hs back (fun k o ho => ?_) (fun g a' w' hI => ?_) _ g0 _ _ _ ?_ ?_)
  · have := allOKG_get l 0 hok k o (by simpa using ho)
    simpa using this
  · have ht := hI.final hB
    have hdf := hI.defers
    have hst := hI.st
    obtain ⟨ts, ds⟩ := a'
    simp only at ht hdf
    subst ht hdf
    simp only [List.size_toArray] at hst ⊢
    exact hend g w' hst
  · refine ⟨by simp, rfl, rfl, fun _ _ => rfl, ?_, by simpa using h0⟩
    intro i o d ho _ hl
    rw [rep] at hl; cases hl
  · unfold left
    exact Nat.le_trans (List.length_filter_le _ _) (by simp)
end
end Go.Proofs.YtfjepjkbflcjbaaGreatDoor.Reg
