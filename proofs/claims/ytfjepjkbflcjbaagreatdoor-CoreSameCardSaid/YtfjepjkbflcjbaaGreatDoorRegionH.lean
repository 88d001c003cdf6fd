/- A region whose order is drawn, told by a ghost that is chosen as the region runs (as RegionG), where each operation is told that what is listed is closed under what stands ahead (as RegionC). Generic over the program. -/
import Derived.Test.YtfjepjkbflcjbaaGreatDoorRegionG
import Derived.Test.YtfjepjkbflcjbaaGreatDoorRegionC
namespace Go.Proofs.YtfjepjkbflcjbaaGreatDoor.Reg
open Go Go.RowKit
section
variable {P : Program} {ops : Array Oper} {Q : Exit → Act → World → Prop} {γ : Type}
/-- What is asked of an operation. -/
def OpOKH (P : Program) (ops : Array Oper) (told : γ → Nat → Value) (S : γ → Array Bool → World → Prop) (a0 : Act) (k : Nat) (o : Oper) : Prop :=
  ∀ (g : γ) (listed : Array Bool) (A : Act) (w : World), InvS ops (told g) (S g) a0 listed A w → ClosedL ops listed → k < listed.size → listed.getD k false = false → (∀ e ∈ o.after, Region.binds .any e = true → listed.getD e.on false = true) →
    Region.wanted o (yielded ops A.tmps) = true ∧ Yields P o A w (GoodG told S k g listed)
def AllOKH (P : Program) (ops : Array Oper) (told : γ → Nat → Value) (S : γ → Array Bool → World → Prop) (a0 : Act) : Nat → List Oper → Prop
  | _, [] => True
  | k, o :: r => OpOKH P ops told S a0 k o ∧ AllOKH P ops told S a0 (k + 1) r
theorem allOKH_G {told : γ → Nat → Value} {S : γ → Array Bool → World → Prop} {a0 : Act} : ∀ (l : List Oper) (k : Nat), (∀ i o, l[i]? = some o → ops[k + i]? = some o) → AllOKH P ops told S a0 k l → AllOKG P ops told (fun g l X => S g l X ∧ ClosedL ops l) a0 k l
  | [], _, _, _ => trivial
  | o :: r, k, hl, h => by
    refine ⟨fun g listed A w hI hin hun hall => ?_, allOKH_G r (k + 1) (fun i o hi => by rw [show k + 1 + i = k + (i + 1) by omega]; exact hl (i + 1) o (by simpa using hi)) h.2⟩
    have hc := closed_set hI.st.2 (hl 0 o rfl) hall
    obtain ⟨h1, h2⟩ := h.1 g listed A w (invS_weak hI hI.st.1) hI.st.2 hin hun hall
    exact ⟨h1, yields_mono h2 fun v w' ⟨g', e1, e2, hs⟩ => ⟨g', e1, e2, hs, hc⟩⟩
theorem wp_region_H {id : Nat} {a : Act} {w : World} {l : List Oper} (told : γ → Nat → Value) (S : γ → Array Bool → World → Prop) (g0 : γ) (ks : List Nat) (hks : ks = List.range l.length) (hm : P.follows .mixedOrders = true) (hB : checkB l.toArray a.tmps.size = true)
    (h0 : S g0 (Array.replicate l.length false) w.drew)
    (hok : AllOKH P l.toArray told S a 0 l)
    (hend : ∀ g w', S g (Array.replicate l.length true) w' → Q .normal { tmps := finalTmps l.toArray (fun i => .inl (told g i)) (fun _ => 0) ks a.tmps, defers := a.defers } w') :
    (Code.region id l.toArray true).wp P Q a w := by
  refine wp_region_G told (fun g l' X => S g l' X ∧ ClosedL l.toArray l') g0 ks hks hm hB ⟨h0, ?_⟩ (allOKH_G l 0 (fun i o hi => by simpa using hi) hok) (fun g w' h => hend g w' h.1)
  intro k o _ hl
  rw [show (Array.replicate l.length false).getD k false = false by rw [Array.getD_eq_getD_getElem?, Array.getElem?_replicate]; split <;> rfl] at hl
  cases hl
theorem un_of_reach {l : Array Bool} {n i : Nat} (hcl : ClosedL ops l) (hr : reach ops 60 n i = true) (hun : l.getD i false = false) : l.getD n false = false := by
  cases e : l.getD n false with
  | false => rfl
  | true => rw [closed_reach hcl _ _ _ hr e] at hun; cases hun
end
end Go.Proofs.YtfjepjkbflcjbaaGreatDoor.Reg
