/- The statement on what is no pattern's tree. -/
import Derived.Test.YtenibhmjcafbiaaGreatDoorPrW
namespace Go.Proofs.YtenibhmjcafbiaaGreatDoor
section
open Go Go.RowKit
attribute [local go_sem ↓] Go.wp_at_zero Go.wp_at_succ
attribute [local go_sem] eq4
abbrev loneOb (k : Int) : Obj := .cells #[.int .i64 k, .int .u64 0, .int .u64 0, .int .u64 0, .int .u64 0, .int .i64 0, .int .i64 0, .bool false, .slice none 0 0, .int .i64 0, .int .i64 0] 40
def loneT (k : Int) : Tr := .mk k noW 0 0 false 0 0 []
/-- A node of a kind alone. -/
theorem lone_at (k : Int) (w : World) : NdAt (w.alloc (loneOb k)) (fun _ => True) (loneT k) (ndPtr w.heap.size) :=
  .node k noW 0 0 false 0 0 [] w.heap.size none 0 (fun _ => undef) trivial (heap_new w _) (fun i t h => by simp at h) (fun i t h => by simp at h)
theorem alone_one (w : World) : Calls Tryz.prog 19 #[.int .i64 1] w fun e w' => e = .returned (.string ⟨#[91, 94, 92, 120, 48, 48, 45, 92, 120, 102, 102, 93]⟩) ∧ w' = w := by
  go_enter Tryz.func19, Tryz.ntmps19
  go_wp2_with fail
  go_ret
  exact ⟨rfl, rfl⟩
theorem alone_not (k : Int) (hk : ¬ k = 1) (w : World) : Calls Tryz.prog 19 #[.int .i64 k] w fun e w' => e = .returned (.string ⟨#[]⟩) ∧ w' = w := by
  have h1 : ((k : Int) == 1) = false := by simpa using hk
  go_enter Tryz.func19, Tryz.ntmps19
  go_wp2_with fail
  go_ret
  exact ⟨rfl, rfl⟩
theorem lone_ok0 : PrOK (loneT 0) := ⟨.node _ _ _ _ _ _ _ _ (fun h => by simp at h) (fun h => by simp at h) (fun h => by simp at h) (fun i t h => by simp at h), by decide +kernel, by decide +kernel, by decide +kernel⟩
theorem lone_ok1 : PrOK (loneT 1) := ⟨.node _ _ _ _ _ _ _ _ (fun _ => noW_fit) (fun h => by simp at h) (fun h => by simp at h) (fun i t h => by simp at h), by decide +kernel, by decide +kernel, by decide +kernel⟩
theorem lone_bad (k : Int) (h0 : ¬ k = 0) (h1 : ¬ k = 1) : foldR rightN (loneT k) = 201 := by
  have hs : soundR (loneT k) = false := by
    show (!soundS k noW && (!soundN k 0 0 false && soundK k 0 0 [])) = false
    have : soundK k 0 0 [] = false := by
      unfold soundK
      rw [if_neg (by omega)]
      repeat' split
      all_goals rfl
    rw [this, Bool.and_false, Bool.and_false]
  rw [foldR_eq]
  unfold rightN
  rw [hs, if_neg (by simp)]
theorem none_out {w w2 : World} {v : Value} (h : v = .bool true) (hb : Below w.heap.size w w2) : Ending.returned v = .returned (.bool true) ∧ Below w.heap.size w w2 := ⟨by rw [h], hb⟩
set_option maxRecDepth 100000 in
set_option maxHeartbeats 4000000 in
theorem nonelaw_any (k : Int) (w : World) (hT : Tab w) (hP : TabP w) :
    Calls Tryz.prog 5 #[.int .i64 k] w fun e w' => e = .returned (.bool true) ∧ Below w.heap.size w w' := by
  have PN := qhid (print_bad (.pointer none) w (sright_nil w))
  have HT := qhid hT
  have HP := qhid hP
  clear hT hP
  have AW := qhid (fun X (hX : Below w.heap.size w X) => pr_awake X (HT.out.up hX) (HP.out.up hX))
  by_cases k0 : k = 0
  · subst k0
    have PR := qhid (fun X (hX : Below w.heap.size w X) => print_any (X.alloc (loneOb 0)) (lone_at 0 X) ((HT.out.up hX).alloc _) ((HP.out.up hX).up (below1 X _)) lone_ok0)
    rw [show baN (prT (loneT 0)) = ⟨#[]⟩ by kernel_rfl] at PR
    have AL := qhid (fun X => alone_not 0 (by decide) X)
    clear HT HP
    go_enter Tryz.func5, Tryz.ntmps5
    go_wp2_with fail
    refine PN.out.mono ?_
    rintro e w1 ⟨rfl, h1⟩
    have H1 := qhid h1
    have P1 := qhid (PR.out w1 h1)
    clear h1 PN PR
    go_wp2_with fail
    refine P1.out.mono ?_
    rintro e w2 ⟨rfl, h2⟩
    have H2 := qhid (H1.out.trans (((below1 w1 _).trans (h2.mono (below1 w1 _).size)).mono H1.out.size))
    clear h2 P1
    go_wp2_with fail
    refine (AL.out w2).mono ?_
    rintro e w3 ⟨rfl, hw⟩
    obtain rfl : w2 = w3 := hw.symm
    go_wp2_with fail
    refine (AW.out w2 H2.out).mono ?_
    rintro e w4 ⟨rfl, h4⟩
    have H4 := qhid (H2.out.trans (h4.mono H2.out.size))
    clear h4
    go_wp2_with fail
    go_ret
    exact ⟨rfl, H4.out⟩
  by_cases k1 : k = 1
  · subst k1
    have PR := qhid (fun X (hX : Below w.heap.size w X) => print_any (X.alloc (loneOb 1)) (lone_at 1 X) ((HT.out.up hX).alloc _) ((HP.out.up hX).up (below1 X _)) lone_ok1)
    rw [show baN (prT (loneT 1)) = ⟨#[91, 94, 92, 120, 48, 48, 45, 92, 120, 102, 102, 93]⟩ by kernel_rfl] at PR
    have AL := qhid (fun X => alone_one X)
    clear HT HP
    go_enter Tryz.func5, Tryz.ntmps5
    go_wp2_with fail
    refine PN.out.mono ?_
    rintro e w1 ⟨rfl, h1⟩
    have H1 := qhid h1
    have P1 := qhid (PR.out w1 h1)
    clear h1 PN PR
    go_wp2_with fail
    refine P1.out.mono ?_
    rintro e w2 ⟨rfl, h2⟩
    have H2 := qhid (H1.out.trans (((below1 w1 _).trans (h2.mono (below1 w1 _).size)).mono H1.out.size))
    clear h2 P1
    go_wp2_with fail
    refine (AL.out w2).mono ?_
    rintro e w3 ⟨rfl, hw⟩
    obtain rfl : w2 = w3 := hw.symm
    go_wp2_with fail
    refine (AW.out w2 H2.out).mono ?_
    rintro e w4 ⟨rfl, h4⟩
    have H4 := qhid (H2.out.trans (h4.mono H2.out.size))
    clear h4
    go_wp2_with fail
    go_ret
    exact ⟨rfl, H4.out⟩
  have b0 : ((k : Int) == 0) = false := by simpa using k0
  have b1 : ((k : Int) == 1) = false := by simpa using k1
  have RI : Hid (∀ X : World, Calls Tryz.prog 24 #[ndPtr X.heap.size] (X.alloc (loneOb k)) fun e w' => e = .returned (.bool false) ∧ Below (X.alloc (loneOb k)).heap.size (X.alloc (loneOb k)) w') := qhid (fun X => by
    have h := sright_any _ (loneT k) X.heap.size _ (lone_at k X) (by rw [trSize_eq]; show 1 + trSizes [] ≤ _; simp [trSizes])
    rw [lone_bad k k0 k1] at h
    exact h)
  have PR := qhid (fun (X : World) => print_bad (ndPtr X.heap.size) _ (RI.out X))
  have AL := qhid (fun X => alone_not k k1 X)
  clear HT HP RI k0 k1
  go_enter Tryz.func5, Tryz.ntmps5
  go_wp2_with fail
  refine PN.out.mono ?_
  rintro e w1 ⟨rfl, h1⟩
  have H1 := qhid h1
  clear h1 PN
  go_wp2_with fail
  refine (PR.out w1).mono ?_
  rintro e w2 ⟨rfl, h2⟩
  have H2 := qhid (H1.out.trans (((below1 w1 _).trans (h2.mono (below1 w1 _).size)).mono H1.out.size))
  clear h2 PR
  go_wp2_with fail
  refine (AL.out w2).mono ?_
  rintro e w3 ⟨rfl, hw⟩
  obtain rfl : w2 = w3 := hw.symm
  go_wp2_with fail
  refine (AW.out w2 H2.out).mono ?_
  rintro e w4 ⟨rfl, h4⟩
  have H4 := qhid (H2.out.trans (h4.mono H2.out.size))
  clear h4
  go_wp2_with fail
  go_ret
  exact ⟨rfl, H4.out⟩
end
end Go.Proofs.YtenibhmjcafbiaaGreatDoor
