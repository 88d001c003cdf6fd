/- The statement on what is told apart. -/
import Derived.Test.YtenibhmjcafbiaaGreatDoorPrW
namespace Go.Proofs.YtenibhmjcafbiaaGreatDoor
section
open Go Go.RowKit
attribute [local go_sem ↓] Go.wp_at_zero Go.wp_at_succ
attribute [local go_sem] eq4
def apTold_ee (s : W4) (sA : ByteArray) (sC : ByteArray) (a : Nat) : Nat → Value
  | 0 => setVal s
  | 1 => .string sA
  | 2 => setVal s
  | 3 => .string sA
  | 4 => .bool true
  | 5 => setVal s
  | 6 => setVal s
  | 7 => .bool true
  | 8 => .bool true
  | 9 => .bool true
  | 10 => .int .u8 (a : Int)
  | 11 => .string sC
  | 12 => .int .u8 (a : Int)
  | 13 => .string sC
  | 14 => .bool true
  | 15 => .int .u8 (a : Int)
  | 16 => .int .u8 (a : Int)
  | 17 => .bool true
  | 18 => .bool true
  | 19 => .bool true
  | 20 => .bool true
  | 21 => .bool true
  | 22 => .bool true
  | 23 => .bool true
  | _ => undef
set_option maxRecDepth 100000 in
set_option maxHeartbeats 4000000 in
theorem apart_ee (s : W4) (sA : ByteArray) (sC : ByteArray) (a : Nat) (w : World)
    (SA : ∀ X, Below w.heap.size w X → Calls Tryz.prog 12 #[setVal s] X fun e w' => e = .returned (.string sA) ∧ Below X.heap.size X w')
    (SB : ∀ X, Below w.heap.size w X → Calls Tryz.prog 12 #[setVal s] X fun e w' => e = .returned (.string sA) ∧ Below X.heap.size X w')
    (BC : ∀ X, Calls Tryz.prog 13 #[.int .u8 (a : Int)] X fun e w' => e = .returned (.string sC) ∧ Below X.heap.size X w')
    (BD : ∀ X, Calls Tryz.prog 13 #[.int .u8 (a : Int)] X fun e w' => e = .returned (.string sC) ∧ Below X.heap.size X w')
    (AW : ∀ X, Below w.heap.size w X → Calls Tryz.prog 7 #[] X fun e w' => e = .returned (.bool true) ∧ Below X.heap.size X w') :
    Calls Tryz.prog 6 #[setVal s, setVal s, .int .u8 (a : Int), .int .u8 (a : Int)] w fun e w' => e = .returned (.bool true) ∧ Below w.heap.size w w' := by
  have HSA := qhid SA
  have HSB := qhid SB
  have HBC := qhid BC
  have HBD := qhid BD
  have HAW := qhid AW
  clear SA SB BC BD AW
  go_enter Tryz.func6, Tryz.ntmps6
  go_wp2_with fail
  obtain ⟨W, hW⟩ : ∃ W, W = (w.alloc (setOb s)).alloc (setOb s) := ⟨_, rfl⟩
  have o1 : OwnSet W w.heap.size s := by rw [hW]; exact .of ((below1 (w.alloc (setOb s)) _).block _ (by simp) |>.trans (heap_new w _))
  have o2 : OwnSet W (w.heap.size + 1) s := by rw [hW]; exact .of (by have h := heap_new (w.alloc (setOb s)) (setOb s); rwa [World.size_alloc] at h)
  have HB : Hid (Below w.heap.size w W) := qhid (by rw [hW]; exact (below1 w _).trans ((below1 (w.alloc (setOb s)) _).mono (below1 w _).size))
  have O1 := qhid o1
  have O2 := qhid o2
  change Code.wp _ _ _ _ ((w.alloc (setOb s)).alloc (setOb s))
  rw [← hW]
  clear hW o1 o2
  refine Reg.wp_region_C (apTold_ee s sA sC a) (fun _ X => Below W.heap.size W X) [0, 1, 2, 3, 4, 5, 6, 7, 8, 9, 10, 11, 12, 13, 14, 15, 16, 17, 18, 19, 20, 21, 22, 23] (by rfl) (by kernel_rfl) (by kernel_rfl) ?_ ?_ ?_
  · exact Below.drew (Below.refl _ _)
  · skip
    refine ⟨fun listed A X hI hcl hin hun hall => .inl ⟨Reg.wanted_none rfl, ?_⟩, ?_⟩
    · have e4 := hI.evo (d := 4) (by kernel_rfl) rfl
      have hX : Below W.heap.size W X := hI.st
      obtain ⟨⟨q0, q1, q2, q3⟩, _, _⟩ := (O1.out.below hX)
      have HX := qhid hX
      clear hI hall hX hcl
      unfold Reg.Yields
      go_simp
      first | rfl | exact ⟨rfl, HX.out⟩ | (refine ⟨?_, HX.out⟩; simp [apTold_ee]; done) | (refine ⟨?_, HX.out⟩; simp [apTold_ee]; assumption)
    refine ⟨fun listed A X hI hcl hin hun hall => .inl ⟨Reg.wanted_none rfl, ?_⟩, ?_⟩
    · have e9 : A.tmps[9]? = some (setVal s) := hI.ev (i := 0) (d := 9) (by rfl) (hall ⟨0, .data⟩ (by simp) rfl)
      have hX : Below W.heap.size W X := hI.st
      have HX := qhid hX
      clear hI hall hX hcl
      unfold Reg.Yields
      go_simp
      exact (HSA.out X (HB.out.trans (HX.out.mono HB.out.size))).mono fun e w'' ⟨he, hb⟩ => ⟨_, he, rfl, HX.out.trans (hb.mono HX.out.size)⟩
    refine ⟨fun listed A X hI hcl hin hun hall => .inl ⟨Reg.wanted_none rfl, ?_⟩, ?_⟩
    · have e5 := hI.evo (d := 5) (by kernel_rfl) rfl
      have hX : Below W.heap.size W X := hI.st
      obtain ⟨⟨q0, q1, q2, q3⟩, _, _⟩ := (O2.out.below hX)
      have HX := qhid hX
      clear hI hall hX hcl
      unfold Reg.Yields
      go_simp
      first | rfl | exact ⟨rfl, HX.out⟩ | (refine ⟨?_, HX.out⟩; simp [apTold_ee]; done) | (refine ⟨?_, HX.out⟩; simp [apTold_ee]; assumption)
    refine ⟨fun listed A X hI hcl hin hun hall => .inl ⟨Reg.wanted_none rfl, ?_⟩, ?_⟩
    · have e11 : A.tmps[11]? = some (setVal s) := hI.ev (i := 2) (d := 11) (by rfl) (hall ⟨2, .data⟩ (by simp) rfl)
      have hX : Below W.heap.size W X := hI.st
      have HX := qhid hX
      clear hI hall hX hcl
      unfold Reg.Yields
      go_simp
      exact (HSB.out X (HB.out.trans (HX.out.mono HB.out.size))).mono fun e w'' ⟨he, hb⟩ => ⟨_, he, rfl, HX.out.trans (hb.mono HX.out.size)⟩
    refine ⟨fun listed A X hI hcl hin hun hall => .inl ⟨Reg.wanted_none rfl, ?_⟩, ?_⟩
    · have e10 : A.tmps[10]? = some (.string sA) := hI.ev (i := 1) (d := 10) (by rfl) (hall ⟨1, .data⟩ (by simp) rfl)
      have e12 : A.tmps[12]? = some (.string sA) := hI.ev (i := 3) (d := 12) (by rfl) (hall ⟨3, .data⟩ (by simp) rfl)
      have hX : Below W.heap.size W X := hI.st
      have HX := qhid hX
      clear hI hall hX hcl
      unfold Reg.Yields
      go_simp
      first | rfl | exact ⟨rfl, HX.out⟩ | (refine ⟨?_, HX.out⟩; simp [apTold_ee]; done) | (refine ⟨?_, HX.out⟩; simp [apTold_ee]; assumption)
    refine ⟨fun listed A X hI hcl hin hun hall => .inl ⟨Reg.wanted_none rfl, ?_⟩, ?_⟩
    · have e4 := hI.evo (d := 4) (by kernel_rfl) rfl
      have hX : Below W.heap.size W X := hI.st
      obtain ⟨⟨q0, q1, q2, q3⟩, _, _⟩ := (O1.out.below hX)
      have HX := qhid hX
      clear hI hall hX hcl
      unfold Reg.Yields
      go_simp
      first | rfl | exact ⟨rfl, HX.out⟩ | (refine ⟨?_, HX.out⟩; simp [apTold_ee]; done) | (refine ⟨?_, HX.out⟩; simp [apTold_ee]; assumption)
    refine ⟨fun listed A X hI hcl hin hun hall => .inl ⟨Reg.wanted_none rfl, ?_⟩, ?_⟩
    · have e5 := hI.evo (d := 5) (by kernel_rfl) rfl
      have hX : Below W.heap.size W X := hI.st
      obtain ⟨⟨q0, q1, q2, q3⟩, _, _⟩ := (O2.out.below hX)
      have HX := qhid hX
      clear hI hall hX hcl
      unfold Reg.Yields
      go_simp
      first | rfl | exact ⟨rfl, HX.out⟩ | (refine ⟨?_, HX.out⟩; simp [apTold_ee]; done) | (refine ⟨?_, HX.out⟩; simp [apTold_ee]; assumption)
    refine ⟨fun listed A X hI hcl hin hun hall => .inl ⟨Reg.wanted_none rfl, ?_⟩, ?_⟩
    · have e14 : A.tmps[14]? = some (setVal s) := hI.ev (i := 5) (d := 14) (by rfl) (hall ⟨5, .data⟩ (by simp) rfl)
      have e15 : A.tmps[15]? = some (setVal s) := hI.ev (i := 6) (d := 15) (by rfl) (hall ⟨6, .data⟩ (by simp) rfl)
      have hX : Below W.heap.size W X := hI.st
      have HX := qhid hX
      clear hI hall hX hcl
      unfold Reg.Yields
      go_simp
      first | rfl | exact ⟨rfl, HX.out⟩ | (refine ⟨?_, HX.out⟩; simp [apTold_ee]; done) | (refine ⟨?_, HX.out⟩; simp [apTold_ee]; assumption)
    refine ⟨fun listed A X hI hcl hin hun hall => .inl ⟨Reg.wanted_none rfl, ?_⟩, ?_⟩
    · have e13 : A.tmps[13]? = some (.bool true) := hI.ev (i := 4) (d := 13) (by rfl) (hall ⟨4, .data⟩ (by simp) rfl)
      have e16 : A.tmps[16]? = some (.bool true) := hI.ev (i := 7) (d := 16) (by rfl) (hall ⟨7, .data⟩ (by simp) rfl)
      have hX : Below W.heap.size W X := hI.st
      have HX := qhid hX
      clear hI hall hX hcl
      unfold Reg.Yields
      go_simp
      first | rfl | exact ⟨rfl, HX.out⟩ | (refine ⟨?_, HX.out⟩; simp [apTold_ee]; done) | (refine ⟨?_, HX.out⟩; simp [apTold_ee]; assumption)
    refine ⟨fun listed A X hI hcl hin hun hall => .inl ⟨Reg.wanted_none rfl, ?_⟩, ?_⟩
    · have e17 : A.tmps[17]? = some (.bool true) := hI.ev (i := 8) (d := 17) (by rfl) (hall ⟨8, .data⟩ (by simp) rfl)
      have hX : Below W.heap.size W X := hI.st
      have HX := qhid hX
      clear hI hall hX hcl
      unfold Reg.Yields
      go_simp
      first | rfl | exact ⟨rfl, HX.out⟩ | (refine ⟨?_, HX.out⟩; simp [apTold_ee]; done) | (refine ⟨?_, HX.out⟩; simp [apTold_ee]; assumption)
    refine ⟨fun listed A X hI hcl hin hun hall => .inl ⟨(Reg.wanted_some (j := 9) (d := 18) rfl rfl (hI.ev (i := 9) (d := 18) (by rfl) (hall ⟨9, .guard⟩ (by simp) rfl) : A.tmps[18]? = some (.bool true))).trans rfl, ?_⟩, ?_⟩
    · have e2 := hI.evo (d := 2) (by kernel_rfl) rfl
      have hX : Below W.heap.size W X := hI.st
      have HX := qhid hX
      clear hI hall hX hcl
      unfold Reg.Yields
      go_simp
      first | rfl | exact ⟨rfl, HX.out⟩ | (refine ⟨?_, HX.out⟩; simp [apTold_ee]; done) | (refine ⟨?_, HX.out⟩; simp [apTold_ee]; assumption)
    refine ⟨fun listed A X hI hcl hin hun hall => .inl ⟨(Reg.wanted_some (j := 9) (d := 18) rfl rfl (hI.ev (i := 9) (d := 18) (by rfl) (hall ⟨9, .guard⟩ (by simp) rfl) : A.tmps[18]? = some (.bool true))).trans rfl, ?_⟩, ?_⟩
    · have e19 : A.tmps[19]? = some (.int .u8 (a : Int)) := hI.ev (i := 10) (d := 19) (by rfl) (hall ⟨10, .data⟩ (by simp) rfl)
      have hX : Below W.heap.size W X := hI.st
      have HX := qhid hX
      clear hI hall hX hcl
      unfold Reg.Yields
      go_simp
      exact (HBC.out X).mono fun e w'' ⟨he, hb⟩ => ⟨_, he, rfl, HX.out.trans (hb.mono HX.out.size)⟩
    refine ⟨fun listed A X hI hcl hin hun hall => .inl ⟨(Reg.wanted_some (j := 9) (d := 18) rfl rfl (hI.ev (i := 9) (d := 18) (by rfl) (hall ⟨9, .guard⟩ (by simp) rfl) : A.tmps[18]? = some (.bool true))).trans rfl, ?_⟩, ?_⟩
    · have e3 := hI.evo (d := 3) (by kernel_rfl) rfl
      have hX : Below W.heap.size W X := hI.st
      have HX := qhid hX
      clear hI hall hX hcl
      unfold Reg.Yields
      go_simp
      first | rfl | exact ⟨rfl, HX.out⟩ | (refine ⟨?_, HX.out⟩; simp [apTold_ee]; done) | (refine ⟨?_, HX.out⟩; simp [apTold_ee]; assumption)
    refine ⟨fun listed A X hI hcl hin hun hall => .inl ⟨(Reg.wanted_some (j := 9) (d := 18) rfl rfl (hI.ev (i := 9) (d := 18) (by rfl) (hall ⟨9, .guard⟩ (by simp) rfl) : A.tmps[18]? = some (.bool true))).trans rfl, ?_⟩, ?_⟩
    · have e21 : A.tmps[21]? = some (.int .u8 (a : Int)) := hI.ev (i := 12) (d := 21) (by rfl) (hall ⟨12, .data⟩ (by simp) rfl)
      have hX : Below W.heap.size W X := hI.st
      have HX := qhid hX
      clear hI hall hX hcl
      unfold Reg.Yields
      go_simp
      exact (HBD.out X).mono fun e w'' ⟨he, hb⟩ => ⟨_, he, rfl, HX.out.trans (hb.mono HX.out.size)⟩
    refine ⟨fun listed A X hI hcl hin hun hall => .inl ⟨(Reg.wanted_some (j := 9) (d := 18) rfl rfl (hI.ev (i := 9) (d := 18) (by rfl) (hall ⟨9, .guard⟩ (by simp) rfl) : A.tmps[18]? = some (.bool true))).trans rfl, ?_⟩, ?_⟩
    · have e20 : A.tmps[20]? = some (.string sC) := hI.ev (i := 11) (d := 20) (by rfl) (hall ⟨11, .data⟩ (by simp) rfl)
      have e22 : A.tmps[22]? = some (.string sC) := hI.ev (i := 13) (d := 22) (by rfl) (hall ⟨13, .data⟩ (by simp) rfl)
      have hX : Below W.heap.size W X := hI.st
      have HX := qhid hX
      clear hI hall hX hcl
      unfold Reg.Yields
      go_simp
      first | rfl | exact ⟨rfl, HX.out⟩ | (refine ⟨?_, HX.out⟩; simp [apTold_ee]; done) | (refine ⟨?_, HX.out⟩; simp [apTold_ee]; assumption)
    refine ⟨fun listed A X hI hcl hin hun hall => .inl ⟨(Reg.wanted_some (j := 9) (d := 18) rfl rfl (hI.ev (i := 9) (d := 18) (by rfl) (hall ⟨9, .guard⟩ (by simp) rfl) : A.tmps[18]? = some (.bool true))).trans rfl, ?_⟩, ?_⟩
    · have e2 := hI.evo (d := 2) (by kernel_rfl) rfl
      have hX : Below W.heap.size W X := hI.st
      have HX := qhid hX
      clear hI hall hX hcl
      unfold Reg.Yields
      go_simp
      first | rfl | exact ⟨rfl, HX.out⟩ | (refine ⟨?_, HX.out⟩; simp [apTold_ee]; done) | (refine ⟨?_, HX.out⟩; simp [apTold_ee]; assumption)
    refine ⟨fun listed A X hI hcl hin hun hall => .inl ⟨(Reg.wanted_some (j := 9) (d := 18) rfl rfl (hI.ev (i := 9) (d := 18) (by rfl) (hall ⟨9, .guard⟩ (by simp) rfl) : A.tmps[18]? = some (.bool true))).trans rfl, ?_⟩, ?_⟩
    · have e3 := hI.evo (d := 3) (by kernel_rfl) rfl
      have hX : Below W.heap.size W X := hI.st
      have HX := qhid hX
      clear hI hall hX hcl
      unfold Reg.Yields
      go_simp
      first | rfl | exact ⟨rfl, HX.out⟩ | (refine ⟨?_, HX.out⟩; simp [apTold_ee]; done) | (refine ⟨?_, HX.out⟩; simp [apTold_ee]; assumption)
    refine ⟨fun listed A X hI hcl hin hun hall => .inl ⟨(Reg.wanted_some (j := 9) (d := 18) rfl rfl (hI.ev (i := 9) (d := 18) (by rfl) (hall ⟨9, .guard⟩ (by simp) rfl) : A.tmps[18]? = some (.bool true))).trans rfl, ?_⟩, ?_⟩
    · have e24 : A.tmps[24]? = some (.int .u8 (a : Int)) := hI.ev (i := 15) (d := 24) (by rfl) (hall ⟨15, .data⟩ (by simp) rfl)
      have e25 : A.tmps[25]? = some (.int .u8 (a : Int)) := hI.ev (i := 16) (d := 25) (by rfl) (hall ⟨16, .data⟩ (by simp) rfl)
      have hX : Below W.heap.size W X := hI.st
      have HX := qhid hX
      clear hI hall hX hcl
      unfold Reg.Yields
      go_simp
      first | rfl | exact ⟨rfl, HX.out⟩ | (refine ⟨?_, HX.out⟩; simp [apTold_ee]; done) | (refine ⟨?_, HX.out⟩; simp [apTold_ee]; assumption)
    refine ⟨fun listed A X hI hcl hin hun hall => .inl ⟨(Reg.wanted_some (j := 9) (d := 18) rfl rfl (hI.ev (i := 9) (d := 18) (by rfl) (hall ⟨9, .guard⟩ (by simp) rfl) : A.tmps[18]? = some (.bool true))).trans rfl, ?_⟩, ?_⟩
    · have e23 : A.tmps[23]? = some (.bool true) := hI.ev (i := 14) (d := 23) (by rfl) (hall ⟨14, .data⟩ (by simp) rfl)
      have e26 : A.tmps[26]? = some (.bool true) := hI.ev (i := 17) (d := 26) (by rfl) (hall ⟨17, .data⟩ (by simp) rfl)
      have hX : Below W.heap.size W X := hI.st
      have HX := qhid hX
      clear hI hall hX hcl
      unfold Reg.Yields
      go_simp
      first | rfl | exact ⟨rfl, HX.out⟩ | (refine ⟨?_, HX.out⟩; simp [apTold_ee]; done) | (refine ⟨?_, HX.out⟩; simp [apTold_ee]; assumption)
    refine ⟨fun listed A X hI hcl hin hun hall => .inl ⟨Reg.wanted_none rfl, ?_⟩, ?_⟩
    · have e18 : A.tmps[18]? = some (.bool true) := hI.ev (i := 9) (d := 18) (by rfl) (hall ⟨9, .data⟩ (by simp) rfl)
      have e27 : A.tmps[27]? = some (.bool true) := hI.ev (i := 18) (d := 27) (by rfl) (hall ⟨18, .data⟩ (by simp) rfl)
      have hX : Below W.heap.size W X := hI.st
      have HX := qhid hX
      clear hI hall hX hcl
      unfold Reg.Yields
      go_simp
      first | rfl | exact ⟨rfl, HX.out⟩ | (refine ⟨?_, HX.out⟩; simp [apTold_ee]; done) | (refine ⟨?_, HX.out⟩; simp [apTold_ee]; assumption)
    refine ⟨fun listed A X hI hcl hin hun hall => .inl ⟨Reg.wanted_none rfl, ?_⟩, ?_⟩
    · have e28 : A.tmps[28]? = some (.bool true) := hI.ev (i := 19) (d := 28) (by rfl) (hall ⟨19, .data⟩ (by simp) rfl)
      have hX : Below W.heap.size W X := hI.st
      have HX := qhid hX
      clear hI hall hX hcl
      unfold Reg.Yields
      go_simp
      first | rfl | exact ⟨rfl, HX.out⟩ | (refine ⟨?_, HX.out⟩; simp [apTold_ee]; done) | (refine ⟨?_, HX.out⟩; simp [apTold_ee]; assumption)
    refine ⟨fun listed A X hI hcl hin hun hall => .inl ⟨(Reg.wanted_some (j := 20) (d := 29) rfl rfl (hI.ev (i := 20) (d := 29) (by rfl) (hall ⟨20, .guard⟩ (by simp) rfl) : A.tmps[29]? = some (.bool true))).trans rfl, ?_⟩, ?_⟩
    · have hX : Below W.heap.size W X := hI.st
      have HX := qhid hX
      clear hI hall hX hcl
      unfold Reg.Yields
      go_simp
      exact (HAW.out X (HB.out.trans (HX.out.mono HB.out.size))).mono fun e w'' ⟨he, hb⟩ => ⟨_, he, rfl, HX.out.trans (hb.mono HX.out.size)⟩
    refine ⟨fun listed A X hI hcl hin hun hall => .inl ⟨Reg.wanted_none rfl, ?_⟩, ?_⟩
    · have e29 : A.tmps[29]? = some (.bool true) := hI.ev (i := 20) (d := 29) (by rfl) (hall ⟨20, .data⟩ (by simp) rfl)
      have e30 : A.tmps[30]? = some (.bool true) := hI.ev (i := 21) (d := 30) (by rfl) (hall ⟨21, .data⟩ (by simp) rfl)
      have hX : Below W.heap.size W X := hI.st
      have HX := qhid hX
      clear hI hall hX hcl
      unfold Reg.Yields
      go_simp
      first | rfl | exact ⟨rfl, HX.out⟩ | (refine ⟨?_, HX.out⟩; simp [apTold_ee]; done) | (refine ⟨?_, HX.out⟩; simp [apTold_ee]; assumption)
    refine ⟨fun listed A X hI hcl hin hun hall => .inl ⟨Reg.wanted_none rfl, ?_⟩, ?_⟩
    · have e31 : A.tmps[31]? = some (.bool true) := hI.ev (i := 22) (d := 31) (by rfl) (hall ⟨22, .data⟩ (by simp) rfl)
      have hX : Below W.heap.size W X := hI.st
      have HX := qhid hX
      clear hI hall hX hcl
      unfold Reg.Yields
      go_simp
      first | rfl | exact ⟨rfl, HX.out⟩ | (refine ⟨?_, HX.out⟩; simp [apTold_ee]; done) | (refine ⟨?_, HX.out⟩; simp [apTold_ee]; assumption)
    trivial
  · intro X hS
    have HX := qhid hS
    clear hS
    simp [Reg.finalTmps, Reg.dstAt, Reg.valOf, apTold_ee]
    go_wp2_with fail
    go_ret
    exact ⟨rfl, HB.out.trans (HX.out.mono HB.out.size)⟩
def apTold_en (s : W4) (sA : ByteArray) (sC sD : ByteArray) (a b : Nat) : Nat → Value
  | 0 => setVal s
  | 1 => .string sA
  | 2 => setVal s
  | 3 => .string sA
  | 4 => .bool true
  | 5 => setVal s
  | 6 => setVal s
  | 7 => .bool true
  | 8 => .bool true
  | 9 => .bool true
  | 10 => .int .u8 (a : Int)
  | 11 => .string sC
  | 12 => .int .u8 (b : Int)
  | 13 => .string sD
  | 14 => .bool false
  | 15 => .int .u8 (a : Int)
  | 16 => .int .u8 (b : Int)
  | 17 => .bool false
  | 18 => .bool true
  | 19 => .bool true
  | 20 => .bool true
  | 21 => .bool true
  | 22 => .bool true
  | 23 => .bool true
  | _ => undef
set_option maxRecDepth 100000 in
set_option maxHeartbeats 4000000 in
theorem apart_en (s : W4) (sA : ByteArray) (sC sD : ByteArray) (a b : Nat) (w : World)
    (SA : ∀ X, Below w.heap.size w X → Calls Tryz.prog 12 #[setVal s] X fun e w' => e = .returned (.string sA) ∧ Below X.heap.size X w')
    (SB : ∀ X, Below w.heap.size w X → Calls Tryz.prog 12 #[setVal s] X fun e w' => e = .returned (.string sA) ∧ Below X.heap.size X w')
    (BC : ∀ X, Calls Tryz.prog 13 #[.int .u8 (a : Int)] X fun e w' => e = .returned (.string sC) ∧ Below X.heap.size X w')
    (BD : ∀ X, Calls Tryz.prog 13 #[.int .u8 (b : Int)] X fun e w' => e = .returned (.string sD) ∧ Below X.heap.size X w')
    (AW : ∀ X, Below w.heap.size w X → Calls Tryz.prog 7 #[] X fun e w' => e = .returned (.bool true) ∧ Below X.heap.size X w') (h4n : ¬ sC.toList = sD.toList) (h5 : ((a : Int) == (b : Int)) = false) (h5n : ¬ a = b) :
    Calls Tryz.prog 6 #[setVal s, setVal s, .int .u8 (a : Int), .int .u8 (b : Int)] w fun e w' => e = .returned (.bool true) ∧ Below w.heap.size w w' := by
  have HSA := qhid SA
  have HSB := qhid SB
  have HBC := qhid BC
  have HBD := qhid BD
  have HAW := qhid AW
  clear SA SB BC BD AW
  have Hh4n := qhid h4n
  have Hh5 := qhid h5
  have Hh5n := qhid h5n
  clear h4n h5 h5n
  go_enter Tryz.func6, Tryz.ntmps6
  go_wp2_with fail
  obtain ⟨W, hW⟩ : ∃ W, W = (w.alloc (setOb s)).alloc (setOb s) := ⟨_, rfl⟩
  have o1 : OwnSet W w.heap.size s := by rw [hW]; exact .of ((below1 (w.alloc (setOb s)) _).block _ (by simp) |>.trans (heap_new w _))
  have o2 : OwnSet W (w.heap.size + 1) s := by rw [hW]; exact .of (by have h := heap_new (w.alloc (setOb s)) (setOb s); rwa [World.size_alloc] at h)
  have HB : Hid (Below w.heap.size w W) := qhid (by rw [hW]; exact (below1 w _).trans ((below1 (w.alloc (setOb s)) _).mono (below1 w _).size))
  have O1 := qhid o1
  have O2 := qhid o2
  change Code.wp _ _ _ _ ((w.alloc (setOb s)).alloc (setOb s))
  rw [← hW]
  clear hW o1 o2
  refine Reg.wp_region_C (apTold_en s sA sC sD a b) (fun _ X => Below W.heap.size W X) [0, 1, 2, 3, 4, 5, 6, 7, 8, 9, 10, 11, 12, 13, 14, 15, 16, 17, 18, 19, 20, 21, 22, 23] (by rfl) (by kernel_rfl) (by kernel_rfl) ?_ ?_ ?_
  · exact Below.drew (Below.refl _ _)
  · skip
    refine ⟨fun listed A X hI hcl hin hun hall => .inl ⟨Reg.wanted_none rfl, ?_⟩, ?_⟩
    · have e4 := hI.evo (d := 4) (by kernel_rfl) rfl
      have hX : Below W.heap.size W X := hI.st
      obtain ⟨⟨q0, q1, q2, q3⟩, _, _⟩ := (O1.out.below hX)
      have HX := qhid hX
      clear hI hall hX hcl
      unfold Reg.Yields
      go_simp
      first | rfl | exact ⟨rfl, HX.out⟩ | (refine ⟨?_, HX.out⟩; simp [apTold_en]; done) | (refine ⟨?_, HX.out⟩; simp [apTold_en]; assumption)
    refine ⟨fun listed A X hI hcl hin hun hall => .inl ⟨Reg.wanted_none rfl, ?_⟩, ?_⟩
    · have e9 : A.tmps[9]? = some (setVal s) := hI.ev (i := 0) (d := 9) (by rfl) (hall ⟨0, .data⟩ (by simp) rfl)
      have hX : Below W.heap.size W X := hI.st
      have HX := qhid hX
      clear hI hall hX hcl
      unfold Reg.Yields
      go_simp
      exact (HSA.out X (HB.out.trans (HX.out.mono HB.out.size))).mono fun e w'' ⟨he, hb⟩ => ⟨_, he, rfl, HX.out.trans (hb.mono HX.out.size)⟩
    refine ⟨fun listed A X hI hcl hin hun hall => .inl ⟨Reg.wanted_none rfl, ?_⟩, ?_⟩
    · have e5 := hI.evo (d := 5) (by kernel_rfl) rfl
      have hX : Below W.heap.size W X := hI.st
      obtain ⟨⟨q0, q1, q2, q3⟩, _, _⟩ := (O2.out.below hX)
      have HX := qhid hX
      clear hI hall hX hcl
      unfold Reg.Yields
      go_simp
      first | rfl | exact ⟨rfl, HX.out⟩ | (refine ⟨?_, HX.out⟩; simp [apTold_en]; done) | (refine ⟨?_, HX.out⟩; simp [apTold_en]; assumption)
    refine ⟨fun listed A X hI hcl hin hun hall => .inl ⟨Reg.wanted_none rfl, ?_⟩, ?_⟩
    · have e11 : A.tmps[11]? = some (setVal s) := hI.ev (i := 2) (d := 11) (by rfl) (hall ⟨2, .data⟩ (by simp) rfl)
      have hX : Below W.heap.size W X := hI.st
      have HX := qhid hX
      clear hI hall hX hcl
      unfold Reg.Yields
      go_simp
      exact (HSB.out X (HB.out.trans (HX.out.mono HB.out.size))).mono fun e w'' ⟨he, hb⟩ => ⟨_, he, rfl, HX.out.trans (hb.mono HX.out.size)⟩
    refine ⟨fun listed A X hI hcl hin hun hall => .inl ⟨Reg.wanted_none rfl, ?_⟩, ?_⟩
    · have e10 : A.tmps[10]? = some (.string sA) := hI.ev (i := 1) (d := 10) (by rfl) (hall ⟨1, .data⟩ (by simp) rfl)
      have e12 : A.tmps[12]? = some (.string sA) := hI.ev (i := 3) (d := 12) (by rfl) (hall ⟨3, .data⟩ (by simp) rfl)
      have hX : Below W.heap.size W X := hI.st
      have HX := qhid hX
      clear hI hall hX hcl
      unfold Reg.Yields
      go_simp
      first | rfl | exact ⟨rfl, HX.out⟩ | (refine ⟨?_, HX.out⟩; simp [apTold_en]; done) | (refine ⟨?_, HX.out⟩; simp [apTold_en]; assumption)
    refine ⟨fun listed A X hI hcl hin hun hall => .inl ⟨Reg.wanted_none rfl, ?_⟩, ?_⟩
    · have e4 := hI.evo (d := 4) (by kernel_rfl) rfl
      have hX : Below W.heap.size W X := hI.st
      obtain ⟨⟨q0, q1, q2, q3⟩, _, _⟩ := (O1.out.below hX)
      have HX := qhid hX
      clear hI hall hX hcl
      unfold Reg.Yields
      go_simp
      first | rfl | exact ⟨rfl, HX.out⟩ | (refine ⟨?_, HX.out⟩; simp [apTold_en]; done) | (refine ⟨?_, HX.out⟩; simp [apTold_en]; assumption)
    refine ⟨fun listed A X hI hcl hin hun hall => .inl ⟨Reg.wanted_none rfl, ?_⟩, ?_⟩
    · have e5 := hI.evo (d := 5) (by kernel_rfl) rfl
      have hX : Below W.heap.size W X := hI.st
      obtain ⟨⟨q0, q1, q2, q3⟩, _, _⟩ := (O2.out.below hX)
      have HX := qhid hX
      clear hI hall hX hcl
      unfold Reg.Yields
      go_simp
      first | rfl | exact ⟨rfl, HX.out⟩ | (refine ⟨?_, HX.out⟩; simp [apTold_en]; done) | (refine ⟨?_, HX.out⟩; simp [apTold_en]; assumption)
    refine ⟨fun listed A X hI hcl hin hun hall => .inl ⟨Reg.wanted_none rfl, ?_⟩, ?_⟩
    · have e14 : A.tmps[14]? = some (setVal s) := hI.ev (i := 5) (d := 14) (by rfl) (hall ⟨5, .data⟩ (by simp) rfl)
      have e15 : A.tmps[15]? = some (setVal s) := hI.ev (i := 6) (d := 15) (by rfl) (hall ⟨6, .data⟩ (by simp) rfl)
      have hX : Below W.heap.size W X := hI.st
      have HX := qhid hX
      clear hI hall hX hcl
      unfold Reg.Yields
      go_simp
      first | rfl | exact ⟨rfl, HX.out⟩ | (refine ⟨?_, HX.out⟩; simp [apTold_en]; done) | (refine ⟨?_, HX.out⟩; simp [apTold_en]; assumption)
    refine ⟨fun listed A X hI hcl hin hun hall => .inl ⟨Reg.wanted_none rfl, ?_⟩, ?_⟩
    · have e13 : A.tmps[13]? = some (.bool true) := hI.ev (i := 4) (d := 13) (by rfl) (hall ⟨4, .data⟩ (by simp) rfl)
      have e16 : A.tmps[16]? = some (.bool true) := hI.ev (i := 7) (d := 16) (by rfl) (hall ⟨7, .data⟩ (by simp) rfl)
      have hX : Below W.heap.size W X := hI.st
      have HX := qhid hX
      clear hI hall hX hcl
      unfold Reg.Yields
      go_simp
      first | rfl | exact ⟨rfl, HX.out⟩ | (refine ⟨?_, HX.out⟩; simp [apTold_en]; done) | (refine ⟨?_, HX.out⟩; simp [apTold_en]; assumption)
    refine ⟨fun listed A X hI hcl hin hun hall => .inl ⟨Reg.wanted_none rfl, ?_⟩, ?_⟩
    · have e17 : A.tmps[17]? = some (.bool true) := hI.ev (i := 8) (d := 17) (by rfl) (hall ⟨8, .data⟩ (by simp) rfl)
      have hX : Below W.heap.size W X := hI.st
      have HX := qhid hX
      clear hI hall hX hcl
      unfold Reg.Yields
      go_simp
      first | rfl | exact ⟨rfl, HX.out⟩ | (refine ⟨?_, HX.out⟩; simp [apTold_en]; done) | (refine ⟨?_, HX.out⟩; simp [apTold_en]; assumption)
    refine ⟨fun listed A X hI hcl hin hun hall => .inl ⟨(Reg.wanted_some (j := 9) (d := 18) rfl rfl (hI.ev (i := 9) (d := 18) (by rfl) (hall ⟨9, .guard⟩ (by simp) rfl) : A.tmps[18]? = some (.bool true))).trans rfl, ?_⟩, ?_⟩
    · have e2 := hI.evo (d := 2) (by kernel_rfl) rfl
      have hX : Below W.heap.size W X := hI.st
      have HX := qhid hX
      clear hI hall hX hcl
      unfold Reg.Yields
      go_simp
      first | rfl | exact ⟨rfl, HX.out⟩ | (refine ⟨?_, HX.out⟩; simp [apTold_en]; done) | (refine ⟨?_, HX.out⟩; simp [apTold_en]; assumption)
    refine ⟨fun listed A X hI hcl hin hun hall => .inl ⟨(Reg.wanted_some (j := 9) (d := 18) rfl rfl (hI.ev (i := 9) (d := 18) (by rfl) (hall ⟨9, .guard⟩ (by simp) rfl) : A.tmps[18]? = some (.bool true))).trans rfl, ?_⟩, ?_⟩
    · have e19 : A.tmps[19]? = some (.int .u8 (a : Int)) := hI.ev (i := 10) (d := 19) (by rfl) (hall ⟨10, .data⟩ (by simp) rfl)
      have hX : Below W.heap.size W X := hI.st
      have HX := qhid hX
      clear hI hall hX hcl
      unfold Reg.Yields
      go_simp
      exact (HBC.out X).mono fun e w'' ⟨he, hb⟩ => ⟨_, he, rfl, HX.out.trans (hb.mono HX.out.size)⟩
    refine ⟨fun listed A X hI hcl hin hun hall => .inl ⟨(Reg.wanted_some (j := 9) (d := 18) rfl rfl (hI.ev (i := 9) (d := 18) (by rfl) (hall ⟨9, .guard⟩ (by simp) rfl) : A.tmps[18]? = some (.bool true))).trans rfl, ?_⟩, ?_⟩
    · have e3 := hI.evo (d := 3) (by kernel_rfl) rfl
      have hX : Below W.heap.size W X := hI.st
      have HX := qhid hX
      clear hI hall hX hcl
      unfold Reg.Yields
      go_simp
      first | rfl | exact ⟨rfl, HX.out⟩ | (refine ⟨?_, HX.out⟩; simp [apTold_en]; done) | (refine ⟨?_, HX.out⟩; simp [apTold_en]; assumption)
    refine ⟨fun listed A X hI hcl hin hun hall => .inl ⟨(Reg.wanted_some (j := 9) (d := 18) rfl rfl (hI.ev (i := 9) (d := 18) (by rfl) (hall ⟨9, .guard⟩ (by simp) rfl) : A.tmps[18]? = some (.bool true))).trans rfl, ?_⟩, ?_⟩
    · have e21 : A.tmps[21]? = some (.int .u8 (b : Int)) := hI.ev (i := 12) (d := 21) (by rfl) (hall ⟨12, .data⟩ (by simp) rfl)
      have hX : Below W.heap.size W X := hI.st
      have HX := qhid hX
      clear hI hall hX hcl
      unfold Reg.Yields
      go_simp
      exact (HBD.out X).mono fun e w'' ⟨he, hb⟩ => ⟨_, he, rfl, HX.out.trans (hb.mono HX.out.size)⟩
    refine ⟨fun listed A X hI hcl hin hun hall => .inl ⟨(Reg.wanted_some (j := 9) (d := 18) rfl rfl (hI.ev (i := 9) (d := 18) (by rfl) (hall ⟨9, .guard⟩ (by simp) rfl) : A.tmps[18]? = some (.bool true))).trans rfl, ?_⟩, ?_⟩
    · have e20 : A.tmps[20]? = some (.string sC) := hI.ev (i := 11) (d := 20) (by rfl) (hall ⟨11, .data⟩ (by simp) rfl)
      have e22 : A.tmps[22]? = some (.string sD) := hI.ev (i := 13) (d := 22) (by rfl) (hall ⟨13, .data⟩ (by simp) rfl)
      have hX : Below W.heap.size W X := hI.st
      have h4n := Hh4n.out
      have HX := qhid hX
      clear hI hall hX hcl
      unfold Reg.Yields
      go_simp
      first | rfl | exact ⟨rfl, HX.out⟩ | (refine ⟨?_, HX.out⟩; simp [apTold_en]; done) | (refine ⟨?_, HX.out⟩; simp [apTold_en]; assumption)
    refine ⟨fun listed A X hI hcl hin hun hall => .inl ⟨(Reg.wanted_some (j := 9) (d := 18) rfl rfl (hI.ev (i := 9) (d := 18) (by rfl) (hall ⟨9, .guard⟩ (by simp) rfl) : A.tmps[18]? = some (.bool true))).trans rfl, ?_⟩, ?_⟩
    · have e2 := hI.evo (d := 2) (by kernel_rfl) rfl
      have hX : Below W.heap.size W X := hI.st
      have HX := qhid hX
      clear hI hall hX hcl
      unfold Reg.Yields
      go_simp
      first | rfl | exact ⟨rfl, HX.out⟩ | (refine ⟨?_, HX.out⟩; simp [apTold_en]; done) | (refine ⟨?_, HX.out⟩; simp [apTold_en]; assumption)
    refine ⟨fun listed A X hI hcl hin hun hall => .inl ⟨(Reg.wanted_some (j := 9) (d := 18) rfl rfl (hI.ev (i := 9) (d := 18) (by rfl) (hall ⟨9, .guard⟩ (by simp) rfl) : A.tmps[18]? = some (.bool true))).trans rfl, ?_⟩, ?_⟩
    · have e3 := hI.evo (d := 3) (by kernel_rfl) rfl
      have hX : Below W.heap.size W X := hI.st
      have HX := qhid hX
      clear hI hall hX hcl
      unfold Reg.Yields
      go_simp
      first | rfl | exact ⟨rfl, HX.out⟩ | (refine ⟨?_, HX.out⟩; simp [apTold_en]; done) | (refine ⟨?_, HX.out⟩; simp [apTold_en]; assumption)
    refine ⟨fun listed A X hI hcl hin hun hall => .inl ⟨(Reg.wanted_some (j := 9) (d := 18) rfl rfl (hI.ev (i := 9) (d := 18) (by rfl) (hall ⟨9, .guard⟩ (by simp) rfl) : A.tmps[18]? = some (.bool true))).trans rfl, ?_⟩, ?_⟩
    · have e24 : A.tmps[24]? = some (.int .u8 (a : Int)) := hI.ev (i := 15) (d := 24) (by rfl) (hall ⟨15, .data⟩ (by simp) rfl)
      have e25 : A.tmps[25]? = some (.int .u8 (b : Int)) := hI.ev (i := 16) (d := 25) (by rfl) (hall ⟨16, .data⟩ (by simp) rfl)
      have hX : Below W.heap.size W X := hI.st
      have h5 := Hh5.out
      have h5n := Hh5n.out
      have HX := qhid hX
      clear hI hall hX hcl
      unfold Reg.Yields
      go_simp
      first | rfl | exact ⟨rfl, HX.out⟩ | (refine ⟨?_, HX.out⟩; simp [apTold_en]; done) | (refine ⟨?_, HX.out⟩; simp [apTold_en]; assumption)
    refine ⟨fun listed A X hI hcl hin hun hall => .inl ⟨(Reg.wanted_some (j := 9) (d := 18) rfl rfl (hI.ev (i := 9) (d := 18) (by rfl) (hall ⟨9, .guard⟩ (by simp) rfl) : A.tmps[18]? = some (.bool true))).trans rfl, ?_⟩, ?_⟩
    · have e23 : A.tmps[23]? = some (.bool false) := hI.ev (i := 14) (d := 23) (by rfl) (hall ⟨14, .data⟩ (by simp) rfl)
      have e26 : A.tmps[26]? = some (.bool false) := hI.ev (i := 17) (d := 26) (by rfl) (hall ⟨17, .data⟩ (by simp) rfl)
      have hX : Below W.heap.size W X := hI.st
      have HX := qhid hX
      clear hI hall hX hcl
      unfold Reg.Yields
      go_simp
      first | rfl | exact ⟨rfl, HX.out⟩ | (refine ⟨?_, HX.out⟩; simp [apTold_en]; done) | (refine ⟨?_, HX.out⟩; simp [apTold_en]; assumption)
    refine ⟨fun listed A X hI hcl hin hun hall => .inl ⟨Reg.wanted_none rfl, ?_⟩, ?_⟩
    · have e18 : A.tmps[18]? = some (.bool true) := hI.ev (i := 9) (d := 18) (by rfl) (hall ⟨9, .data⟩ (by simp) rfl)
      have e27 : A.tmps[27]? = some (.bool true) := hI.ev (i := 18) (d := 27) (by rfl) (hall ⟨18, .data⟩ (by simp) rfl)
      have hX : Below W.heap.size W X := hI.st
      have HX := qhid hX
      clear hI hall hX hcl
      unfold Reg.Yields
      go_simp
      first | rfl | exact ⟨rfl, HX.out⟩ | (refine ⟨?_, HX.out⟩; simp [apTold_en]; done) | (refine ⟨?_, HX.out⟩; simp [apTold_en]; assumption)
    refine ⟨fun listed A X hI hcl hin hun hall => .inl ⟨Reg.wanted_none rfl, ?_⟩, ?_⟩
    · have e28 : A.tmps[28]? = some (.bool true) := hI.ev (i := 19) (d := 28) (by rfl) (hall ⟨19, .data⟩ (by simp) rfl)
      have hX : Below W.heap.size W X := hI.st
      have HX := qhid hX
      clear hI hall hX hcl
      unfold Reg.Yields
      go_simp
      first | rfl | exact ⟨rfl, HX.out⟩ | (refine ⟨?_, HX.out⟩; simp [apTold_en]; done) | (refine ⟨?_, HX.out⟩; simp [apTold_en]; assumption)
    refine ⟨fun listed A X hI hcl hin hun hall => .inl ⟨(Reg.wanted_some (j := 20) (d := 29) rfl rfl (hI.ev (i := 20) (d := 29) (by rfl) (hall ⟨20, .guard⟩ (by simp) rfl) : A.tmps[29]? = some (.bool true))).trans rfl, ?_⟩, ?_⟩
    · have hX : Below W.heap.size W X := hI.st
      have HX := qhid hX
      clear hI hall hX hcl
      unfold Reg.Yields
      go_simp
      exact (HAW.out X (HB.out.trans (HX.out.mono HB.out.size))).mono fun e w'' ⟨he, hb⟩ => ⟨_, he, rfl, HX.out.trans (hb.mono HX.out.size)⟩
    refine ⟨fun listed A X hI hcl hin hun hall => .inl ⟨Reg.wanted_none rfl, ?_⟩, ?_⟩
    · have e29 : A.tmps[29]? = some (.bool true) := hI.ev (i := 20) (d := 29) (by rfl) (hall ⟨20, .data⟩ (by simp) rfl)
      have e30 : A.tmps[30]? = some (.bool true) := hI.ev (i := 21) (d := 30) (by rfl) (hall ⟨21, .data⟩ (by simp) rfl)
      have hX : Below W.heap.size W X := hI.st
      have HX := qhid hX
      clear hI hall hX hcl
      unfold Reg.Yields
      go_simp
      first | rfl | exact ⟨rfl, HX.out⟩ | (refine ⟨?_, HX.out⟩; simp [apTold_en]; done) | (refine ⟨?_, HX.out⟩; simp [apTold_en]; assumption)
    refine ⟨fun listed A X hI hcl hin hun hall => .inl ⟨Reg.wanted_none rfl, ?_⟩, ?_⟩
    · have e31 : A.tmps[31]? = some (.bool true) := hI.ev (i := 22) (d := 31) (by rfl) (hall ⟨22, .data⟩ (by simp) rfl)
      have hX : Below W.heap.size W X := hI.st
      have HX := qhid hX
      clear hI hall hX hcl
      unfold Reg.Yields
      go_simp
      first | rfl | exact ⟨rfl, HX.out⟩ | (refine ⟨?_, HX.out⟩; simp [apTold_en]; done) | (refine ⟨?_, HX.out⟩; simp [apTold_en]; assumption)
    trivial
  · intro X hS
    have HX := qhid hS
    clear hS
    simp [Reg.finalTmps, Reg.dstAt, Reg.valOf, apTold_en]
    go_wp2_with fail
    go_ret
    exact ⟨rfl, HB.out.trans (HX.out.mono HB.out.size)⟩
def apTold_ne (s t : W4) (sA sB : ByteArray) (sC : ByteArray) (a : Nat) : Nat → Value
  | 0 => setVal s
  | 1 => .string sA
  | 2 => setVal t
  | 3 => .string sB
  | 4 => .bool false
  | 5 => setVal s
  | 6 => setVal t
  | 7 => .bool false
  | 8 => .bool true
  | 9 => .bool true
  | 10 => .int .u8 (a : Int)
  | 11 => .string sC
  | 12 => .int .u8 (a : Int)
  | 13 => .string sC
  | 14 => .bool true
  | 15 => .int .u8 (a : Int)
  | 16 => .int .u8 (a : Int)
  | 17 => .bool true
  | 18 => .bool true
  | 19 => .bool true
  | 20 => .bool true
  | 21 => .bool true
  | 22 => .bool true
  | 23 => .bool true
  | _ => undef
set_option maxRecDepth 100000 in
set_option maxHeartbeats 4000000 in
theorem apart_ne (s t : W4) (sA sB : ByteArray) (sC : ByteArray) (a : Nat) (w : World)
    (SA : ∀ X, Below w.heap.size w X → Calls Tryz.prog 12 #[setVal s] X fun e w' => e = .returned (.string sA) ∧ Below X.heap.size X w')
    (SB : ∀ X, Below w.heap.size w X → Calls Tryz.prog 12 #[setVal t] X fun e w' => e = .returned (.string sB) ∧ Below X.heap.size X w')
    (BC : ∀ X, Calls Tryz.prog 13 #[.int .u8 (a : Int)] X fun e w' => e = .returned (.string sC) ∧ Below X.heap.size X w')
    (BD : ∀ X, Calls Tryz.prog 13 #[.int .u8 (a : Int)] X fun e w' => e = .returned (.string sC) ∧ Below X.heap.size X w')
    (AW : ∀ X, Below w.heap.size w X → Calls Tryz.prog 7 #[] X fun e w' => e = .returned (.bool true) ∧ Below X.heap.size X w') (h1 : (s.a == t.a && s.b == t.b && s.c == t.c && s.d == t.d) = false) (h2 : ((¬ s.a = t.a ∨ ¬ s.b = t.b) ∨ ¬ s.c = t.c) ∨ ¬ s.d = t.d) (h3n : ¬ sA.toList = sB.toList) :
    Calls Tryz.prog 6 #[setVal s, setVal t, .int .u8 (a : Int), .int .u8 (a : Int)] w fun e w' => e = .returned (.bool true) ∧ Below w.heap.size w w' := by
  have HSA := qhid SA
  have HSB := qhid SB
  have HBC := qhid BC
  have HBD := qhid BD
  have HAW := qhid AW
  clear SA SB BC BD AW
  have Hh1 := qhid h1
  have Hh2 := qhid h2
  have Hh3n := qhid h3n
  clear h1 h2 h3n
  go_enter Tryz.func6, Tryz.ntmps6
  go_wp2_with fail
  obtain ⟨W, hW⟩ : ∃ W, W = (w.alloc (setOb s)).alloc (setOb t) := ⟨_, rfl⟩
  have o1 : OwnSet W w.heap.size s := by rw [hW]; exact .of ((below1 (w.alloc (setOb s)) _).block _ (by simp) |>.trans (heap_new w _))
  have o2 : OwnSet W (w.heap.size + 1) t := by rw [hW]; exact .of (by have h := heap_new (w.alloc (setOb s)) (setOb t); rwa [World.size_alloc] at h)
  have HB : Hid (Below w.heap.size w W) := qhid (by rw [hW]; exact (below1 w _).trans ((below1 (w.alloc (setOb s)) _).mono (below1 w _).size))
  have O1 := qhid o1
  have O2 := qhid o2
  change Code.wp _ _ _ _ ((w.alloc (setOb s)).alloc (setOb t))
  rw [← hW]
  clear hW o1 o2
  refine Reg.wp_region_C (apTold_ne s t sA sB sC a) (fun _ X => Below W.heap.size W X) [0, 1, 2, 3, 4, 5, 6, 7, 8, 9, 10, 11, 12, 13, 14, 15, 16, 17, 18, 19, 20, 21, 22, 23] (by rfl) (by kernel_rfl) (by kernel_rfl) ?_ ?_ ?_
  · exact Below.drew (Below.refl _ _)
  · skip
    refine ⟨fun listed A X hI hcl hin hun hall => .inl ⟨Reg.wanted_none rfl, ?_⟩, ?_⟩
    · have e4 := hI.evo (d := 4) (by kernel_rfl) rfl
      have hX : Below W.heap.size W X := hI.st
      obtain ⟨⟨q0, q1, q2, q3⟩, _, _⟩ := (O1.out.below hX)
      have HX := qhid hX
      clear hI hall hX hcl
      unfold Reg.Yields
      go_simp
      first | rfl | exact ⟨rfl, HX.out⟩ | (refine ⟨?_, HX.out⟩; simp [apTold_ne]; done) | (refine ⟨?_, HX.out⟩; simp [apTold_ne]; assumption)
    refine ⟨fun listed A X hI hcl hin hun hall => .inl ⟨Reg.wanted_none rfl, ?_⟩, ?_⟩
    · have e9 : A.tmps[9]? = some (setVal s) := hI.ev (i := 0) (d := 9) (by rfl) (hall ⟨0, .data⟩ (by simp) rfl)
      have hX : Below W.heap.size W X := hI.st
      have HX := qhid hX
      clear hI hall hX hcl
      unfold Reg.Yields
      go_simp
      exact (HSA.out X (HB.out.trans (HX.out.mono HB.out.size))).mono fun e w'' ⟨he, hb⟩ => ⟨_, he, rfl, HX.out.trans (hb.mono HX.out.size)⟩
    refine ⟨fun listed A X hI hcl hin hun hall => .inl ⟨Reg.wanted_none rfl, ?_⟩, ?_⟩
    · have e5 := hI.evo (d := 5) (by kernel_rfl) rfl
      have hX : Below W.heap.size W X := hI.st
      obtain ⟨⟨q0, q1, q2, q3⟩, _, _⟩ := (O2.out.below hX)
      have HX := qhid hX
      clear hI hall hX hcl
      unfold Reg.Yields
      go_simp
      first | rfl | exact ⟨rfl, HX.out⟩ | (refine ⟨?_, HX.out⟩; simp [apTold_ne]; done) | (refine ⟨?_, HX.out⟩; simp [apTold_ne]; assumption)
    refine ⟨fun listed A X hI hcl hin hun hall => .inl ⟨Reg.wanted_none rfl, ?_⟩, ?_⟩
    · have e11 : A.tmps[11]? = some (setVal t) := hI.ev (i := 2) (d := 11) (by rfl) (hall ⟨2, .data⟩ (by simp) rfl)
      have hX : Below W.heap.size W X := hI.st
      have HX := qhid hX
      clear hI hall hX hcl
      unfold Reg.Yields
      go_simp
      exact (HSB.out X (HB.out.trans (HX.out.mono HB.out.size))).mono fun e w'' ⟨he, hb⟩ => ⟨_, he, rfl, HX.out.trans (hb.mono HX.out.size)⟩
    refine ⟨fun listed A X hI hcl hin hun hall => .inl ⟨Reg.wanted_none rfl, ?_⟩, ?_⟩
    · have e10 : A.tmps[10]? = some (.string sA) := hI.ev (i := 1) (d := 10) (by rfl) (hall ⟨1, .data⟩ (by simp) rfl)
      have e12 : A.tmps[12]? = some (.string sB) := hI.ev (i := 3) (d := 12) (by rfl) (hall ⟨3, .data⟩ (by simp) rfl)
      have hX : Below W.heap.size W X := hI.st
      have h3n := Hh3n.out
      have HX := qhid hX
      clear hI hall hX hcl
      unfold Reg.Yields
      go_simp
      first | rfl | exact ⟨rfl, HX.out⟩ | (refine ⟨?_, HX.out⟩; simp [apTold_ne]; done) | (refine ⟨?_, HX.out⟩; simp [apTold_ne]; assumption)
    refine ⟨fun listed A X hI hcl hin hun hall => .inl ⟨Reg.wanted_none rfl, ?_⟩, ?_⟩
    · have e4 := hI.evo (d := 4) (by kernel_rfl) rfl
      have hX : Below W.heap.size W X := hI.st
      obtain ⟨⟨q0, q1, q2, q3⟩, _, _⟩ := (O1.out.below hX)
      have HX := qhid hX
      clear hI hall hX hcl
      unfold Reg.Yields
      go_simp
      first | rfl | exact ⟨rfl, HX.out⟩ | (refine ⟨?_, HX.out⟩; simp [apTold_ne]; done) | (refine ⟨?_, HX.out⟩; simp [apTold_ne]; assumption)
    refine ⟨fun listed A X hI hcl hin hun hall => .inl ⟨Reg.wanted_none rfl, ?_⟩, ?_⟩
    · have e5 := hI.evo (d := 5) (by kernel_rfl) rfl
      have hX : Below W.heap.size W X := hI.st
      obtain ⟨⟨q0, q1, q2, q3⟩, _, _⟩ := (O2.out.below hX)
      have HX := qhid hX
      clear hI hall hX hcl
      unfold Reg.Yields
      go_simp
      first | rfl | exact ⟨rfl, HX.out⟩ | (refine ⟨?_, HX.out⟩; simp [apTold_ne]; done) | (refine ⟨?_, HX.out⟩; simp [apTold_ne]; assumption)
    refine ⟨fun listed A X hI hcl hin hun hall => .inl ⟨Reg.wanted_none rfl, ?_⟩, ?_⟩
    · have e14 : A.tmps[14]? = some (setVal s) := hI.ev (i := 5) (d := 14) (by rfl) (hall ⟨5, .data⟩ (by simp) rfl)
      have e15 : A.tmps[15]? = some (setVal t) := hI.ev (i := 6) (d := 15) (by rfl) (hall ⟨6, .data⟩ (by simp) rfl)
      have hX : Below W.heap.size W X := hI.st
      have h1 := Hh1.out
      have h2 := Hh2.out
      have HX := qhid hX
      clear hI hall hX hcl
      unfold Reg.Yields
      go_simp
      first | rfl | exact ⟨rfl, HX.out⟩ | (refine ⟨?_, HX.out⟩; simp [apTold_ne]; done) | (refine ⟨?_, HX.out⟩; simp [apTold_ne]; assumption)
    refine ⟨fun listed A X hI hcl hin hun hall => .inl ⟨Reg.wanted_none rfl, ?_⟩, ?_⟩
    · have e13 : A.tmps[13]? = some (.bool false) := hI.ev (i := 4) (d := 13) (by rfl) (hall ⟨4, .data⟩ (by simp) rfl)
      have e16 : A.tmps[16]? = some (.bool false) := hI.ev (i := 7) (d := 16) (by rfl) (hall ⟨7, .data⟩ (by simp) rfl)
      have hX : Below W.heap.size W X := hI.st
      have HX := qhid hX
      clear hI hall hX hcl
      unfold Reg.Yields
      go_simp
      first | rfl | exact ⟨rfl, HX.out⟩ | (refine ⟨?_, HX.out⟩; simp [apTold_ne]; done) | (refine ⟨?_, HX.out⟩; simp [apTold_ne]; assumption)
    refine ⟨fun listed A X hI hcl hin hun hall => .inl ⟨Reg.wanted_none rfl, ?_⟩, ?_⟩
    · have e17 : A.tmps[17]? = some (.bool true) := hI.ev (i := 8) (d := 17) (by rfl) (hall ⟨8, .data⟩ (by simp) rfl)
      have hX : Below W.heap.size W X := hI.st
      have HX := qhid hX
      clear hI hall hX hcl
      unfold Reg.Yields
      go_simp
      first | rfl | exact ⟨rfl, HX.out⟩ | (refine ⟨?_, HX.out⟩; simp [apTold_ne]; done) | (refine ⟨?_, HX.out⟩; simp [apTold_ne]; assumption)
    refine ⟨fun listed A X hI hcl hin hun hall => .inl ⟨(Reg.wanted_some (j := 9) (d := 18) rfl rfl (hI.ev (i := 9) (d := 18) (by rfl) (hall ⟨9, .guard⟩ (by simp) rfl) : A.tmps[18]? = some (.bool true))).trans rfl, ?_⟩, ?_⟩
    · have e2 := hI.evo (d := 2) (by kernel_rfl) rfl
      have hX : Below W.heap.size W X := hI.st
      have HX := qhid hX
      clear hI hall hX hcl
      unfold Reg.Yields
      go_simp
      first | rfl | exact ⟨rfl, HX.out⟩ | (refine ⟨?_, HX.out⟩; simp [apTold_ne]; done) | (refine ⟨?_, HX.out⟩; simp [apTold_ne]; assumption)
    refine ⟨fun listed A X hI hcl hin hun hall => .inl ⟨(Reg.wanted_some (j := 9) (d := 18) rfl rfl (hI.ev (i := 9) (d := 18) (by rfl) (hall ⟨9, .guard⟩ (by simp) rfl) : A.tmps[18]? = some (.bool true))).trans rfl, ?_⟩, ?_⟩
    · have e19 : A.tmps[19]? = some (.int .u8 (a : Int)) := hI.ev (i := 10) (d := 19) (by rfl) (hall ⟨10, .data⟩ (by simp) rfl)
      have hX : Below W.heap.size W X := hI.st
      have HX := qhid hX
      clear hI hall hX hcl
      unfold Reg.Yields
      go_simp
      exact (HBC.out X).mono fun e w'' ⟨he, hb⟩ => ⟨_, he, rfl, HX.out.trans (hb.mono HX.out.size)⟩
    refine ⟨fun listed A X hI hcl hin hun hall => .inl ⟨(Reg.wanted_some (j := 9) (d := 18) rfl rfl (hI.ev (i := 9) (d := 18) (by rfl) (hall ⟨9, .guard⟩ (by simp) rfl) : A.tmps[18]? = some (.bool true))).trans rfl, ?_⟩, ?_⟩
    · have e3 := hI.evo (d := 3) (by kernel_rfl) rfl
      have hX : Below W.heap.size W X := hI.st
      have HX := qhid hX
      clear hI hall hX hcl
      unfold Reg.Yields
      go_simp
      first | rfl | exact ⟨rfl, HX.out⟩ | (refine ⟨?_, HX.out⟩; simp [apTold_ne]; done) | (refine ⟨?_, HX.out⟩; simp [apTold_ne]; assumption)
    refine ⟨fun listed A X hI hcl hin hun hall => .inl ⟨(Reg.wanted_some (j := 9) (d := 18) rfl rfl (hI.ev (i := 9) (d := 18) (by rfl) (hall ⟨9, .guard⟩ (by simp) rfl) : A.tmps[18]? = some (.bool true))).trans rfl, ?_⟩, ?_⟩
    · have e21 : A.tmps[21]? = some (.int .u8 (a : Int)) := hI.ev (i := 12) (d := 21) (by rfl) (hall ⟨12, .data⟩ (by simp) rfl)
      have hX : Below W.heap.size W X := hI.st
      have HX := qhid hX
      clear hI hall hX hcl
      unfold Reg.Yields
      go_simp
      exact (HBD.out X).mono fun e w'' ⟨he, hb⟩ => ⟨_, he, rfl, HX.out.trans (hb.mono HX.out.size)⟩
    refine ⟨fun listed A X hI hcl hin hun hall => .inl ⟨(Reg.wanted_some (j := 9) (d := 18) rfl rfl (hI.ev (i := 9) (d := 18) (by rfl) (hall ⟨9, .guard⟩ (by simp) rfl) : A.tmps[18]? = some (.bool true))).trans rfl, ?_⟩, ?_⟩
    · have e20 : A.tmps[20]? = some (.string sC) := hI.ev (i := 11) (d := 20) (by rfl) (hall ⟨11, .data⟩ (by simp) rfl)
      have e22 : A.tmps[22]? = some (.string sC) := hI.ev (i := 13) (d := 22) (by rfl) (hall ⟨13, .data⟩ (by simp) rfl)
      have hX : Below W.heap.size W X := hI.st
      have HX := qhid hX
      clear hI hall hX hcl
      unfold Reg.Yields
      go_simp
      first | rfl | exact ⟨rfl, HX.out⟩ | (refine ⟨?_, HX.out⟩; simp [apTold_ne]; done) | (refine ⟨?_, HX.out⟩; simp [apTold_ne]; assumption)
    refine ⟨fun listed A X hI hcl hin hun hall => .inl ⟨(Reg.wanted_some (j := 9) (d := 18) rfl rfl (hI.ev (i := 9) (d := 18) (by rfl) (hall ⟨9, .guard⟩ (by simp) rfl) : A.tmps[18]? = some (.bool true))).trans rfl, ?_⟩, ?_⟩
    · have e2 := hI.evo (d := 2) (by kernel_rfl) rfl
      have hX : Below W.heap.size W X := hI.st
      have HX := qhid hX
      clear hI hall hX hcl
      unfold Reg.Yields
      go_simp
      first | rfl | exact ⟨rfl, HX.out⟩ | (refine ⟨?_, HX.out⟩; simp [apTold_ne]; done) | (refine ⟨?_, HX.out⟩; simp [apTold_ne]; assumption)
    refine ⟨fun listed A X hI hcl hin hun hall => .inl ⟨(Reg.wanted_some (j := 9) (d := 18) rfl rfl (hI.ev (i := 9) (d := 18) (by rfl) (hall ⟨9, .guard⟩ (by simp) rfl) : A.tmps[18]? = some (.bool true))).trans rfl, ?_⟩, ?_⟩
    · have e3 := hI.evo (d := 3) (by kernel_rfl) rfl
      have hX : Below W.heap.size W X := hI.st
      have HX := qhid hX
      clear hI hall hX hcl
      unfold Reg.Yields
      go_simp
      first | rfl | exact ⟨rfl, HX.out⟩ | (refine ⟨?_, HX.out⟩; simp [apTold_ne]; done) | (refine ⟨?_, HX.out⟩; simp [apTold_ne]; assumption)
    refine ⟨fun listed A X hI hcl hin hun hall => .inl ⟨(Reg.wanted_some (j := 9) (d := 18) rfl rfl (hI.ev (i := 9) (d := 18) (by rfl) (hall ⟨9, .guard⟩ (by simp) rfl) : A.tmps[18]? = some (.bool true))).trans rfl, ?_⟩, ?_⟩
    · have e24 : A.tmps[24]? = some (.int .u8 (a : Int)) := hI.ev (i := 15) (d := 24) (by rfl) (hall ⟨15, .data⟩ (by simp) rfl)
      have e25 : A.tmps[25]? = some (.int .u8 (a : Int)) := hI.ev (i := 16) (d := 25) (by rfl) (hall ⟨16, .data⟩ (by simp) rfl)
      have hX : Below W.heap.size W X := hI.st
      have HX := qhid hX
      clear hI hall hX hcl
      unfold Reg.Yields
      go_simp
      first | rfl | exact ⟨rfl, HX.out⟩ | (refine ⟨?_, HX.out⟩; simp [apTold_ne]; done) | (refine ⟨?_, HX.out⟩; simp [apTold_ne]; assumption)
    refine ⟨fun listed A X hI hcl hin hun hall => .inl ⟨(Reg.wanted_some (j := 9) (d := 18) rfl rfl (hI.ev (i := 9) (d := 18) (by rfl) (hall ⟨9, .guard⟩ (by simp) rfl) : A.tmps[18]? = some (.bool true))).trans rfl, ?_⟩, ?_⟩
    · have e23 : A.tmps[23]? = some (.bool true) := hI.ev (i := 14) (d := 23) (by rfl) (hall ⟨14, .data⟩ (by simp) rfl)
      have e26 : A.tmps[26]? = some (.bool true) := hI.ev (i := 17) (d := 26) (by rfl) (hall ⟨17, .data⟩ (by simp) rfl)
      have hX : Below W.heap.size W X := hI.st
      have HX := qhid hX
      clear hI hall hX hcl
      unfold Reg.Yields
      go_simp
      first | rfl | exact ⟨rfl, HX.out⟩ | (refine ⟨?_, HX.out⟩; simp [apTold_ne]; done) | (refine ⟨?_, HX.out⟩; simp [apTold_ne]; assumption)
    refine ⟨fun listed A X hI hcl hin hun hall => .inl ⟨Reg.wanted_none rfl, ?_⟩, ?_⟩
    · have e18 : A.tmps[18]? = some (.bool true) := hI.ev (i := 9) (d := 18) (by rfl) (hall ⟨9, .data⟩ (by simp) rfl)
      have e27 : A.tmps[27]? = some (.bool true) := hI.ev (i := 18) (d := 27) (by rfl) (hall ⟨18, .data⟩ (by simp) rfl)
      have hX : Below W.heap.size W X := hI.st
      have HX := qhid hX
      clear hI hall hX hcl
      unfold Reg.Yields
      go_simp
      first | rfl | exact ⟨rfl, HX.out⟩ | (refine ⟨?_, HX.out⟩; simp [apTold_ne]; done) | (refine ⟨?_, HX.out⟩; simp [apTold_ne]; assumption)
    refine ⟨fun listed A X hI hcl hin hun hall => .inl ⟨Reg.wanted_none rfl, ?_⟩, ?_⟩
    · have e28 : A.tmps[28]? = some (.bool true) := hI.ev (i := 19) (d := 28) (by rfl) (hall ⟨19, .data⟩ (by simp) rfl)
      have hX : Below W.heap.size W X := hI.st
      have HX := qhid hX
      clear hI hall hX hcl
      unfold Reg.Yields
      go_simp
      first | rfl | exact ⟨rfl, HX.out⟩ | (refine ⟨?_, HX.out⟩; simp [apTold_ne]; done) | (refine ⟨?_, HX.out⟩; simp [apTold_ne]; assumption)
    refine ⟨fun listed A X hI hcl hin hun hall => .inl ⟨(Reg.wanted_some (j := 20) (d := 29) rfl rfl (hI.ev (i := 20) (d := 29) (by rfl) (hall ⟨20, .guard⟩ (by simp) rfl) : A.tmps[29]? = some (.bool true))).trans rfl, ?_⟩, ?_⟩
    · have hX : Below W.heap.size W X := hI.st
      have HX := qhid hX
      clear hI hall hX hcl
      unfold Reg.Yields
      go_simp
      exact (HAW.out X (HB.out.trans (HX.out.mono HB.out.size))).mono fun e w'' ⟨he, hb⟩ => ⟨_, he, rfl, HX.out.trans (hb.mono HX.out.size)⟩
    refine ⟨fun listed A X hI hcl hin hun hall => .inl ⟨Reg.wanted_none rfl, ?_⟩, ?_⟩
    · have e29 : A.tmps[29]? = some (.bool true) := hI.ev (i := 20) (d := 29) (by rfl) (hall ⟨20, .data⟩ (by simp) rfl)
      have e30 : A.tmps[30]? = some (.bool true) := hI.ev (i := 21) (d := 30) (by rfl) (hall ⟨21, .data⟩ (by simp) rfl)
      have hX : Below W.heap.size W X := hI.st
      have HX := qhid hX
      clear hI hall hX hcl
      unfold Reg.Yields
      go_simp
      first | rfl | exact ⟨rfl, HX.out⟩ | (refine ⟨?_, HX.out⟩; simp [apTold_ne]; done) | (refine ⟨?_, HX.out⟩; simp [apTold_ne]; assumption)
    refine ⟨fun listed A X hI hcl hin hun hall => .inl ⟨Reg.wanted_none rfl, ?_⟩, ?_⟩
    · have e31 : A.tmps[31]? = some (.bool true) := hI.ev (i := 22) (d := 31) (by rfl) (hall ⟨22, .data⟩ (by simp) rfl)
      have hX : Below W.heap.size W X := hI.st
      have HX := qhid hX
      clear hI hall hX hcl
      unfold Reg.Yields
      go_simp
      first | rfl | exact ⟨rfl, HX.out⟩ | (refine ⟨?_, HX.out⟩; simp [apTold_ne]; done) | (refine ⟨?_, HX.out⟩; simp [apTold_ne]; assumption)
    trivial
  · intro X hS
    have HX := qhid hS
    clear hS
    simp [Reg.finalTmps, Reg.dstAt, Reg.valOf, apTold_ne]
    go_wp2_with fail
    go_ret
    exact ⟨rfl, HB.out.trans (HX.out.mono HB.out.size)⟩
def apTold_nn (s t : W4) (sA sB : ByteArray) (sC sD : ByteArray) (a b : Nat) : Nat → Value
  | 0 => setVal s
  | 1 => .string sA
  | 2 => setVal t
  | 3 => .string sB
  | 4 => .bool false
  | 5 => setVal s
  | 6 => setVal t
  | 7 => .bool false
  | 8 => .bool true
  | 9 => .bool true
  | 10 => .int .u8 (a : Int)
  | 11 => .string sC
  | 12 => .int .u8 (b : Int)
  | 13 => .string sD
  | 14 => .bool false
  | 15 => .int .u8 (a : Int)
  | 16 => .int .u8 (b : Int)
  | 17 => .bool false
  | 18 => .bool true
  | 19 => .bool true
  | 20 => .bool true
  | 21 => .bool true
  | 22 => .bool true
  | 23 => .bool true
  | _ => undef
set_option maxRecDepth 100000 in
set_option maxHeartbeats 4000000 in
theorem apart_nn (s t : W4) (sA sB : ByteArray) (sC sD : ByteArray) (a b : Nat) (w : World)
    (SA : ∀ X, Below w.heap.size w X → Calls Tryz.prog 12 #[setVal s] X fun e w' => e = .returned (.string sA) ∧ Below X.heap.size X w')
    (SB : ∀ X, Below w.heap.size w X → Calls Tryz.prog 12 #[setVal t] X fun e w' => e = .returned (.string sB) ∧ Below X.heap.size X w')
    (BC : ∀ X, Calls Tryz.prog 13 #[.int .u8 (a : Int)] X fun e w' => e = .returned (.string sC) ∧ Below X.heap.size X w')
    (BD : ∀ X, Calls Tryz.prog 13 #[.int .u8 (b : Int)] X fun e w' => e = .returned (.string sD) ∧ Below X.heap.size X w')
    (AW : ∀ X, Below w.heap.size w X → Calls Tryz.prog 7 #[] X fun e w' => e = .returned (.bool true) ∧ Below X.heap.size X w') (h1 : (s.a == t.a && s.b == t.b && s.c == t.c && s.d == t.d) = false) (h2 : ((¬ s.a = t.a ∨ ¬ s.b = t.b) ∨ ¬ s.c = t.c) ∨ ¬ s.d = t.d) (h3n : ¬ sA.toList = sB.toList) (h4n : ¬ sC.toList = sD.toList) (h5 : ((a : Int) == (b : Int)) = false) (h5n : ¬ a = b) :
    Calls Tryz.prog 6 #[setVal s, setVal t, .int .u8 (a : Int), .int .u8 (b : Int)] w fun e w' => e = .returned (.bool true) ∧ Below w.heap.size w w' := by
  have HSA := qhid SA
  have HSB := qhid SB
  have HBC := qhid BC
  have HBD := qhid BD
  have HAW := qhid AW
  clear SA SB BC BD AW
  have Hh1 := qhid h1
  have Hh2 := qhid h2
  have Hh3n := qhid h3n
  have Hh4n := qhid h4n
  have Hh5 := qhid h5
  have Hh5n := qhid h5n
  clear h1 h2 h3n h4n h5 h5n
  go_enter Tryz.func6, Tryz.ntmps6
  go_wp2_with fail
  obtain ⟨W, hW⟩ : ∃ W, W = (w.alloc (setOb s)).alloc (setOb t) := ⟨_, rfl⟩
  have o1 : OwnSet W w.heap.size s := by rw [hW]; exact .of ((below1 (w.alloc (setOb s)) _).block _ (by simp) |>.trans (heap_new w _))
  have o2 : OwnSet W (w.heap.size + 1) t := by rw [hW]; exact .of (by have h := heap_new (w.alloc (setOb s)) (setOb t); rwa [World.size_alloc] at h)
  have HB : Hid (Below w.heap.size w W) := qhid (by rw [hW]; exact (below1 w _).trans ((below1 (w.alloc (setOb s)) _).mono (below1 w _).size))
  have O1 := qhid o1
  have O2 := qhid o2
  change Code.wp _ _ _ _ ((w.alloc (setOb s)).alloc (setOb t))
  rw [← hW]
  clear hW o1 o2
  refine Reg.wp_region_C (apTold_nn s t sA sB sC sD a b) (fun _ X => Below W.heap.size W X) [0, 1, 2, 3, 4, 5, 6, 7, 8, 9, 10, 11, 12, 13, 14, 15, 16, 17, 18, 19, 20, 21, 22, 23] (by rfl) (by kernel_rfl) (by kernel_rfl) ?_ ?_ ?_
  · exact Below.drew (Below.refl _ _)
  · skip
    refine ⟨fun listed A X hI hcl hin hun hall => .inl ⟨Reg.wanted_none rfl, ?_⟩, ?_⟩
    · have e4 := hI.evo (d := 4) (by kernel_rfl) rfl
      have hX : Below W.heap.size W X := hI.st
      obtain ⟨⟨q0, q1, q2, q3⟩, _, _⟩ := (O1.out.below hX)
      have HX := qhid hX
      clear hI hall hX hcl
      unfold Reg.Yields
      go_simp
      first | rfl | exact ⟨rfl, HX.out⟩ | (refine ⟨?_, HX.out⟩; simp [apTold_nn]; done) | (refine ⟨?_, HX.out⟩; simp [apTold_nn]; assumption)
    refine ⟨fun listed A X hI hcl hin hun hall => .inl ⟨Reg.wanted_none rfl, ?_⟩, ?_⟩
    · have e9 : A.tmps[9]? = some (setVal s) := hI.ev (i := 0) (d := 9) (by rfl) (hall ⟨0, .data⟩ (by simp) rfl)
      have hX : Below W.heap.size W X := hI.st
      have HX := qhid hX
      clear hI hall hX hcl
      unfold Reg.Yields
      go_simp
      exact (HSA.out X (HB.out.trans (HX.out.mono HB.out.size))).mono fun e w'' ⟨he, hb⟩ => ⟨_, he, rfl, HX.out.trans (hb.mono HX.out.size)⟩
    refine ⟨fun listed A X hI hcl hin hun hall => .inl ⟨Reg.wanted_none rfl, ?_⟩, ?_⟩
    · have e5 := hI.evo (d := 5) (by kernel_rfl) rfl
      have hX : Below W.heap.size W X := hI.st
      obtain ⟨⟨q0, q1, q2, q3⟩, _, _⟩ := (O2.out.below hX)
      have HX := qhid hX
      clear hI hall hX hcl
      unfold Reg.Yields
      go_simp
      first | rfl | exact ⟨rfl, HX.out⟩ | (refine ⟨?_, HX.out⟩; simp [apTold_nn]; done) | (refine ⟨?_, HX.out⟩; simp [apTold_nn]; assumption)
    refine ⟨fun listed A X hI hcl hin hun hall => .inl ⟨Reg.wanted_none rfl, ?_⟩, ?_⟩
    · have e11 : A.tmps[11]? = some (setVal t) := hI.ev (i := 2) (d := 11) (by rfl) (hall ⟨2, .data⟩ (by simp) rfl)
      have hX : Below W.heap.size W X := hI.st
      have HX := qhid hX
      clear hI hall hX hcl
      unfold Reg.Yields
      go_simp
      exact (HSB.out X (HB.out.trans (HX.out.mono HB.out.size))).mono fun e w'' ⟨he, hb⟩ => ⟨_, he, rfl, HX.out.trans (hb.mono HX.out.size)⟩
    refine ⟨fun listed A X hI hcl hin hun hall => .inl ⟨Reg.wanted_none rfl, ?_⟩, ?_⟩
    · have e10 : A.tmps[10]? = some (.string sA) := hI.ev (i := 1) (d := 10) (by rfl) (hall ⟨1, .data⟩ (by simp) rfl)
      have e12 : A.tmps[12]? = some (.string sB) := hI.ev (i := 3) (d := 12) (by rfl) (hall ⟨3, .data⟩ (by simp) rfl)
      have hX : Below W.heap.size W X := hI.st
      have h3n := Hh3n.out
      have HX := qhid hX
      clear hI hall hX hcl
      unfold Reg.Yields
      go_simp
      first | rfl | exact ⟨rfl, HX.out⟩ | (refine ⟨?_, HX.out⟩; simp [apTold_nn]; done) | (refine ⟨?_, HX.out⟩; simp [apTold_nn]; assumption)
    refine ⟨fun listed A X hI hcl hin hun hall => .inl ⟨Reg.wanted_none rfl, ?_⟩, ?_⟩
    · have e4 := hI.evo (d := 4) (by kernel_rfl) rfl
      have hX : Below W.heap.size W X := hI.st
      obtain ⟨⟨q0, q1, q2, q3⟩, _, _⟩ := (O1.out.below hX)
      have HX := qhid hX
      clear hI hall hX hcl
      unfold Reg.Yields
      go_simp
      first | rfl | exact ⟨rfl, HX.out⟩ | (refine ⟨?_, HX.out⟩; simp [apTold_nn]; done) | (refine ⟨?_, HX.out⟩; simp [apTold_nn]; assumption)
    refine ⟨fun listed A X hI hcl hin hun hall => .inl ⟨Reg.wanted_none rfl, ?_⟩, ?_⟩
    · have e5 := hI.evo (d := 5) (by kernel_rfl) rfl
      have hX : Below W.heap.size W X := hI.st
      obtain ⟨⟨q0, q1, q2, q3⟩, _, _⟩ := (O2.out.below hX)
      have HX := qhid hX
      clear hI hall hX hcl
      unfold Reg.Yields
      go_simp
      first | rfl | exact ⟨rfl, HX.out⟩ | (refine ⟨?_, HX.out⟩; simp [apTold_nn]; done) | (refine ⟨?_, HX.out⟩; simp [apTold_nn]; assumption)
    refine ⟨fun listed A X hI hcl hin hun hall => .inl ⟨Reg.wanted_none rfl, ?_⟩, ?_⟩
    · have e14 : A.tmps[14]? = some (setVal s) := hI.ev (i := 5) (d := 14) (by rfl) (hall ⟨5, .data⟩ (by simp) rfl)
      have e15 : A.tmps[15]? = some (setVal t) := hI.ev (i := 6) (d := 15) (by rfl) (hall ⟨6, .data⟩ (by simp) rfl)
      have hX : Below W.heap.size W X := hI.st
      have h1 := Hh1.out
      have h2 := Hh2.out
      have HX := qhid hX
      clear hI hall hX hcl
      unfold Reg.Yields
      go_simp
      first | rfl | exact ⟨rfl, HX.out⟩ | (refine ⟨?_, HX.out⟩; simp [apTold_nn]; done) | (refine ⟨?_, HX.out⟩; simp [apTold_nn]; assumption)
    refine ⟨fun listed A X hI hcl hin hun hall => .inl ⟨Reg.wanted_none rfl, ?_⟩, ?_⟩
    · have e13 : A.tmps[13]? = some (.bool false) := hI.ev (i := 4) (d := 13) (by rfl) (hall ⟨4, .data⟩ (by simp) rfl)
      have e16 : A.tmps[16]? = some (.bool false) := hI.ev (i := 7) (d := 16) (by rfl) (hall ⟨7, .data⟩ (by simp) rfl)
      have hX : Below W.heap.size W X := hI.st
      have HX := qhid hX
      clear hI hall hX hcl
      unfold Reg.Yields
      go_simp
      first | rfl | exact ⟨rfl, HX.out⟩ | (refine ⟨?_, HX.out⟩; simp [apTold_nn]; done) | (refine ⟨?_, HX.out⟩; simp [apTold_nn]; assumption)
    refine ⟨fun listed A X hI hcl hin hun hall => .inl ⟨Reg.wanted_none rfl, ?_⟩, ?_⟩
    · have e17 : A.tmps[17]? = some (.bool true) := hI.ev (i := 8) (d := 17) (by rfl) (hall ⟨8, .data⟩ (by simp) rfl)
      have hX : Below W.heap.size W X := hI.st
      have HX := qhid hX
      clear hI hall hX hcl
      unfold Reg.Yields
      go_simp
      first | rfl | exact ⟨rfl, HX.out⟩ | (refine ⟨?_, HX.out⟩; simp [apTold_nn]; done) | (refine ⟨?_, HX.out⟩; simp [apTold_nn]; assumption)
    refine ⟨fun listed A X hI hcl hin hun hall => .inl ⟨(Reg.wanted_some (j := 9) (d := 18) rfl rfl (hI.ev (i := 9) (d := 18) (by rfl) (hall ⟨9, .guard⟩ (by simp) rfl) : A.tmps[18]? = some (.bool true))).trans rfl, ?_⟩, ?_⟩
    · have e2 := hI.evo (d := 2) (by kernel_rfl) rfl
      have hX : Below W.heap.size W X := hI.st
      have HX := qhid hX
      clear hI hall hX hcl
      unfold Reg.Yields
      go_simp
      first | rfl | exact ⟨rfl, HX.out⟩ | (refine ⟨?_, HX.out⟩; simp [apTold_nn]; done) | (refine ⟨?_, HX.out⟩; simp [apTold_nn]; assumption)
    refine ⟨fun listed A X hI hcl hin hun hall => .inl ⟨(Reg.wanted_some (j := 9) (d := 18) rfl rfl (hI.ev (i := 9) (d := 18) (by rfl) (hall ⟨9, .guard⟩ (by simp) rfl) : A.tmps[18]? = some (.bool true))).trans rfl, ?_⟩, ?_⟩
    · have e19 : A.tmps[19]? = some (.int .u8 (a : Int)) := hI.ev (i := 10) (d := 19) (by rfl) (hall ⟨10, .data⟩ (by simp) rfl)
      have hX : Below W.heap.size W X := hI.st
      have HX := qhid hX
      clear hI hall hX hcl
      unfold Reg.Yields
      go_simp
      exact (HBC.out X).mono fun e w'' ⟨he, hb⟩ => ⟨_, he, rfl, HX.out.trans (hb.mono HX.out.size)⟩
    refine ⟨fun listed A X hI hcl hin hun hall => .inl ⟨(Reg.wanted_some (j := 9) (d := 18) rfl rfl (hI.ev (i := 9) (d := 18) (by rfl) (hall ⟨9, .guard⟩ (by simp) rfl) : A.tmps[18]? = some (.bool true))).trans rfl, ?_⟩, ?_⟩
    · have e3 := hI.evo (d := 3) (by kernel_rfl) rfl
      have hX : Below W.heap.size W X := hI.st
      have HX := qhid hX
      clear hI hall hX hcl
      unfold Reg.Yields
      go_simp
      first | rfl | exact ⟨rfl, HX.out⟩ | (refine ⟨?_, HX.out⟩; simp [apTold_nn]; done) | (refine ⟨?_, HX.out⟩; simp [apTold_nn]; assumption)
    refine ⟨fun listed A X hI hcl hin hun hall => .inl ⟨(Reg.wanted_some (j := 9) (d := 18) rfl rfl (hI.ev (i := 9) (d := 18) (by rfl) (hall ⟨9, .guard⟩ (by simp) rfl) : A.tmps[18]? = some (.bool true))).trans rfl, ?_⟩, ?_⟩
    · have e21 : A.tmps[21]? = some (.int .u8 (b : Int)) := hI.ev (i := 12) (d := 21) (by rfl) (hall ⟨12, .data⟩ (by simp) rfl)
      have hX : Below W.heap.size W X := hI.st
      have HX := qhid hX
      clear hI hall hX hcl
      unfold Reg.Yields
      go_simp
      exact (HBD.out X).mono fun e w'' ⟨he, hb⟩ => ⟨_, he, rfl, HX.out.trans (hb.mono HX.out.size)⟩
    refine ⟨fun listed A X hI hcl hin hun hall => .inl ⟨(Reg.wanted_some (j := 9) (d := 18) rfl rfl (hI.ev (i := 9) (d := 18) (by rfl) (hall ⟨9, .guard⟩ (by simp) rfl) : A.tmps[18]? = some (.bool true))).trans rfl, ?_⟩, ?_⟩
    · have e20 : A.tmps[20]? = some (.string sC) := hI.ev (i := 11) (d := 20) (by rfl) (hall ⟨11, .data⟩ (by simp) rfl)
      have e22 : A.tmps[22]? = some (.string sD) := hI.ev (i := 13) (d := 22) (by rfl) (hall ⟨13, .data⟩ (by simp) rfl)
      have hX : Below W.heap.size W X := hI.st
      have h4n := Hh4n.out
      have HX := qhid hX
      clear hI hall hX hcl
      unfold Reg.Yields
      go_simp
      first | rfl | exact ⟨rfl, HX.out⟩ | (refine ⟨?_, HX.out⟩; simp [apTold_nn]; done) | (refine ⟨?_, HX.out⟩; simp [apTold_nn]; assumption)
    refine ⟨fun listed A X hI hcl hin hun hall => .inl ⟨(Reg.wanted_some (j := 9) (d := 18) rfl rfl (hI.ev (i := 9) (d := 18) (by rfl) (hall ⟨9, .guard⟩ (by simp) rfl) : A.tmps[18]? = some (.bool true))).trans rfl, ?_⟩, ?_⟩
    · have e2 := hI.evo (d := 2) (by kernel_rfl) rfl
      have hX : Below W.heap.size W X := hI.st
      have HX := qhid hX
      clear hI hall hX hcl
      unfold Reg.Yields
      go_simp
      first | rfl | exact ⟨rfl, HX.out⟩ | (refine ⟨?_, HX.out⟩; simp [apTold_nn]; done) | (refine ⟨?_, HX.out⟩; simp [apTold_nn]; assumption)
    refine ⟨fun listed A X hI hcl hin hun hall => .inl ⟨(Reg.wanted_some (j := 9) (d := 18) rfl rfl (hI.ev (i := 9) (d := 18) (by rfl) (hall ⟨9, .guard⟩ (by simp) rfl) : A.tmps[18]? = some (.bool true))).trans rfl, ?_⟩, ?_⟩
    · have e3 := hI.evo (d := 3) (by kernel_rfl) rfl
      have hX : Below W.heap.size W X := hI.st
      have HX := qhid hX
      clear hI hall hX hcl
      unfold Reg.Yields
      go_simp
      first | rfl | exact ⟨rfl, HX.out⟩ | (refine ⟨?_, HX.out⟩; simp [apTold_nn]; done) | (refine ⟨?_, HX.out⟩; simp [apTold_nn]; assumption)
    refine ⟨fun listed A X hI hcl hin hun hall => .inl ⟨(Reg.wanted_some (j := 9) (d := 18) rfl rfl (hI.ev (i := 9) (d := 18) (by rfl) (hall ⟨9, .guard⟩ (by simp) rfl) : A.tmps[18]? = some (.bool true))).trans rfl, ?_⟩, ?_⟩
    · have e24 : A.tmps[24]? = some (.int .u8 (a : Int)) := hI.ev (i := 15) (d := 24) (by rfl) (hall ⟨15, .data⟩ (by simp) rfl)
      have e25 : A.tmps[25]? = some (.int .u8 (b : Int)) := hI.ev (i := 16) (d := 25) (by rfl) (hall ⟨16, .data⟩ (by simp) rfl)
      have hX : Below W.heap.size W X := hI.st
      have h5 := Hh5.out
      have h5n := Hh5n.out
      have HX := qhid hX
      clear hI hall hX hcl
      unfold Reg.Yields
      go_simp
      first | rfl | exact ⟨rfl, HX.out⟩ | (refine ⟨?_, HX.out⟩; simp [apTold_nn]; done) | (refine ⟨?_, HX.out⟩; simp [apTold_nn]; assumption)
    refine ⟨fun listed A X hI hcl hin hun hall => .inl ⟨(Reg.wanted_some (j := 9) (d := 18) rfl rfl (hI.ev (i := 9) (d := 18) (by rfl) (hall ⟨9, .guard⟩ (by simp) rfl) : A.tmps[18]? = some (.bool true))).trans rfl, ?_⟩, ?_⟩
    · have e23 : A.tmps[23]? = some (.bool false) := hI.ev (i := 14) (d := 23) (by rfl) (hall ⟨14, .data⟩ (by simp) rfl)
      have e26 : A.tmps[26]? = some (.bool false) := hI.ev (i := 17) (d := 26) (by rfl) (hall ⟨17, .data⟩ (by simp) rfl)
      have hX : Below W.heap.size W X := hI.st
      have HX := qhid hX
      clear hI hall hX hcl
      unfold Reg.Yields
      go_simp
      first | rfl | exact ⟨rfl, HX.out⟩ | (refine ⟨?_, HX.out⟩; simp [apTold_nn]; done) | (refine ⟨?_, HX.out⟩; simp [apTold_nn]; assumption)
    refine ⟨fun listed A X hI hcl hin hun hall => .inl ⟨Reg.wanted_none rfl, ?_⟩, ?_⟩
    · have e18 : A.tmps[18]? = some (.bool true) := hI.ev (i := 9) (d := 18) (by rfl) (hall ⟨9, .data⟩ (by simp) rfl)
      have e27 : A.tmps[27]? = some (.bool true) := hI.ev (i := 18) (d := 27) (by rfl) (hall ⟨18, .data⟩ (by simp) rfl)
      have hX : Below W.heap.size W X := hI.st
      have HX := qhid hX
      clear hI hall hX hcl
      unfold Reg.Yields
      go_simp
      first | rfl | exact ⟨rfl, HX.out⟩ | (refine ⟨?_, HX.out⟩; simp [apTold_nn]; done) | (refine ⟨?_, HX.out⟩; simp [apTold_nn]; assumption)
    refine ⟨fun listed A X hI hcl hin hun hall => .inl ⟨Reg.wanted_none rfl, ?_⟩, ?_⟩
    · have e28 : A.tmps[28]? = some (.bool true) := hI.ev (i := 19) (d := 28) (by rfl) (hall ⟨19, .data⟩ (by simp) rfl)
      have hX : Below W.heap.size W X := hI.st
      have HX := qhid hX
      clear hI hall hX hcl
      unfold Reg.Yields
      go_simp
      first | rfl | exact ⟨rfl, HX.out⟩ | (refine ⟨?_, HX.out⟩; simp [apTold_nn]; done) | (refine ⟨?_, HX.out⟩; simp [apTold_nn]; assumption)
    refine ⟨fun listed A X hI hcl hin hun hall => .inl ⟨(Reg.wanted_some (j := 20) (d := 29) rfl rfl (hI.ev (i := 20) (d := 29) (by rfl) (hall ⟨20, .guard⟩ (by simp) rfl) : A.tmps[29]? = some (.bool true))).trans rfl, ?_⟩, ?_⟩
    · have hX : Below W.heap.size W X := hI.st
      have HX := qhid hX
      clear hI hall hX hcl
      unfold Reg.Yields
      go_simp
      exact (HAW.out X (HB.out.trans (HX.out.mono HB.out.size))).mono fun e w'' ⟨he, hb⟩ => ⟨_, he, rfl, HX.out.trans (hb.mono HX.out.size)⟩
    refine ⟨fun listed A X hI hcl hin hun hall => .inl ⟨Reg.wanted_none rfl, ?_⟩, ?_⟩
    · have e29 : A.tmps[29]? = some (.bool true) := hI.ev (i := 20) (d := 29) (by rfl) (hall ⟨20, .data⟩ (by simp) rfl)
      have e30 : A.tmps[30]? = some (.bool true) := hI.ev (i := 21) (d := 30) (by rfl) (hall ⟨21, .data⟩ (by simp) rfl)
      have hX : Below W.heap.size W X := hI.st
      have HX := qhid hX
      clear hI hall hX hcl
      unfold Reg.Yields
      go_simp
      first | rfl | exact ⟨rfl, HX.out⟩ | (refine ⟨?_, HX.out⟩; simp [apTold_nn]; done) | (refine ⟨?_, HX.out⟩; simp [apTold_nn]; assumption)
    refine ⟨fun listed A X hI hcl hin hun hall => .inl ⟨Reg.wanted_none rfl, ?_⟩, ?_⟩
    · have e31 : A.tmps[31]? = some (.bool true) := hI.ev (i := 22) (d := 31) (by rfl) (hall ⟨22, .data⟩ (by simp) rfl)
      have hX : Below W.heap.size W X := hI.st
      have HX := qhid hX
      clear hI hall hX hcl
      unfold Reg.Yields
      go_simp
      first | rfl | exact ⟨rfl, HX.out⟩ | (refine ⟨?_, HX.out⟩; simp [apTold_nn]; done) | (refine ⟨?_, HX.out⟩; simp [apTold_nn]; assumption)
    trivial
  · intro X hS
    have HX := qhid hS
    clear hS
    simp [Reg.finalTmps, Reg.dstAt, Reg.valOf, apTold_nn]
    go_wp2_with fail
    go_ret
    exact ⟨rfl, HB.out.trans (HX.out.mono HB.out.size)⟩
theorem ba_list {x y : ByteArray} (e : x.toList = y.toList) : x = y := by
  rw [Lib.toList_data, Lib.toList_data] at e
  exact ByteArray.ext (Array.toList_inj.1 e)
theorem apart_any {s t : W4} (hs : s.fit) (ht : t.fit) (a b : Nat) (ha : a < 256) (hb : b < 256) (w : World) (hT : Tab w) (hP : TabP w) :
    Calls Tryz.prog 6 #[setVal s, setVal t, .int .u8 (a : Int), .int .u8 (b : Int)] w fun e w' => e = .returned (.bool true) ∧ Below w.heap.size w w' := by
  have SA := fun X (hX : Below w.heap.size w X) => set_any s hs X (hT.up hX)
  have SB := fun X (hX : Below w.heap.size w X) => set_any t ht X (hT.up hX)
  have BC := fun X => byte_any a ha X
  have BD := fun X => byte_any b hb X
  have AW := fun X (hX : Below w.heap.size w X) => pr_awake X (hT.up hX) (hP.up hX)
  have hset : ¬ s = t → (s.a == t.a && s.b == t.b && s.c == t.c && s.d == t.d) = false ∧ (((¬ s.a = t.a ∨ ¬ s.b = t.b) ∨ ¬ s.c = t.c) ∨ ¬ s.d = t.d) ∧ ¬ (baN (setN s)).toList = (baN (setN t)).toList := fun h => by
    have hn : ¬ baN (setN s) = baN (setN t) := fun e => h (set_inj hs ht (baN_inj set_bytes set_bytes e))
    have h1 : eqW s t = false := by rw [← Bool.not_eq_true]; exact fun e => h ((eqW_iff s t).1 e)
    exact ⟨h1, ne_words h, fun e => hn (ba_list e)⟩
  have hbyte : ¬ a = b → (¬ (baN (brN a)).toList = (baN (brN b)).toList) ∧ ((a : Int) == (b : Int)) = false := fun h => by
    have hn : ¬ baN (brN a) = baN (brN b) := fun e => h (br_inj ha hb (baN_inj (br_bytes a ha) (br_bytes b hb) e))
    exact ⟨fun e => hn (ba_list e), by simp; omega⟩
  by_cases e1 : s = t
  · subst e1
    by_cases e2 : a = b
    · subst e2; exact apart_ee s _ _ a w SA SB BC BD AW
    · obtain ⟨h1, h2⟩ := hbyte e2
      exact apart_en s _ _ _ a b w SA SB BC BD AW h1 h2 e2
  · obtain ⟨k1, k2, k3⟩ := hset e1
    by_cases e2 : a = b
    · subst e2; exact apart_ne s t _ _ _ a w SA SB BC BD AW k1 k2 k3
    · obtain ⟨h1, h2⟩ := hbyte e2
      exact apart_nn s t _ _ _ _ a b w SA SB BC BD AW k1 k2 k3 h1 h2 e2
end
end Go.Proofs.YtenibhmjcafbiaaGreatDoor
