/- The law BytesBoth, walked. -/
import Derived.Test.YtcpdobldconnaaaBothB
namespace Go.Proofs.Ytcpdobldconnaaa
open Go Go.RowKit
attribute [local go_sem ↓] Go.wp_at_zero Go.wp_at_succ
attribute [local go_sem] eq4
theorem Try.infoBool : (Try.prog.info? 4).map (fun i => (i.zero, i.size, i.bytes)) = some (some (.bool false), 1, 1) := by kernel_rfl
set_option maxRecDepth 100000 in
set_option maxHeartbeats 40000000 in
theorem both_walk (a b c d x y z u k : Int) (w : World) (h0 : 0 ≤ k) (h1 : k ≤ 255) (fa : Fit a) (fb : Fit b) (fc : Fit c) (fd : Fit d) (fx : Fit x) (fy : Fit y) (fz : Fit z) (fu : Fit u) :
    Calls Try.prog 3 #[.agg #[.int .u64 a, .int .u64 b, .int .u64 c, .int .u64 d], .agg #[.int .u64 x, .int .u64 y, .int .u64 z, .int .u64 u], .int .u8 k] w fun e w' => e = .returned (.bool true) ∧ Below w.heap.size w w' := by
  go_enter Try.func3, Try.ntmps3
  go_wp2_with fail
  generalize hW : (w.alloc _).alloc _ = W
  have HW : Held2 w w.heap.size (w.heap.size + 1) a b c d x y z u W := by
    subst hW
    refine ⟨?_, ?_, by simp; omega, by simp, below2 _ _ _⟩
    · simp [go_sem]
    · simp [go_sem]
  clear hW
  generalize w.heap.size + 1 = g1 at *
  generalize hg0 : w.heap.size = g0 at *
  clear hg0
  go_region_held3 (fun w' => Held2 w g0 g1 a b c d x y z u w')
    (first | assumption | exact held2_drew (by assumption) | exact held2_below (by assumption) (by assumption))
    (first
      | (go_at_call 10; (with_reducible refine (bools_any a b c d _ fa fb fc fd).mono ?_); rintro e w1 ⟨gx, rfl, hx0, hx1, hb1⟩)
      | (go_at_call 10; (with_reducible refine (bools_any x y z u _ fx fy fz fu).mono ?_); rintro e w2 ⟨gy, rfl, hy0, hy1, hb2⟩))
  have hx2 := (hb2.block _ (Reg.size_of_get hx1)).trans hx1
  clear hx0 hx1 hy0 hb1 hb2
  have HX := hid hx2
  have HY := hid hy1
  clear hx2 hy1
  go_wp2_with fail
  refine (bools_any _ _ _ _ _ fa fb fc fd).mono ?_
  rintro e w3 ⟨gf, rfl, hf0, hf1, hb3⟩
  have hx3 := (hb3.block _ (Reg.size_of_get HX.out)).trans HX.out
  have hy3 := (hb3.block _ (Reg.size_of_get HY.out)).trans HY.out
  have nx : gx ≠ gf := by have := Reg.size_of_get HX.out; omega
  have ny : gy ≠ gf := by have := Reg.size_of_get HY.out; omega
  have H2 : Held2 w g0 g1 a b c d x y z u w2 := by assumption
  have ng0 : g0 ≠ gf := by have := H2.2.2.1; omega
  have ng1 : g1 ≠ gf := by have := H2.2.2.2.1; omega
  have hwf : w.heap.size ≤ gf := Nat.le_trans H2.2.2.2.2.size hf0
  have H3 : Held2 w g0 g1 a b c d x y z u w3 := held2_below hb3 H2
  clear H2
  have lx := Reg.size_of_get hx3
  have ly := Reg.size_of_get hy3
  have lf := Reg.size_of_get hf1
  clear HX HY hf0 hb3
  obtain ⟨i0, hi, hz0, hz1, hz2⟩ := info_parts Try.infoBool
  go_wp2_with fail
  have lg0 := H3.2.2.1
  have lg1 := H3.2.2.2.1
  have hwB := H3.2.2.2.2.size
  generalize hB : w3.heap.size = B at *
  go_loopw [9, 10, 11, 12, 13, 15] (fun vu vm vd vn wi i wr => ∃ j : Nat, j ≤ 256 ∧ i = .int .i64 j ∧ LRel w g0 g1 gx gy gf B a b c d x y z u (memb a b c d) (memb x y z u) j vu vm vd vn wi wr) (fun _ _ _ _ _ i _ => 256 - (intOf i).toNat)
  case atStart =>
    refine ⟨0, by omega, rfl, H3, hx3, hy3, hf1, by omega, rfl, ?_⟩
    have nl := World.ownsRow_nil w3 B 4 1
    exact ⟨nl, nl, nl, nl, (fun _ h => nomatch h), (fun _ h => nomatch h), (fun _ h => nomatch h), (fun _ h => nomatch h), (fun _ h => nomatch h), (fun _ h => nomatch h)⟩
  case round =>
    obtain ⟨j, hj, rfl, HH, hx, hy, hf, hBr, rfl, hrow⟩ := hrel
    by_cases hlt : j < 256
    · have qx := (Joins.cell_of_block hx j).trans (bl_at _ j hlt)
      have qy := (Joins.cell_of_block hy j).trans (bl_at _ j hlt)
      have HR := hid hrow
      have HX := hid hx
      have HY := hid hy
      have HF := hid hf
      have HHH := hid HH
      clear hrow hx hy hf HH hx3 hy3 hf1 H3
      have sx : gx < wr.heap.size := by omega
      have sy : gy < wr.heap.size := by omega
      cases hX : memb a b c d j <;> cases hY : memb x y z u j <;> cases hW : withk (memb a b c d) (memb x y z u) j
      all_goals
        rw [hX] at qx
        rw [hY] at qy
      · go_wp2_with (first
          | (at_builtin; refine wpList_append_own_at _ rfl (.tmp 26) (.tmp 37) 25 rfl B 4 i0 (.bool false) 1 1 Try.underlying25 hi hz0 hz1 hz2 rfl (by decide) _ _ _ rfl (owns_alloc HR.out.ou _) ⟨_, 0, none⟩ 1 1 _ rfl rfl (cell_one_new _ _ _) (one_bool _) (by unfold maxLen; omega) (by omega) (by simp; omega) ?_; intro v1 w1a ho hg _ hat; have HR1 := hid (HR.out.app_u ho hg hat); have hB1 : Below B wr w1a := (below_app HR.out.ou hg hBr); have qx1 := (hB1.cell (p := ⟨gx, j, none⟩) lx).trans qx; have qy1 := (hB1.cell (p := ⟨gy, j, none⟩) ly).trans qy; have z1 := Nat.le_trans hBr hB1.size; have sx1 := Nat.lt_of_lt_of_le lx z1; have sy1 := Nat.lt_of_lt_of_le ly z1; have HB1 := hid hB1; clear ho hg hat hB1)
          | (at_builtin; refine wpList_append_own_at _ rfl (.tmp 39) (.tmp 50) 25 rfl B 4 i0 (.bool false) 1 1 Try.underlying25 hi hz0 hz1 hz2 rfl (by decide) _ _ _ rfl (owns_alloc HR1.out.om _) ⟨_, 0, none⟩ 1 1 _ rfl rfl (cell_one_new _ _ _) (one_bool _) (by unfold maxLen; omega) (by omega) (by simp; omega) ?_; intro v2 w2a ho hg _ hat; have HR2 := hid (HR1.out.app_m ho hg hat); have hB2 : Below B wr w2a := (HB1.out).trans (below_app HR1.out.om hg z1); have qx2 := (hB2.cell (p := ⟨gx, j, none⟩) lx).trans qx; have qy2 := (hB2.cell (p := ⟨gy, j, none⟩) ly).trans qy; have z2 := Nat.le_trans hBr hB2.size; have sx2 := Nat.lt_of_lt_of_le lx z2; have sy2 := Nat.lt_of_lt_of_le ly z2; have HB2 := hid hB2; clear ho hg hat hB2)
          | (at_builtin; refine wpList_append_own_at _ rfl (.tmp 52) (.tmp 64) 25 rfl B 4 i0 (.bool false) 1 1 Try.underlying25 hi hz0 hz1 hz2 rfl (by decide) _ _ _ rfl (owns_alloc HR2.out.od _) ⟨_, 0, none⟩ 1 1 _ rfl rfl (cell_one_new _ _ _) (one_bool _) (by unfold maxLen; omega) (by omega) (by simp; omega) ?_; intro v3 w3a ho hg _ hat; have HR3 := hid (HR2.out.app_d ho hg hat); have hB3 : Below B wr w3a := (HB2.out).trans (below_app HR2.out.od hg z2); have qx3 := (hB3.cell (p := ⟨gx, j, none⟩) lx).trans qx; have qy3 := (hB3.cell (p := ⟨gy, j, none⟩) ly).trans qy; have z3 := Nat.le_trans hBr hB3.size; have sx3 := Nat.lt_of_lt_of_le lx z3; have sy3 := Nat.lt_of_lt_of_le ly z3; have HB3 := hid hB3; clear ho hg hat hB3)
          | (at_builtin; refine wpList_append_own_at _ rfl (.tmp 66) (.tmp 72) 25 rfl B 4 i0 (.bool false) 1 1 Try.underlying25 hi hz0 hz1 hz2 rfl (by decide) _ _ _ rfl (owns_alloc HR3.out.on _) ⟨_, 0, none⟩ 1 1 _ rfl rfl (cell_one_new _ _ _) (one_bool _) (by unfold maxLen; omega) (by omega) (by simp; omega) ?_; intro v4 w4a ho hg _ hat; have HR4 := hid (HR3.out.app_n ho hg hat); have hB4 : Below B wr w4a := (HB3.out).trans (below_app HR3.out.on hg z3); have qx4 := (hB4.cell (p := ⟨gx, j, none⟩) lx).trans qx; have qy4 := (hB4.cell (p := ⟨gy, j, none⟩) ly).trans qy; have z4 := Nat.le_trans hBr hB4.size; have sx4 := Nat.lt_of_lt_of_le lx z4; have sy4 := Nat.lt_of_lt_of_le ly z4; have HB4 := hid hB4; clear ho hg hat hB4))
        refine ⟨⟨j + 1, by omega, by go_num, held2_under HHH.out HB4.out lg0 lg1 hwB, (HB4.out.block gx lx).trans HX.out, (HB4.out.block gy ly).trans HY.out, ?_, z4, ?_, ?_⟩, by simp [intOf]; omega⟩
        · rw [foldk_same _ _ (.inl hX)]; exact (HB4.out.block gf lf).trans HF.out
        · simp [withk, hX, hW]
        · rw [upto_succ, upto_succ, upto_succ, upto_succ, hX, hY]; exact HR4.out
      · go_wp2_with (first
          | (at_builtin; refine wpList_append_own_at _ rfl (.tmp 26) (.tmp 37) 25 rfl B 4 i0 (.bool false) 1 1 Try.underlying25 hi hz0 hz1 hz2 rfl (by decide) _ _ _ rfl (owns_alloc HR.out.ou _) ⟨_, 0, none⟩ 1 1 _ rfl rfl (cell_one_new _ _ _) (one_bool _) (by unfold maxLen; omega) (by omega) (by simp; omega) ?_; intro v1 w1a ho hg _ hat; have HR1 := hid (HR.out.app_u ho hg hat); have hB1 : Below B wr w1a := (below_app HR.out.ou hg hBr); have qx1 := (hB1.cell (p := ⟨gx, j, none⟩) lx).trans qx; have qy1 := (hB1.cell (p := ⟨gy, j, none⟩) ly).trans qy; have z1 := Nat.le_trans hBr hB1.size; have sx1 := Nat.lt_of_lt_of_le lx z1; have sy1 := Nat.lt_of_lt_of_le ly z1; have HB1 := hid hB1; clear ho hg hat hB1)
          | (at_builtin; refine wpList_append_own_at _ rfl (.tmp 39) (.tmp 50) 25 rfl B 4 i0 (.bool false) 1 1 Try.underlying25 hi hz0 hz1 hz2 rfl (by decide) _ _ _ rfl (owns_alloc HR1.out.om _) ⟨_, 0, none⟩ 1 1 _ rfl rfl (cell_one_new _ _ _) (one_bool _) (by unfold maxLen; omega) (by omega) (by simp; omega) ?_; intro v2 w2a ho hg _ hat; have HR2 := hid (HR1.out.app_m ho hg hat); have hB2 : Below B wr w2a := (HB1.out).trans (below_app HR1.out.om hg z1); have qx2 := (hB2.cell (p := ⟨gx, j, none⟩) lx).trans qx; have qy2 := (hB2.cell (p := ⟨gy, j, none⟩) ly).trans qy; have z2 := Nat.le_trans hBr hB2.size; have sx2 := Nat.lt_of_lt_of_le lx z2; have sy2 := Nat.lt_of_lt_of_le ly z2; have HB2 := hid hB2; clear ho hg hat hB2)
          | (at_builtin; refine wpList_append_own_at _ rfl (.tmp 52) (.tmp 64) 25 rfl B 4 i0 (.bool false) 1 1 Try.underlying25 hi hz0 hz1 hz2 rfl (by decide) _ _ _ rfl (owns_alloc HR2.out.od _) ⟨_, 0, none⟩ 1 1 _ rfl rfl (cell_one_new _ _ _) (one_bool _) (by unfold maxLen; omega) (by omega) (by simp; omega) ?_; intro v3 w3a ho hg _ hat; have HR3 := hid (HR2.out.app_d ho hg hat); have hB3 : Below B wr w3a := (HB2.out).trans (below_app HR2.out.od hg z2); have qx3 := (hB3.cell (p := ⟨gx, j, none⟩) lx).trans qx; have qy3 := (hB3.cell (p := ⟨gy, j, none⟩) ly).trans qy; have z3 := Nat.le_trans hBr hB3.size; have sx3 := Nat.lt_of_lt_of_le lx z3; have sy3 := Nat.lt_of_lt_of_le ly z3; have HB3 := hid hB3; clear ho hg hat hB3)
          | (at_builtin; refine wpList_append_own_at _ rfl (.tmp 66) (.tmp 72) 25 rfl B 4 i0 (.bool false) 1 1 Try.underlying25 hi hz0 hz1 hz2 rfl (by decide) _ _ _ rfl (owns_alloc HR3.out.on _) ⟨_, 0, none⟩ 1 1 _ rfl rfl (cell_one_new _ _ _) (one_bool _) (by unfold maxLen; omega) (by omega) (by simp; omega) ?_; intro v4 w4a ho hg _ hat; have HR4 := hid (HR3.out.app_n ho hg hat); have hB4 : Below B wr w4a := (HB3.out).trans (below_app HR3.out.on hg z3); have qx4 := (hB4.cell (p := ⟨gx, j, none⟩) lx).trans qx; have qy4 := (hB4.cell (p := ⟨gy, j, none⟩) ly).trans qy; have z4 := Nat.le_trans hBr hB4.size; have sx4 := Nat.lt_of_lt_of_le lx z4; have sy4 := Nat.lt_of_lt_of_le ly z4; have HB4 := hid hB4; clear ho hg hat hB4))
        refine ⟨⟨j + 1, by omega, by go_num, held2_under HHH.out HB4.out lg0 lg1 hwB, (HB4.out.block gx lx).trans HX.out, (HB4.out.block gy ly).trans HY.out, ?_, z4, ?_, ?_⟩, by simp [intOf]; omega⟩
        · rw [foldk_same _ _ (.inl hX)]; exact (HB4.out.block gf lf).trans HF.out
        · simp [withk, hX, hW]
        · rw [upto_succ, upto_succ, upto_succ, upto_succ, hX, hY]; exact HR4.out
      · go_wp2_with (first
          | (at_builtin; refine wpList_append_own_at _ rfl (.tmp 26) (.tmp 37) 25 rfl B 4 i0 (.bool false) 1 1 Try.underlying25 hi hz0 hz1 hz2 rfl (by decide) _ _ _ rfl (owns_alloc HR.out.ou _) ⟨_, 0, none⟩ 1 1 _ rfl rfl (cell_one_new _ _ _) (one_bool _) (by unfold maxLen; omega) (by omega) (by simp; omega) ?_; intro v1 w1a ho hg _ hat; have HR1 := hid (HR.out.app_u ho hg hat); have hB1 : Below B wr w1a := (below_app HR.out.ou hg hBr); have qx1 := (hB1.cell (p := ⟨gx, j, none⟩) lx).trans qx; have qy1 := (hB1.cell (p := ⟨gy, j, none⟩) ly).trans qy; have z1 := Nat.le_trans hBr hB1.size; have sx1 := Nat.lt_of_lt_of_le lx z1; have sy1 := Nat.lt_of_lt_of_le ly z1; have HB1 := hid hB1; clear ho hg hat hB1)
          | (at_builtin; refine wpList_append_own_at _ rfl (.tmp 39) (.tmp 50) 25 rfl B 4 i0 (.bool false) 1 1 Try.underlying25 hi hz0 hz1 hz2 rfl (by decide) _ _ _ rfl (owns_alloc HR1.out.om _) ⟨_, 0, none⟩ 1 1 _ rfl rfl (cell_one_new _ _ _) (one_bool _) (by unfold maxLen; omega) (by omega) (by simp; omega) ?_; intro v2 w2a ho hg _ hat; have HR2 := hid (HR1.out.app_m ho hg hat); have hB2 : Below B wr w2a := (HB1.out).trans (below_app HR1.out.om hg z1); have qx2 := (hB2.cell (p := ⟨gx, j, none⟩) lx).trans qx; have qy2 := (hB2.cell (p := ⟨gy, j, none⟩) ly).trans qy; have z2 := Nat.le_trans hBr hB2.size; have sx2 := Nat.lt_of_lt_of_le lx z2; have sy2 := Nat.lt_of_lt_of_le ly z2; have HB2 := hid hB2; clear ho hg hat hB2)
          | (at_builtin; refine wpList_append_own_at _ rfl (.tmp 52) (.tmp 64) 25 rfl B 4 i0 (.bool false) 1 1 Try.underlying25 hi hz0 hz1 hz2 rfl (by decide) _ _ _ rfl (owns_alloc HR2.out.od _) ⟨_, 0, none⟩ 1 1 _ rfl rfl (cell_one_new _ _ _) (one_bool _) (by unfold maxLen; omega) (by omega) (by simp; omega) ?_; intro v3 w3a ho hg _ hat; have HR3 := hid (HR2.out.app_d ho hg hat); have hB3 : Below B wr w3a := (HB2.out).trans (below_app HR2.out.od hg z2); have qx3 := (hB3.cell (p := ⟨gx, j, none⟩) lx).trans qx; have qy3 := (hB3.cell (p := ⟨gy, j, none⟩) ly).trans qy; have z3 := Nat.le_trans hBr hB3.size; have sx3 := Nat.lt_of_lt_of_le lx z3; have sy3 := Nat.lt_of_lt_of_le ly z3; have HB3 := hid hB3; clear ho hg hat hB3)
          | (at_builtin; refine wpList_append_own_at _ rfl (.tmp 66) (.tmp 72) 25 rfl B 4 i0 (.bool false) 1 1 Try.underlying25 hi hz0 hz1 hz2 rfl (by decide) _ _ _ rfl (owns_alloc HR3.out.on _) ⟨_, 0, none⟩ 1 1 _ rfl rfl (cell_one_new _ _ _) (one_bool _) (by unfold maxLen; omega) (by omega) (by simp; omega) ?_; intro v4 w4a ho hg _ hat; have HR4 := hid (HR3.out.app_n ho hg hat); have hB4 : Below B wr w4a := (HB3.out).trans (below_app HR3.out.on hg z3); have qx4 := (hB4.cell (p := ⟨gx, j, none⟩) lx).trans qx; have qy4 := (hB4.cell (p := ⟨gy, j, none⟩) ly).trans qy; have z4 := Nat.le_trans hBr hB4.size; have sx4 := Nat.lt_of_lt_of_le lx z4; have sy4 := Nat.lt_of_lt_of_le ly z4; have HB4 := hid hB4; clear ho hg hat hB4))
        refine ⟨⟨j + 1, by omega, by go_num, held2_under HHH.out HB4.out lg0 lg1 hwB, (HB4.out.block gx lx).trans HX.out, (HB4.out.block gy ly).trans HY.out, ?_, z4, ?_, ?_⟩, by simp [intOf]; omega⟩
        · rw [foldk_same _ _ (.inl hX)]; exact (HB4.out.block gf lf).trans HF.out
        · simp [withk, hX, hW]
        · rw [upto_succ, upto_succ, upto_succ, upto_succ, hX, hY]; exact HR4.out
      · go_wp2_with (first
          | (at_builtin; refine wpList_append_own_at _ rfl (.tmp 26) (.tmp 37) 25 rfl B 4 i0 (.bool false) 1 1 Try.underlying25 hi hz0 hz1 hz2 rfl (by decide) _ _ _ rfl (owns_alloc HR.out.ou _) ⟨_, 0, none⟩ 1 1 _ rfl rfl (cell_one_new _ _ _) (one_bool _) (by unfold maxLen; omega) (by omega) (by simp; omega) ?_; intro v1 w1a ho hg _ hat; have HR1 := hid (HR.out.app_u ho hg hat); have hB1 : Below B wr w1a := (below_app HR.out.ou hg hBr); have qx1 := (hB1.cell (p := ⟨gx, j, none⟩) lx).trans qx; have qy1 := (hB1.cell (p := ⟨gy, j, none⟩) ly).trans qy; have z1 := Nat.le_trans hBr hB1.size; have sx1 := Nat.lt_of_lt_of_le lx z1; have sy1 := Nat.lt_of_lt_of_le ly z1; have HB1 := hid hB1; clear ho hg hat hB1)
          | (at_builtin; refine wpList_append_own_at _ rfl (.tmp 39) (.tmp 50) 25 rfl B 4 i0 (.bool false) 1 1 Try.underlying25 hi hz0 hz1 hz2 rfl (by decide) _ _ _ rfl (owns_alloc HR1.out.om _) ⟨_, 0, none⟩ 1 1 _ rfl rfl (cell_one_new _ _ _) (one_bool _) (by unfold maxLen; omega) (by omega) (by simp; omega) ?_; intro v2 w2a ho hg _ hat; have HR2 := hid (HR1.out.app_m ho hg hat); have hB2 : Below B wr w2a := (HB1.out).trans (below_app HR1.out.om hg z1); have qx2 := (hB2.cell (p := ⟨gx, j, none⟩) lx).trans qx; have qy2 := (hB2.cell (p := ⟨gy, j, none⟩) ly).trans qy; have z2 := Nat.le_trans hBr hB2.size; have sx2 := Nat.lt_of_lt_of_le lx z2; have sy2 := Nat.lt_of_lt_of_le ly z2; have HB2 := hid hB2; clear ho hg hat hB2)
          | (at_builtin; refine wpList_append_own_at _ rfl (.tmp 52) (.tmp 64) 25 rfl B 4 i0 (.bool false) 1 1 Try.underlying25 hi hz0 hz1 hz2 rfl (by decide) _ _ _ rfl (owns_alloc HR2.out.od _) ⟨_, 0, none⟩ 1 1 _ rfl rfl (cell_one_new _ _ _) (one_bool _) (by unfold maxLen; omega) (by omega) (by simp; omega) ?_; intro v3 w3a ho hg _ hat; have HR3 := hid (HR2.out.app_d ho hg hat); have hB3 : Below B wr w3a := (HB2.out).trans (below_app HR2.out.od hg z2); have qx3 := (hB3.cell (p := ⟨gx, j, none⟩) lx).trans qx; have qy3 := (hB3.cell (p := ⟨gy, j, none⟩) ly).trans qy; have z3 := Nat.le_trans hBr hB3.size; have sx3 := Nat.lt_of_lt_of_le lx z3; have sy3 := Nat.lt_of_lt_of_le ly z3; have HB3 := hid hB3; clear ho hg hat hB3)
          | (at_builtin; refine wpList_append_own_at _ rfl (.tmp 66) (.tmp 72) 25 rfl B 4 i0 (.bool false) 1 1 Try.underlying25 hi hz0 hz1 hz2 rfl (by decide) _ _ _ rfl (owns_alloc HR3.out.on _) ⟨_, 0, none⟩ 1 1 _ rfl rfl (cell_one_new _ _ _) (one_bool _) (by unfold maxLen; omega) (by omega) (by simp; omega) ?_; intro v4 w4a ho hg _ hat; have HR4 := hid (HR3.out.app_n ho hg hat); have hB4 : Below B wr w4a := (HB3.out).trans (below_app HR3.out.on hg z3); have qx4 := (hB4.cell (p := ⟨gx, j, none⟩) lx).trans qx; have qy4 := (hB4.cell (p := ⟨gy, j, none⟩) ly).trans qy; have z4 := Nat.le_trans hBr hB4.size; have sx4 := Nat.lt_of_lt_of_le lx z4; have sy4 := Nat.lt_of_lt_of_le ly z4; have HB4 := hid hB4; clear ho hg hat hB4))
        refine ⟨⟨j + 1, by omega, by go_num, held2_under HHH.out HB4.out lg0 lg1 hwB, (HB4.out.block gx lx).trans HX.out, (HB4.out.block gy ly).trans HY.out, ?_, z4, ?_, ?_⟩, by simp [intOf]; omega⟩
        · rw [foldk_same _ _ (.inl hX)]; exact (HB4.out.block gf lf).trans HF.out
        · simp [withk, hX, hW]
        · rw [upto_succ, upto_succ, upto_succ, upto_succ, hX, hY]; exact HR4.out
      · by_cases hl : 97 ≤ j ∧ j ≤ 122
        · obtain ⟨l1, l2⟩ := hl
          have eo : ((j : Int) - 32).toNat = j - 32 := by omega
          go_wp2_with (first
          | (at_builtin; refine wpList_append_own_at _ rfl (.tmp 26) (.tmp 37) 25 rfl B 4 i0 (.bool false) 1 1 Try.underlying25 hi hz0 hz1 hz2 rfl (by decide) _ _ _ rfl (owns_alloc HR.out.ou _) ⟨_, 0, none⟩ 1 1 _ rfl rfl (cell_one_new _ _ _) (one_bool _) (by unfold maxLen; omega) (by omega) (by simp; omega) ?_; intro v1 w1a ho hg _ hat; have HR1 := hid (HR.out.app_u ho hg hat); have hB1 : Below B wr w1a := (below_app HR.out.ou hg hBr); have qx1 := (hB1.cell (p := ⟨gx, j, none⟩) lx).trans qx; have qy1 := (hB1.cell (p := ⟨gy, j, none⟩) ly).trans qy; have z1 := Nat.le_trans hBr hB1.size; have sx1 := Nat.lt_of_lt_of_le lx z1; have sy1 := Nat.lt_of_lt_of_le ly z1; have HB1 := hid hB1; clear ho hg hat hB1)
          | (at_builtin; refine wpList_append_own_at _ rfl (.tmp 39) (.tmp 50) 25 rfl B 4 i0 (.bool false) 1 1 Try.underlying25 hi hz0 hz1 hz2 rfl (by decide) _ _ _ rfl (owns_alloc HR1.out.om _) ⟨_, 0, none⟩ 1 1 _ rfl rfl (cell_one_new _ _ _) (one_bool _) (by unfold maxLen; omega) (by omega) (by simp; omega) ?_; intro v2 w2a ho hg _ hat; have HR2 := hid (HR1.out.app_m ho hg hat); have hB2 : Below B wr w2a := (HB1.out).trans (below_app HR1.out.om hg z1); have qx2 := (hB2.cell (p := ⟨gx, j, none⟩) lx).trans qx; have qy2 := (hB2.cell (p := ⟨gy, j, none⟩) ly).trans qy; have z2 := Nat.le_trans hBr hB2.size; have sx2 := Nat.lt_of_lt_of_le lx z2; have sy2 := Nat.lt_of_lt_of_le ly z2; have HB2 := hid hB2; clear ho hg hat hB2)
          | (at_builtin; refine wpList_append_own_at _ rfl (.tmp 52) (.tmp 64) 25 rfl B 4 i0 (.bool false) 1 1 Try.underlying25 hi hz0 hz1 hz2 rfl (by decide) _ _ _ rfl (owns_alloc HR2.out.od _) ⟨_, 0, none⟩ 1 1 _ rfl rfl (cell_one_new _ _ _) (one_bool _) (by unfold maxLen; omega) (by omega) (by simp; omega) ?_; intro v3 w3a ho hg _ hat; have HR3 := hid (HR2.out.app_d ho hg hat); have hB3 : Below B wr w3a := (HB2.out).trans (below_app HR2.out.od hg z2); have qx3 := (hB3.cell (p := ⟨gx, j, none⟩) lx).trans qx; have qy3 := (hB3.cell (p := ⟨gy, j, none⟩) ly).trans qy; have z3 := Nat.le_trans hBr hB3.size; have sx3 := Nat.lt_of_lt_of_le lx z3; have sy3 := Nat.lt_of_lt_of_le ly z3; have HB3 := hid hB3; clear ho hg hat hB3)
          | (at_builtin; refine wpList_append_own_at _ rfl (.tmp 66) (.tmp 72) 25 rfl B 4 i0 (.bool false) 1 1 Try.underlying25 hi hz0 hz1 hz2 rfl (by decide) _ _ _ rfl (owns_alloc HR3.out.on _) ⟨_, 0, none⟩ 1 1 _ rfl rfl (cell_one_new _ _ _) (one_bool _) (by unfold maxLen; omega) (by omega) (by simp; omega) ?_; intro v4 w4a ho hg _ hat; have HR4 := hid (HR3.out.app_n ho hg hat); have hB4 : Below B wr w4a := (HB3.out).trans (below_app HR3.out.on hg z3); have qx4 := (hB4.cell (p := ⟨gx, j, none⟩) lx).trans qx; have qy4 := (hB4.cell (p := ⟨gy, j, none⟩) ly).trans qy; have z4 := Nat.le_trans hBr hB4.size; have sx4 := Nat.lt_of_lt_of_le lx z4; have sy4 := Nat.lt_of_lt_of_le ly z4; have hf4 := (hB4.block gf lf).trans HF.out; have qf := (Joins.cell_of_block hf4 (j - 32)).trans (bl_at _ (j - 32) (by omega)); have ff := Joins.unfrozen_of_block hf4 (j - 32); clear hf4; have HB4 := hid hB4; clear ho hg hat hB4))
          refine ⟨⟨j + 1, by omega, by go_num, held2_set (held2_under HHH.out HB4.out lg0 lg1 hwB) ng0 ng1 hwf _, (Below.heap_setCell _ _ _ _ nx).trans ((HB4.out.block gx lx).trans HX.out), (Below.heap_setCell _ _ _ _ ny).trans ((HB4.out.block gy ly).trans HY.out), ?_, ?_, ?_, ?_⟩, by simp [intOf]; omega⟩
          · rw [← foldk_small _ _ hX ⟨l1, l2⟩]; exact Joins.block_setCell ((HB4.out.block gf lf).trans HF.out) _
          · simp only [World.setCell, Array.size_modify]; exact z4
          · simp [withk, hX, hY, hW]
          · rw [upto_succ, upto_succ, upto_succ, upto_succ, hX, hY]; exact HR4.out.set lf _
        · by_cases hu : 65 ≤ j ∧ j ≤ 90
          · obtain ⟨l1, l2⟩ := hu
            have eo : ((j : Int) + 32).toNat = j + 32 := by omega
            have hl' : j < 97 := by omega
            clear hl
            go_wp2_with (first
          | (at_builtin; refine wpList_append_own_at _ rfl (.tmp 26) (.tmp 37) 25 rfl B 4 i0 (.bool false) 1 1 Try.underlying25 hi hz0 hz1 hz2 rfl (by decide) _ _ _ rfl (owns_alloc HR.out.ou _) ⟨_, 0, none⟩ 1 1 _ rfl rfl (cell_one_new _ _ _) (one_bool _) (by unfold maxLen; omega) (by omega) (by simp; omega) ?_; intro v1 w1a ho hg _ hat; have HR1 := hid (HR.out.app_u ho hg hat); have hB1 : Below B wr w1a := (below_app HR.out.ou hg hBr); have qx1 := (hB1.cell (p := ⟨gx, j, none⟩) lx).trans qx; have qy1 := (hB1.cell (p := ⟨gy, j, none⟩) ly).trans qy; have z1 := Nat.le_trans hBr hB1.size; have sx1 := Nat.lt_of_lt_of_le lx z1; have sy1 := Nat.lt_of_lt_of_le ly z1; have HB1 := hid hB1; clear ho hg hat hB1)
          | (at_builtin; refine wpList_append_own_at _ rfl (.tmp 39) (.tmp 50) 25 rfl B 4 i0 (.bool false) 1 1 Try.underlying25 hi hz0 hz1 hz2 rfl (by decide) _ _ _ rfl (owns_alloc HR1.out.om _) ⟨_, 0, none⟩ 1 1 _ rfl rfl (cell_one_new _ _ _) (one_bool _) (by unfold maxLen; omega) (by omega) (by simp; omega) ?_; intro v2 w2a ho hg _ hat; have HR2 := hid (HR1.out.app_m ho hg hat); have hB2 : Below B wr w2a := (HB1.out).trans (below_app HR1.out.om hg z1); have qx2 := (hB2.cell (p := ⟨gx, j, none⟩) lx).trans qx; have qy2 := (hB2.cell (p := ⟨gy, j, none⟩) ly).trans qy; have z2 := Nat.le_trans hBr hB2.size; have sx2 := Nat.lt_of_lt_of_le lx z2; have sy2 := Nat.lt_of_lt_of_le ly z2; have HB2 := hid hB2; clear ho hg hat hB2)
          | (at_builtin; refine wpList_append_own_at _ rfl (.tmp 52) (.tmp 64) 25 rfl B 4 i0 (.bool false) 1 1 Try.underlying25 hi hz0 hz1 hz2 rfl (by decide) _ _ _ rfl (owns_alloc HR2.out.od _) ⟨_, 0, none⟩ 1 1 _ rfl rfl (cell_one_new _ _ _) (one_bool _) (by unfold maxLen; omega) (by omega) (by simp; omega) ?_; intro v3 w3a ho hg _ hat; have HR3 := hid (HR2.out.app_d ho hg hat); have hB3 : Below B wr w3a := (HB2.out).trans (below_app HR2.out.od hg z2); have qx3 := (hB3.cell (p := ⟨gx, j, none⟩) lx).trans qx; have qy3 := (hB3.cell (p := ⟨gy, j, none⟩) ly).trans qy; have z3 := Nat.le_trans hBr hB3.size; have sx3 := Nat.lt_of_lt_of_le lx z3; have sy3 := Nat.lt_of_lt_of_le ly z3; have HB3 := hid hB3; clear ho hg hat hB3)
          | (at_builtin; refine wpList_append_own_at _ rfl (.tmp 66) (.tmp 72) 25 rfl B 4 i0 (.bool false) 1 1 Try.underlying25 hi hz0 hz1 hz2 rfl (by decide) _ _ _ rfl (owns_alloc HR3.out.on _) ⟨_, 0, none⟩ 1 1 _ rfl rfl (cell_one_new _ _ _) (one_bool _) (by unfold maxLen; omega) (by omega) (by simp; omega) ?_; intro v4 w4a ho hg _ hat; have HR4 := hid (HR3.out.app_n ho hg hat); have hB4 : Below B wr w4a := (HB3.out).trans (below_app HR3.out.on hg z3); have qx4 := (hB4.cell (p := ⟨gx, j, none⟩) lx).trans qx; have qy4 := (hB4.cell (p := ⟨gy, j, none⟩) ly).trans qy; have z4 := Nat.le_trans hBr hB4.size; have sx4 := Nat.lt_of_lt_of_le lx z4; have sy4 := Nat.lt_of_lt_of_le ly z4; have hf4 := (hB4.block gf lf).trans HF.out; have qf := (Joins.cell_of_block hf4 (j + 32)).trans (bl_at _ (j + 32) (by omega)); have ff := Joins.unfrozen_of_block hf4 (j + 32); clear hf4; have HB4 := hid hB4; clear ho hg hat hB4))
            refine ⟨⟨j + 1, by omega, by go_num, held2_set (held2_under HHH.out HB4.out lg0 lg1 hwB) ng0 ng1 hwf _, (Below.heap_setCell _ _ _ _ nx).trans ((HB4.out.block gx lx).trans HX.out), (Below.heap_setCell _ _ _ _ ny).trans ((HB4.out.block gy ly).trans HY.out), ?_, ?_, ?_, ?_⟩, by simp [intOf]; omega⟩
            · rw [← foldk_large _ _ hX ⟨l1, l2⟩]; exact Joins.block_setCell ((HB4.out.block gf lf).trans HF.out) _
            · simp only [World.setCell, Array.size_modify]; exact z4
            · simp [withk, hX, hY, hW]
            · rw [upto_succ, upto_succ, upto_succ, upto_succ, hX, hY]; exact HR4.out.set lf _
          · have HN := hid (And.intro hl hu)
            have hn : j < 65 ∨ 90 < j ∧ j < 97 ∨ 122 < j := by omega
            clear hl hu
            rcases hn with hn | ⟨hn, hn2⟩ | hn
            all_goals
              go_wp2_with (first
          | (at_builtin; refine wpList_append_own_at _ rfl (.tmp 26) (.tmp 37) 25 rfl B 4 i0 (.bool false) 1 1 Try.underlying25 hi hz0 hz1 hz2 rfl (by decide) _ _ _ rfl (owns_alloc HR.out.ou _) ⟨_, 0, none⟩ 1 1 _ rfl rfl (cell_one_new _ _ _) (one_bool _) (by unfold maxLen; omega) (by omega) (by simp; omega) ?_; intro v1 w1a ho hg _ hat; have HR1 := hid (HR.out.app_u ho hg hat); have hB1 : Below B wr w1a := (below_app HR.out.ou hg hBr); have qx1 := (hB1.cell (p := ⟨gx, j, none⟩) lx).trans qx; have qy1 := (hB1.cell (p := ⟨gy, j, none⟩) ly).trans qy; have z1 := Nat.le_trans hBr hB1.size; have sx1 := Nat.lt_of_lt_of_le lx z1; have sy1 := Nat.lt_of_lt_of_le ly z1; have HB1 := hid hB1; clear ho hg hat hB1)
          | (at_builtin; refine wpList_append_own_at _ rfl (.tmp 39) (.tmp 50) 25 rfl B 4 i0 (.bool false) 1 1 Try.underlying25 hi hz0 hz1 hz2 rfl (by decide) _ _ _ rfl (owns_alloc HR1.out.om _) ⟨_, 0, none⟩ 1 1 _ rfl rfl (cell_one_new _ _ _) (one_bool _) (by unfold maxLen; omega) (by omega) (by simp; omega) ?_; intro v2 w2a ho hg _ hat; have HR2 := hid (HR1.out.app_m ho hg hat); have hB2 : Below B wr w2a := (HB1.out).trans (below_app HR1.out.om hg z1); have qx2 := (hB2.cell (p := ⟨gx, j, none⟩) lx).trans qx; have qy2 := (hB2.cell (p := ⟨gy, j, none⟩) ly).trans qy; have z2 := Nat.le_trans hBr hB2.size; have sx2 := Nat.lt_of_lt_of_le lx z2; have sy2 := Nat.lt_of_lt_of_le ly z2; have HB2 := hid hB2; clear ho hg hat hB2)
          | (at_builtin; refine wpList_append_own_at _ rfl (.tmp 52) (.tmp 64) 25 rfl B 4 i0 (.bool false) 1 1 Try.underlying25 hi hz0 hz1 hz2 rfl (by decide) _ _ _ rfl (owns_alloc HR2.out.od _) ⟨_, 0, none⟩ 1 1 _ rfl rfl (cell_one_new _ _ _) (one_bool _) (by unfold maxLen; omega) (by omega) (by simp; omega) ?_; intro v3 w3a ho hg _ hat; have HR3 := hid (HR2.out.app_d ho hg hat); have hB3 : Below B wr w3a := (HB2.out).trans (below_app HR2.out.od hg z2); have qx3 := (hB3.cell (p := ⟨gx, j, none⟩) lx).trans qx; have qy3 := (hB3.cell (p := ⟨gy, j, none⟩) ly).trans qy; have z3 := Nat.le_trans hBr hB3.size; have sx3 := Nat.lt_of_lt_of_le lx z3; have sy3 := Nat.lt_of_lt_of_le ly z3; have HB3 := hid hB3; clear ho hg hat hB3)
          | (at_builtin; refine wpList_append_own_at _ rfl (.tmp 66) (.tmp 72) 25 rfl B 4 i0 (.bool false) 1 1 Try.underlying25 hi hz0 hz1 hz2 rfl (by decide) _ _ _ rfl (owns_alloc HR3.out.on _) ⟨_, 0, none⟩ 1 1 _ rfl rfl (cell_one_new _ _ _) (one_bool _) (by unfold maxLen; omega) (by omega) (by simp; omega) ?_; intro v4 w4a ho hg _ hat; have HR4 := hid (HR3.out.app_n ho hg hat); have hB4 : Below B wr w4a := (HB3.out).trans (below_app HR3.out.on hg z3); have qx4 := (hB4.cell (p := ⟨gx, j, none⟩) lx).trans qx; have qy4 := (hB4.cell (p := ⟨gy, j, none⟩) ly).trans qy; have z4 := Nat.le_trans hBr hB4.size; have sx4 := Nat.lt_of_lt_of_le lx z4; have sy4 := Nat.lt_of_lt_of_le ly z4; have HB4 := hid hB4; clear ho hg hat hB4))
              refine ⟨⟨j + 1, by omega, by go_num, held2_under HHH.out HB4.out lg0 lg1 hwB, (HB4.out.block gx lx).trans HX.out, (HB4.out.block gy ly).trans HY.out, ?_, z4, ?_, ?_⟩, by simp [intOf]; omega⟩
              · rw [foldk_same _ _ (.inr HN.out)]; exact (HB4.out.block gf lf).trans HF.out
              · simp [withk, hX, hY, hW]
              · rw [upto_succ, upto_succ, upto_succ, upto_succ, hX, hY]; exact HR4.out
      · by_cases hl : 97 ≤ j ∧ j ≤ 122
        · obtain ⟨l1, l2⟩ := hl
          have eo : ((j : Int) - 32).toNat = j - 32 := by omega
          go_wp2_with (first
          | (at_builtin; refine wpList_append_own_at _ rfl (.tmp 26) (.tmp 37) 25 rfl B 4 i0 (.bool false) 1 1 Try.underlying25 hi hz0 hz1 hz2 rfl (by decide) _ _ _ rfl (owns_alloc HR.out.ou _) ⟨_, 0, none⟩ 1 1 _ rfl rfl (cell_one_new _ _ _) (one_bool _) (by unfold maxLen; omega) (by omega) (by simp; omega) ?_; intro v1 w1a ho hg _ hat; have HR1 := hid (HR.out.app_u ho hg hat); have hB1 : Below B wr w1a := (below_app HR.out.ou hg hBr); have qx1 := (hB1.cell (p := ⟨gx, j, none⟩) lx).trans qx; have qy1 := (hB1.cell (p := ⟨gy, j, none⟩) ly).trans qy; have z1 := Nat.le_trans hBr hB1.size; have sx1 := Nat.lt_of_lt_of_le lx z1; have sy1 := Nat.lt_of_lt_of_le ly z1; have HB1 := hid hB1; clear ho hg hat hB1)
          | (at_builtin; refine wpList_append_own_at _ rfl (.tmp 39) (.tmp 50) 25 rfl B 4 i0 (.bool false) 1 1 Try.underlying25 hi hz0 hz1 hz2 rfl (by decide) _ _ _ rfl (owns_alloc HR1.out.om _) ⟨_, 0, none⟩ 1 1 _ rfl rfl (cell_one_new _ _ _) (one_bool _) (by unfold maxLen; omega) (by omega) (by simp; omega) ?_; intro v2 w2a ho hg _ hat; have HR2 := hid (HR1.out.app_m ho hg hat); have hB2 : Below B wr w2a := (HB1.out).trans (below_app HR1.out.om hg z1); have qx2 := (hB2.cell (p := ⟨gx, j, none⟩) lx).trans qx; have qy2 := (hB2.cell (p := ⟨gy, j, none⟩) ly).trans qy; have z2 := Nat.le_trans hBr hB2.size; have sx2 := Nat.lt_of_lt_of_le lx z2; have sy2 := Nat.lt_of_lt_of_le ly z2; have HB2 := hid hB2; clear ho hg hat hB2)
          | (at_builtin; refine wpList_append_own_at _ rfl (.tmp 52) (.tmp 64) 25 rfl B 4 i0 (.bool false) 1 1 Try.underlying25 hi hz0 hz1 hz2 rfl (by decide) _ _ _ rfl (owns_alloc HR2.out.od _) ⟨_, 0, none⟩ 1 1 _ rfl rfl (cell_one_new _ _ _) (one_bool _) (by unfold maxLen; omega) (by omega) (by simp; omega) ?_; intro v3 w3a ho hg _ hat; have HR3 := hid (HR2.out.app_d ho hg hat); have hB3 : Below B wr w3a := (HB2.out).trans (below_app HR2.out.od hg z2); have qx3 := (hB3.cell (p := ⟨gx, j, none⟩) lx).trans qx; have qy3 := (hB3.cell (p := ⟨gy, j, none⟩) ly).trans qy; have z3 := Nat.le_trans hBr hB3.size; have sx3 := Nat.lt_of_lt_of_le lx z3; have sy3 := Nat.lt_of_lt_of_le ly z3; have HB3 := hid hB3; clear ho hg hat hB3)
          | (at_builtin; refine wpList_append_own_at _ rfl (.tmp 66) (.tmp 72) 25 rfl B 4 i0 (.bool false) 1 1 Try.underlying25 hi hz0 hz1 hz2 rfl (by decide) _ _ _ rfl (owns_alloc HR3.out.on _) ⟨_, 0, none⟩ 1 1 _ rfl rfl (cell_one_new _ _ _) (one_bool _) (by unfold maxLen; omega) (by omega) (by simp; omega) ?_; intro v4 w4a ho hg _ hat; have HR4 := hid (HR3.out.app_n ho hg hat); have hB4 : Below B wr w4a := (HB3.out).trans (below_app HR3.out.on hg z3); have qx4 := (hB4.cell (p := ⟨gx, j, none⟩) lx).trans qx; have qy4 := (hB4.cell (p := ⟨gy, j, none⟩) ly).trans qy; have z4 := Nat.le_trans hBr hB4.size; have sx4 := Nat.lt_of_lt_of_le lx z4; have sy4 := Nat.lt_of_lt_of_le ly z4; have hf4 := (hB4.block gf lf).trans HF.out; have qf := (Joins.cell_of_block hf4 (j - 32)).trans (bl_at _ (j - 32) (by omega)); have ff := Joins.unfrozen_of_block hf4 (j - 32); clear hf4; have HB4 := hid hB4; clear ho hg hat hB4))
          refine ⟨⟨j + 1, by omega, by go_num, held2_set (held2_under HHH.out HB4.out lg0 lg1 hwB) ng0 ng1 hwf _, (Below.heap_setCell _ _ _ _ nx).trans ((HB4.out.block gx lx).trans HX.out), (Below.heap_setCell _ _ _ _ ny).trans ((HB4.out.block gy ly).trans HY.out), ?_, ?_, ?_, ?_⟩, by simp [intOf]; omega⟩
          · rw [← foldk_small _ _ hX ⟨l1, l2⟩]; exact Joins.block_setCell ((HB4.out.block gf lf).trans HF.out) _
          · simp only [World.setCell, Array.size_modify]; exact z4
          · simp [withk, hX, hY, hW]
          · rw [upto_succ, upto_succ, upto_succ, upto_succ, hX, hY]; exact HR4.out.set lf _
        · by_cases hu : 65 ≤ j ∧ j ≤ 90
          · obtain ⟨l1, l2⟩ := hu
            have eo : ((j : Int) + 32).toNat = j + 32 := by omega
            have hl' : j < 97 := by omega
            clear hl
            go_wp2_with (first
          | (at_builtin; refine wpList_append_own_at _ rfl (.tmp 26) (.tmp 37) 25 rfl B 4 i0 (.bool false) 1 1 Try.underlying25 hi hz0 hz1 hz2 rfl (by decide) _ _ _ rfl (owns_alloc HR.out.ou _) ⟨_, 0, none⟩ 1 1 _ rfl rfl (cell_one_new _ _ _) (one_bool _) (by unfold maxLen; omega) (by omega) (by simp; omega) ?_; intro v1 w1a ho hg _ hat; have HR1 := hid (HR.out.app_u ho hg hat); have hB1 : Below B wr w1a := (below_app HR.out.ou hg hBr); have qx1 := (hB1.cell (p := ⟨gx, j, none⟩) lx).trans qx; have qy1 := (hB1.cell (p := ⟨gy, j, none⟩) ly).trans qy; have z1 := Nat.le_trans hBr hB1.size; have sx1 := Nat.lt_of_lt_of_le lx z1; have sy1 := Nat.lt_of_lt_of_le ly z1; have HB1 := hid hB1; clear ho hg hat hB1)
          | (at_builtin; refine wpList_append_own_at _ rfl (.tmp 39) (.tmp 50) 25 rfl B 4 i0 (.bool false) 1 1 Try.underlying25 hi hz0 hz1 hz2 rfl (by decide) _ _ _ rfl (owns_alloc HR1.out.om _) ⟨_, 0, none⟩ 1 1 _ rfl rfl (cell_one_new _ _ _) (one_bool _) (by unfold maxLen; omega) (by omega) (by simp; omega) ?_; intro v2 w2a ho hg _ hat; have HR2 := hid (HR1.out.app_m ho hg hat); have hB2 : Below B wr w2a := (HB1.out).trans (below_app HR1.out.om hg z1); have qx2 := (hB2.cell (p := ⟨gx, j, none⟩) lx).trans qx; have qy2 := (hB2.cell (p := ⟨gy, j, none⟩) ly).trans qy; have z2 := Nat.le_trans hBr hB2.size; have sx2 := Nat.lt_of_lt_of_le lx z2; have sy2 := Nat.lt_of_lt_of_le ly z2; have HB2 := hid hB2; clear ho hg hat hB2)
          | (at_builtin; refine wpList_append_own_at _ rfl (.tmp 52) (.tmp 64) 25 rfl B 4 i0 (.bool false) 1 1 Try.underlying25 hi hz0 hz1 hz2 rfl (by decide) _ _ _ rfl (owns_alloc HR2.out.od _) ⟨_, 0, none⟩ 1 1 _ rfl rfl (cell_one_new _ _ _) (one_bool _) (by unfold maxLen; omega) (by omega) (by simp; omega) ?_; intro v3 w3a ho hg _ hat; have HR3 := hid (HR2.out.app_d ho hg hat); have hB3 : Below B wr w3a := (HB2.out).trans (below_app HR2.out.od hg z2); have qx3 := (hB3.cell (p := ⟨gx, j, none⟩) lx).trans qx; have qy3 := (hB3.cell (p := ⟨gy, j, none⟩) ly).trans qy; have z3 := Nat.le_trans hBr hB3.size; have sx3 := Nat.lt_of_lt_of_le lx z3; have sy3 := Nat.lt_of_lt_of_le ly z3; have HB3 := hid hB3; clear ho hg hat hB3)
          | (at_builtin; refine wpList_append_own_at _ rfl (.tmp 66) (.tmp 72) 25 rfl B 4 i0 (.bool false) 1 1 Try.underlying25 hi hz0 hz1 hz2 rfl (by decide) _ _ _ rfl (owns_alloc HR3.out.on _) ⟨_, 0, none⟩ 1 1 _ rfl rfl (cell_one_new _ _ _) (one_bool _) (by unfold maxLen; omega) (by omega) (by simp; omega) ?_; intro v4 w4a ho hg _ hat; have HR4 := hid (HR3.out.app_n ho hg hat); have hB4 : Below B wr w4a := (HB3.out).trans (below_app HR3.out.on hg z3); have qx4 := (hB4.cell (p := ⟨gx, j, none⟩) lx).trans qx; have qy4 := (hB4.cell (p := ⟨gy, j, none⟩) ly).trans qy; have z4 := Nat.le_trans hBr hB4.size; have sx4 := Nat.lt_of_lt_of_le lx z4; have sy4 := Nat.lt_of_lt_of_le ly z4; have hf4 := (hB4.block gf lf).trans HF.out; have qf := (Joins.cell_of_block hf4 (j + 32)).trans (bl_at _ (j + 32) (by omega)); have ff := Joins.unfrozen_of_block hf4 (j + 32); clear hf4; have HB4 := hid hB4; clear ho hg hat hB4))
            refine ⟨⟨j + 1, by omega, by go_num, held2_set (held2_under HHH.out HB4.out lg0 lg1 hwB) ng0 ng1 hwf _, (Below.heap_setCell _ _ _ _ nx).trans ((HB4.out.block gx lx).trans HX.out), (Below.heap_setCell _ _ _ _ ny).trans ((HB4.out.block gy ly).trans HY.out), ?_, ?_, ?_, ?_⟩, by simp [intOf]; omega⟩
            · rw [← foldk_large _ _ hX ⟨l1, l2⟩]; exact Joins.block_setCell ((HB4.out.block gf lf).trans HF.out) _
            · simp only [World.setCell, Array.size_modify]; exact z4
            · simp [withk, hX, hY, hW]
            · rw [upto_succ, upto_succ, upto_succ, upto_succ, hX, hY]; exact HR4.out.set lf _
          · have HN := hid (And.intro hl hu)
            have hn : j < 65 ∨ 90 < j ∧ j < 97 ∨ 122 < j := by omega
            clear hl hu
            rcases hn with hn | ⟨hn, hn2⟩ | hn
            all_goals
              go_wp2_with (first
          | (at_builtin; refine wpList_append_own_at _ rfl (.tmp 26) (.tmp 37) 25 rfl B 4 i0 (.bool false) 1 1 Try.underlying25 hi hz0 hz1 hz2 rfl (by decide) _ _ _ rfl (owns_alloc HR.out.ou _) ⟨_, 0, none⟩ 1 1 _ rfl rfl (cell_one_new _ _ _) (one_bool _) (by unfold maxLen; omega) (by omega) (by simp; omega) ?_; intro v1 w1a ho hg _ hat; have HR1 := hid (HR.out.app_u ho hg hat); have hB1 : Below B wr w1a := (below_app HR.out.ou hg hBr); have qx1 := (hB1.cell (p := ⟨gx, j, none⟩) lx).trans qx; have qy1 := (hB1.cell (p := ⟨gy, j, none⟩) ly).trans qy; have z1 := Nat.le_trans hBr hB1.size; have sx1 := Nat.lt_of_lt_of_le lx z1; have sy1 := Nat.lt_of_lt_of_le ly z1; have HB1 := hid hB1; clear ho hg hat hB1)
          | (at_builtin; refine wpList_append_own_at _ rfl (.tmp 39) (.tmp 50) 25 rfl B 4 i0 (.bool false) 1 1 Try.underlying25 hi hz0 hz1 hz2 rfl (by decide) _ _ _ rfl (owns_alloc HR1.out.om _) ⟨_, 0, none⟩ 1 1 _ rfl rfl (cell_one_new _ _ _) (one_bool _) (by unfold maxLen; omega) (by omega) (by simp; omega) ?_; intro v2 w2a ho hg _ hat; have HR2 := hid (HR1.out.app_m ho hg hat); have hB2 : Below B wr w2a := (HB1.out).trans (below_app HR1.out.om hg z1); have qx2 := (hB2.cell (p := ⟨gx, j, none⟩) lx).trans qx; have qy2 := (hB2.cell (p := ⟨gy, j, none⟩) ly).trans qy; have z2 := Nat.le_trans hBr hB2.size; have sx2 := Nat.lt_of_lt_of_le lx z2; have sy2 := Nat.lt_of_lt_of_le ly z2; have HB2 := hid hB2; clear ho hg hat hB2)
          | (at_builtin; refine wpList_append_own_at _ rfl (.tmp 52) (.tmp 64) 25 rfl B 4 i0 (.bool false) 1 1 Try.underlying25 hi hz0 hz1 hz2 rfl (by decide) _ _ _ rfl (owns_alloc HR2.out.od _) ⟨_, 0, none⟩ 1 1 _ rfl rfl (cell_one_new _ _ _) (one_bool _) (by unfold maxLen; omega) (by omega) (by simp; omega) ?_; intro v3 w3a ho hg _ hat; have HR3 := hid (HR2.out.app_d ho hg hat); have hB3 : Below B wr w3a := (HB2.out).trans (below_app HR2.out.od hg z2); have qx3 := (hB3.cell (p := ⟨gx, j, none⟩) lx).trans qx; have qy3 := (hB3.cell (p := ⟨gy, j, none⟩) ly).trans qy; have z3 := Nat.le_trans hBr hB3.size; have sx3 := Nat.lt_of_lt_of_le lx z3; have sy3 := Nat.lt_of_lt_of_le ly z3; have HB3 := hid hB3; clear ho hg hat hB3)
          | (at_builtin; refine wpList_append_own_at _ rfl (.tmp 66) (.tmp 72) 25 rfl B 4 i0 (.bool false) 1 1 Try.underlying25 hi hz0 hz1 hz2 rfl (by decide) _ _ _ rfl (owns_alloc HR3.out.on _) ⟨_, 0, none⟩ 1 1 _ rfl rfl (cell_one_new _ _ _) (one_bool _) (by unfold maxLen; omega) (by omega) (by simp; omega) ?_; intro v4 w4a ho hg _ hat; have HR4 := hid (HR3.out.app_n ho hg hat); have hB4 : Below B wr w4a := (HB3.out).trans (below_app HR3.out.on hg z3); have qx4 := (hB4.cell (p := ⟨gx, j, none⟩) lx).trans qx; have qy4 := (hB4.cell (p := ⟨gy, j, none⟩) ly).trans qy; have z4 := Nat.le_trans hBr hB4.size; have sx4 := Nat.lt_of_lt_of_le lx z4; have sy4 := Nat.lt_of_lt_of_le ly z4; have HB4 := hid hB4; clear ho hg hat hB4))
              refine ⟨⟨j + 1, by omega, by go_num, held2_under HHH.out HB4.out lg0 lg1 hwB, (HB4.out.block gx lx).trans HX.out, (HB4.out.block gy ly).trans HY.out, ?_, z4, ?_, ?_⟩, by simp [intOf]; omega⟩
              · rw [foldk_same _ _ (.inr HN.out)]; exact (HB4.out.block gf lf).trans HF.out
              · simp [withk, hX, hY, hW]
              · rw [upto_succ, upto_succ, upto_succ, upto_succ, hX, hY]; exact HR4.out
      · by_cases hl : 97 ≤ j ∧ j ≤ 122
        · obtain ⟨l1, l2⟩ := hl
          have eo : ((j : Int) - 32).toNat = j - 32 := by omega
          go_wp2_with (first
          | (at_builtin; refine wpList_append_own_at _ rfl (.tmp 26) (.tmp 37) 25 rfl B 4 i0 (.bool false) 1 1 Try.underlying25 hi hz0 hz1 hz2 rfl (by decide) _ _ _ rfl (owns_alloc HR.out.ou _) ⟨_, 0, none⟩ 1 1 _ rfl rfl (cell_one_new _ _ _) (one_bool _) (by unfold maxLen; omega) (by omega) (by simp; omega) ?_; intro v1 w1a ho hg _ hat; have HR1 := hid (HR.out.app_u ho hg hat); have hB1 : Below B wr w1a := (below_app HR.out.ou hg hBr); have qx1 := (hB1.cell (p := ⟨gx, j, none⟩) lx).trans qx; have qy1 := (hB1.cell (p := ⟨gy, j, none⟩) ly).trans qy; have z1 := Nat.le_trans hBr hB1.size; have sx1 := Nat.lt_of_lt_of_le lx z1; have sy1 := Nat.lt_of_lt_of_le ly z1; have HB1 := hid hB1; clear ho hg hat hB1)
          | (at_builtin; refine wpList_append_own_at _ rfl (.tmp 39) (.tmp 50) 25 rfl B 4 i0 (.bool false) 1 1 Try.underlying25 hi hz0 hz1 hz2 rfl (by decide) _ _ _ rfl (owns_alloc HR1.out.om _) ⟨_, 0, none⟩ 1 1 _ rfl rfl (cell_one_new _ _ _) (one_bool _) (by unfold maxLen; omega) (by omega) (by simp; omega) ?_; intro v2 w2a ho hg _ hat; have HR2 := hid (HR1.out.app_m ho hg hat); have hB2 : Below B wr w2a := (HB1.out).trans (below_app HR1.out.om hg z1); have qx2 := (hB2.cell (p := ⟨gx, j, none⟩) lx).trans qx; have qy2 := (hB2.cell (p := ⟨gy, j, none⟩) ly).trans qy; have z2 := Nat.le_trans hBr hB2.size; have sx2 := Nat.lt_of_lt_of_le lx z2; have sy2 := Nat.lt_of_lt_of_le ly z2; have HB2 := hid hB2; clear ho hg hat hB2)
          | (at_builtin; refine wpList_append_own_at _ rfl (.tmp 52) (.tmp 64) 25 rfl B 4 i0 (.bool false) 1 1 Try.underlying25 hi hz0 hz1 hz2 rfl (by decide) _ _ _ rfl (owns_alloc HR2.out.od _) ⟨_, 0, none⟩ 1 1 _ rfl rfl (cell_one_new _ _ _) (one_bool _) (by unfold maxLen; omega) (by omega) (by simp; omega) ?_; intro v3 w3a ho hg _ hat; have HR3 := hid (HR2.out.app_d ho hg hat); have hB3 : Below B wr w3a := (HB2.out).trans (below_app HR2.out.od hg z2); have qx3 := (hB3.cell (p := ⟨gx, j, none⟩) lx).trans qx; have qy3 := (hB3.cell (p := ⟨gy, j, none⟩) ly).trans qy; have z3 := Nat.le_trans hBr hB3.size; have sx3 := Nat.lt_of_lt_of_le lx z3; have sy3 := Nat.lt_of_lt_of_le ly z3; have HB3 := hid hB3; clear ho hg hat hB3)
          | (at_builtin; refine wpList_append_own_at _ rfl (.tmp 66) (.tmp 72) 25 rfl B 4 i0 (.bool false) 1 1 Try.underlying25 hi hz0 hz1 hz2 rfl (by decide) _ _ _ rfl (owns_alloc HR3.out.on _) ⟨_, 0, none⟩ 1 1 _ rfl rfl (cell_one_new _ _ _) (one_bool _) (by unfold maxLen; omega) (by omega) (by simp; omega) ?_; intro v4 w4a ho hg _ hat; have HR4 := hid (HR3.out.app_n ho hg hat); have hB4 : Below B wr w4a := (HB3.out).trans (below_app HR3.out.on hg z3); have qx4 := (hB4.cell (p := ⟨gx, j, none⟩) lx).trans qx; have qy4 := (hB4.cell (p := ⟨gy, j, none⟩) ly).trans qy; have z4 := Nat.le_trans hBr hB4.size; have sx4 := Nat.lt_of_lt_of_le lx z4; have sy4 := Nat.lt_of_lt_of_le ly z4; have hf4 := (hB4.block gf lf).trans HF.out; have qf := (Joins.cell_of_block hf4 (j - 32)).trans (bl_at _ (j - 32) (by omega)); have ff := Joins.unfrozen_of_block hf4 (j - 32); clear hf4; have HB4 := hid hB4; clear ho hg hat hB4))
          refine ⟨⟨j + 1, by omega, by go_num, held2_set (held2_under HHH.out HB4.out lg0 lg1 hwB) ng0 ng1 hwf _, (Below.heap_setCell _ _ _ _ nx).trans ((HB4.out.block gx lx).trans HX.out), (Below.heap_setCell _ _ _ _ ny).trans ((HB4.out.block gy ly).trans HY.out), ?_, ?_, ?_, ?_⟩, by simp [intOf]; omega⟩
          · rw [← foldk_small _ _ hX ⟨l1, l2⟩]; exact Joins.block_setCell ((HB4.out.block gf lf).trans HF.out) _
          · simp only [World.setCell, Array.size_modify]; exact z4
          · simp [withk, hX, hY, hW]
          · rw [upto_succ, upto_succ, upto_succ, upto_succ, hX, hY]; exact HR4.out.set lf _
        · by_cases hu : 65 ≤ j ∧ j ≤ 90
          · obtain ⟨l1, l2⟩ := hu
            have eo : ((j : Int) + 32).toNat = j + 32 := by omega
            have hl' : j < 97 := by omega
            clear hl
            go_wp2_with (first
          | (at_builtin; refine wpList_append_own_at _ rfl (.tmp 26) (.tmp 37) 25 rfl B 4 i0 (.bool false) 1 1 Try.underlying25 hi hz0 hz1 hz2 rfl (by decide) _ _ _ rfl (owns_alloc HR.out.ou _) ⟨_, 0, none⟩ 1 1 _ rfl rfl (cell_one_new _ _ _) (one_bool _) (by unfold maxLen; omega) (by omega) (by simp; omega) ?_; intro v1 w1a ho hg _ hat; have HR1 := hid (HR.out.app_u ho hg hat); have hB1 : Below B wr w1a := (below_app HR.out.ou hg hBr); have qx1 := (hB1.cell (p := ⟨gx, j, none⟩) lx).trans qx; have qy1 := (hB1.cell (p := ⟨gy, j, none⟩) ly).trans qy; have z1 := Nat.le_trans hBr hB1.size; have sx1 := Nat.lt_of_lt_of_le lx z1; have sy1 := Nat.lt_of_lt_of_le ly z1; have HB1 := hid hB1; clear ho hg hat hB1)
          | (at_builtin; refine wpList_append_own_at _ rfl (.tmp 39) (.tmp 50) 25 rfl B 4 i0 (.bool false) 1 1 Try.underlying25 hi hz0 hz1 hz2 rfl (by decide) _ _ _ rfl (owns_alloc HR1.out.om _) ⟨_, 0, none⟩ 1 1 _ rfl rfl (cell_one_new _ _ _) (one_bool _) (by unfold maxLen; omega) (by omega) (by simp; omega) ?_; intro v2 w2a ho hg _ hat; have HR2 := hid (HR1.out.app_m ho hg hat); have hB2 : Below B wr w2a := (HB1.out).trans (below_app HR1.out.om hg z1); have qx2 := (hB2.cell (p := ⟨gx, j, none⟩) lx).trans qx; have qy2 := (hB2.cell (p := ⟨gy, j, none⟩) ly).trans qy; have z2 := Nat.le_trans hBr hB2.size; have sx2 := Nat.lt_of_lt_of_le lx z2; have sy2 := Nat.lt_of_lt_of_le ly z2; have HB2 := hid hB2; clear ho hg hat hB2)
          | (at_builtin; refine wpList_append_own_at _ rfl (.tmp 52) (.tmp 64) 25 rfl B 4 i0 (.bool false) 1 1 Try.underlying25 hi hz0 hz1 hz2 rfl (by decide) _ _ _ rfl (owns_alloc HR2.out.od _) ⟨_, 0, none⟩ 1 1 _ rfl rfl (cell_one_new _ _ _) (one_bool _) (by unfold maxLen; omega) (by omega) (by simp; omega) ?_; intro v3 w3a ho hg _ hat; have HR3 := hid (HR2.out.app_d ho hg hat); have hB3 : Below B wr w3a := (HB2.out).trans (below_app HR2.out.od hg z2); have qx3 := (hB3.cell (p := ⟨gx, j, none⟩) lx).trans qx; have qy3 := (hB3.cell (p := ⟨gy, j, none⟩) ly).trans qy; have z3 := Nat.le_trans hBr hB3.size; have sx3 := Nat.lt_of_lt_of_le lx z3; have sy3 := Nat.lt_of_lt_of_le ly z3; have HB3 := hid hB3; clear ho hg hat hB3)
          | (at_builtin; refine wpList_append_own_at _ rfl (.tmp 66) (.tmp 72) 25 rfl B 4 i0 (.bool false) 1 1 Try.underlying25 hi hz0 hz1 hz2 rfl (by decide) _ _ _ rfl (owns_alloc HR3.out.on _) ⟨_, 0, none⟩ 1 1 _ rfl rfl (cell_one_new _ _ _) (one_bool _) (by unfold maxLen; omega) (by omega) (by simp; omega) ?_; intro v4 w4a ho hg _ hat; have HR4 := hid (HR3.out.app_n ho hg hat); have hB4 : Below B wr w4a := (HB3.out).trans (below_app HR3.out.on hg z3); have qx4 := (hB4.cell (p := ⟨gx, j, none⟩) lx).trans qx; have qy4 := (hB4.cell (p := ⟨gy, j, none⟩) ly).trans qy; have z4 := Nat.le_trans hBr hB4.size; have sx4 := Nat.lt_of_lt_of_le lx z4; have sy4 := Nat.lt_of_lt_of_le ly z4; have hf4 := (hB4.block gf lf).trans HF.out; have qf := (Joins.cell_of_block hf4 (j + 32)).trans (bl_at _ (j + 32) (by omega)); have ff := Joins.unfrozen_of_block hf4 (j + 32); clear hf4; have HB4 := hid hB4; clear ho hg hat hB4))
            refine ⟨⟨j + 1, by omega, by go_num, held2_set (held2_under HHH.out HB4.out lg0 lg1 hwB) ng0 ng1 hwf _, (Below.heap_setCell _ _ _ _ nx).trans ((HB4.out.block gx lx).trans HX.out), (Below.heap_setCell _ _ _ _ ny).trans ((HB4.out.block gy ly).trans HY.out), ?_, ?_, ?_, ?_⟩, by simp [intOf]; omega⟩
            · rw [← foldk_large _ _ hX ⟨l1, l2⟩]; exact Joins.block_setCell ((HB4.out.block gf lf).trans HF.out) _
            · simp only [World.setCell, Array.size_modify]; exact z4
            · simp [withk, hX, hY, hW]
            · rw [upto_succ, upto_succ, upto_succ, upto_succ, hX, hY]; exact HR4.out.set lf _
          · have HN := hid (And.intro hl hu)
            have hn : j < 65 ∨ 90 < j ∧ j < 97 ∨ 122 < j := by omega
            clear hl hu
            rcases hn with hn | ⟨hn, hn2⟩ | hn
            all_goals
              go_wp2_with (first
          | (at_builtin; refine wpList_append_own_at _ rfl (.tmp 26) (.tmp 37) 25 rfl B 4 i0 (.bool false) 1 1 Try.underlying25 hi hz0 hz1 hz2 rfl (by decide) _ _ _ rfl (owns_alloc HR.out.ou _) ⟨_, 0, none⟩ 1 1 _ rfl rfl (cell_one_new _ _ _) (one_bool _) (by unfold maxLen; omega) (by omega) (by simp; omega) ?_; intro v1 w1a ho hg _ hat; have HR1 := hid (HR.out.app_u ho hg hat); have hB1 : Below B wr w1a := (below_app HR.out.ou hg hBr); have qx1 := (hB1.cell (p := ⟨gx, j, none⟩) lx).trans qx; have qy1 := (hB1.cell (p := ⟨gy, j, none⟩) ly).trans qy; have z1 := Nat.le_trans hBr hB1.size; have sx1 := Nat.lt_of_lt_of_le lx z1; have sy1 := Nat.lt_of_lt_of_le ly z1; have HB1 := hid hB1; clear ho hg hat hB1)
          | (at_builtin; refine wpList_append_own_at _ rfl (.tmp 39) (.tmp 50) 25 rfl B 4 i0 (.bool false) 1 1 Try.underlying25 hi hz0 hz1 hz2 rfl (by decide) _ _ _ rfl (owns_alloc HR1.out.om _) ⟨_, 0, none⟩ 1 1 _ rfl rfl (cell_one_new _ _ _) (one_bool _) (by unfold maxLen; omega) (by omega) (by simp; omega) ?_; intro v2 w2a ho hg _ hat; have HR2 := hid (HR1.out.app_m ho hg hat); have hB2 : Below B wr w2a := (HB1.out).trans (below_app HR1.out.om hg z1); have qx2 := (hB2.cell (p := ⟨gx, j, none⟩) lx).trans qx; have qy2 := (hB2.cell (p := ⟨gy, j, none⟩) ly).trans qy; have z2 := Nat.le_trans hBr hB2.size; have sx2 := Nat.lt_of_lt_of_le lx z2; have sy2 := Nat.lt_of_lt_of_le ly z2; have HB2 := hid hB2; clear ho hg hat hB2)
          | (at_builtin; refine wpList_append_own_at _ rfl (.tmp 52) (.tmp 64) 25 rfl B 4 i0 (.bool false) 1 1 Try.underlying25 hi hz0 hz1 hz2 rfl (by decide) _ _ _ rfl (owns_alloc HR2.out.od _) ⟨_, 0, none⟩ 1 1 _ rfl rfl (cell_one_new _ _ _) (one_bool _) (by unfold maxLen; omega) (by omega) (by simp; omega) ?_; intro v3 w3a ho hg _ hat; have HR3 := hid (HR2.out.app_d ho hg hat); have hB3 : Below B wr w3a := (HB2.out).trans (below_app HR2.out.od hg z2); have qx3 := (hB3.cell (p := ⟨gx, j, none⟩) lx).trans qx; have qy3 := (hB3.cell (p := ⟨gy, j, none⟩) ly).trans qy; have z3 := Nat.le_trans hBr hB3.size; have sx3 := Nat.lt_of_lt_of_le lx z3; have sy3 := Nat.lt_of_lt_of_le ly z3; have HB3 := hid hB3; clear ho hg hat hB3)
          | (at_builtin; refine wpList_append_own_at _ rfl (.tmp 66) (.tmp 72) 25 rfl B 4 i0 (.bool false) 1 1 Try.underlying25 hi hz0 hz1 hz2 rfl (by decide) _ _ _ rfl (owns_alloc HR3.out.on _) ⟨_, 0, none⟩ 1 1 _ rfl rfl (cell_one_new _ _ _) (one_bool _) (by unfold maxLen; omega) (by omega) (by simp; omega) ?_; intro v4 w4a ho hg _ hat; have HR4 := hid (HR3.out.app_n ho hg hat); have hB4 : Below B wr w4a := (HB3.out).trans (below_app HR3.out.on hg z3); have qx4 := (hB4.cell (p := ⟨gx, j, none⟩) lx).trans qx; have qy4 := (hB4.cell (p := ⟨gy, j, none⟩) ly).trans qy; have z4 := Nat.le_trans hBr hB4.size; have sx4 := Nat.lt_of_lt_of_le lx z4; have sy4 := Nat.lt_of_lt_of_le ly z4; have HB4 := hid hB4; clear ho hg hat hB4))
              refine ⟨⟨j + 1, by omega, by go_num, held2_under HHH.out HB4.out lg0 lg1 hwB, (HB4.out.block gx lx).trans HX.out, (HB4.out.block gy ly).trans HY.out, ?_, z4, ?_, ?_⟩, by simp [intOf]; omega⟩
              · rw [foldk_same _ _ (.inr HN.out)]; exact (HB4.out.block gf lf).trans HF.out
              · simp [withk, hX, hY, hW]
              · rw [upto_succ, upto_succ, upto_succ, upto_succ, hX, hY]; exact HR4.out
      · by_cases hl : 97 ≤ j ∧ j ≤ 122
        · obtain ⟨l1, l2⟩ := hl
          have eo : ((j : Int) - 32).toNat = j - 32 := by omega
          go_wp2_with (first
          | (at_builtin; refine wpList_append_own_at _ rfl (.tmp 26) (.tmp 37) 25 rfl B 4 i0 (.bool false) 1 1 Try.underlying25 hi hz0 hz1 hz2 rfl (by decide) _ _ _ rfl (owns_alloc HR.out.ou _) ⟨_, 0, none⟩ 1 1 _ rfl rfl (cell_one_new _ _ _) (one_bool _) (by unfold maxLen; omega) (by omega) (by simp; omega) ?_; intro v1 w1a ho hg _ hat; have HR1 := hid (HR.out.app_u ho hg hat); have hB1 : Below B wr w1a := (below_app HR.out.ou hg hBr); have qx1 := (hB1.cell (p := ⟨gx, j, none⟩) lx).trans qx; have qy1 := (hB1.cell (p := ⟨gy, j, none⟩) ly).trans qy; have z1 := Nat.le_trans hBr hB1.size; have sx1 := Nat.lt_of_lt_of_le lx z1; have sy1 := Nat.lt_of_lt_of_le ly z1; have HB1 := hid hB1; clear ho hg hat hB1)
          | (at_builtin; refine wpList_append_own_at _ rfl (.tmp 39) (.tmp 50) 25 rfl B 4 i0 (.bool false) 1 1 Try.underlying25 hi hz0 hz1 hz2 rfl (by decide) _ _ _ rfl (owns_alloc HR1.out.om _) ⟨_, 0, none⟩ 1 1 _ rfl rfl (cell_one_new _ _ _) (one_bool _) (by unfold maxLen; omega) (by omega) (by simp; omega) ?_; intro v2 w2a ho hg _ hat; have HR2 := hid (HR1.out.app_m ho hg hat); have hB2 : Below B wr w2a := (HB1.out).trans (below_app HR1.out.om hg z1); have qx2 := (hB2.cell (p := ⟨gx, j, none⟩) lx).trans qx; have qy2 := (hB2.cell (p := ⟨gy, j, none⟩) ly).trans qy; have z2 := Nat.le_trans hBr hB2.size; have sx2 := Nat.lt_of_lt_of_le lx z2; have sy2 := Nat.lt_of_lt_of_le ly z2; have HB2 := hid hB2; clear ho hg hat hB2)
          | (at_builtin; refine wpList_append_own_at _ rfl (.tmp 52) (.tmp 64) 25 rfl B 4 i0 (.bool false) 1 1 Try.underlying25 hi hz0 hz1 hz2 rfl (by decide) _ _ _ rfl (owns_alloc HR2.out.od _) ⟨_, 0, none⟩ 1 1 _ rfl rfl (cell_one_new _ _ _) (one_bool _) (by unfold maxLen; omega) (by omega) (by simp; omega) ?_; intro v3 w3a ho hg _ hat; have HR3 := hid (HR2.out.app_d ho hg hat); have hB3 : Below B wr w3a := (HB2.out).trans (below_app HR2.out.od hg z2); have qx3 := (hB3.cell (p := ⟨gx, j, none⟩) lx).trans qx; have qy3 := (hB3.cell (p := ⟨gy, j, none⟩) ly).trans qy; have z3 := Nat.le_trans hBr hB3.size; have sx3 := Nat.lt_of_lt_of_le lx z3; have sy3 := Nat.lt_of_lt_of_le ly z3; have HB3 := hid hB3; clear ho hg hat hB3)
          | (at_builtin; refine wpList_append_own_at _ rfl (.tmp 66) (.tmp 72) 25 rfl B 4 i0 (.bool false) 1 1 Try.underlying25 hi hz0 hz1 hz2 rfl (by decide) _ _ _ rfl (owns_alloc HR3.out.on _) ⟨_, 0, none⟩ 1 1 _ rfl rfl (cell_one_new _ _ _) (one_bool _) (by unfold maxLen; omega) (by omega) (by simp; omega) ?_; intro v4 w4a ho hg _ hat; have HR4 := hid (HR3.out.app_n ho hg hat); have hB4 : Below B wr w4a := (HB3.out).trans (below_app HR3.out.on hg z3); have qx4 := (hB4.cell (p := ⟨gx, j, none⟩) lx).trans qx; have qy4 := (hB4.cell (p := ⟨gy, j, none⟩) ly).trans qy; have z4 := Nat.le_trans hBr hB4.size; have sx4 := Nat.lt_of_lt_of_le lx z4; have sy4 := Nat.lt_of_lt_of_le ly z4; have hf4 := (hB4.block gf lf).trans HF.out; have qf := (Joins.cell_of_block hf4 (j - 32)).trans (bl_at _ (j - 32) (by omega)); have ff := Joins.unfrozen_of_block hf4 (j - 32); clear hf4; have HB4 := hid hB4; clear ho hg hat hB4))
          refine ⟨⟨j + 1, by omega, by go_num, held2_set (held2_under HHH.out HB4.out lg0 lg1 hwB) ng0 ng1 hwf _, (Below.heap_setCell _ _ _ _ nx).trans ((HB4.out.block gx lx).trans HX.out), (Below.heap_setCell _ _ _ _ ny).trans ((HB4.out.block gy ly).trans HY.out), ?_, ?_, ?_, ?_⟩, by simp [intOf]; omega⟩
          · rw [← foldk_small _ _ hX ⟨l1, l2⟩]; exact Joins.block_setCell ((HB4.out.block gf lf).trans HF.out) _
          · simp only [World.setCell, Array.size_modify]; exact z4
          · simp [withk, hX, hY, hW]
          · rw [upto_succ, upto_succ, upto_succ, upto_succ, hX, hY]; exact HR4.out.set lf _
        · by_cases hu : 65 ≤ j ∧ j ≤ 90
          · obtain ⟨l1, l2⟩ := hu
            have eo : ((j : Int) + 32).toNat = j + 32 := by omega
            have hl' : j < 97 := by omega
            clear hl
            go_wp2_with (first
          | (at_builtin; refine wpList_append_own_at _ rfl (.tmp 26) (.tmp 37) 25 rfl B 4 i0 (.bool false) 1 1 Try.underlying25 hi hz0 hz1 hz2 rfl (by decide) _ _ _ rfl (owns_alloc HR.out.ou _) ⟨_, 0, none⟩ 1 1 _ rfl rfl (cell_one_new _ _ _) (one_bool _) (by unfold maxLen; omega) (by omega) (by simp; omega) ?_; intro v1 w1a ho hg _ hat; have HR1 := hid (HR.out.app_u ho hg hat); have hB1 : Below B wr w1a := (below_app HR.out.ou hg hBr); have qx1 := (hB1.cell (p := ⟨gx, j, none⟩) lx).trans qx; have qy1 := (hB1.cell (p := ⟨gy, j, none⟩) ly).trans qy; have z1 := Nat.le_trans hBr hB1.size; have sx1 := Nat.lt_of_lt_of_le lx z1; have sy1 := Nat.lt_of_lt_of_le ly z1; have HB1 := hid hB1; clear ho hg hat hB1)
          | (at_builtin; refine wpList_append_own_at _ rfl (.tmp 39) (.tmp 50) 25 rfl B 4 i0 (.bool false) 1 1 Try.underlying25 hi hz0 hz1 hz2 rfl (by decide) _ _ _ rfl (owns_alloc HR1.out.om _) ⟨_, 0, none⟩ 1 1 _ rfl rfl (cell_one_new _ _ _) (one_bool _) (by unfold maxLen; omega) (by omega) (by simp; omega) ?_; intro v2 w2a ho hg _ hat; have HR2 := hid (HR1.out.app_m ho hg hat); have hB2 : Below B wr w2a := (HB1.out).trans (below_app HR1.out.om hg z1); have qx2 := (hB2.cell (p := ⟨gx, j, none⟩) lx).trans qx; have qy2 := (hB2.cell (p := ⟨gy, j, none⟩) ly).trans qy; have z2 := Nat.le_trans hBr hB2.size; have sx2 := Nat.lt_of_lt_of_le lx z2; have sy2 := Nat.lt_of_lt_of_le ly z2; have HB2 := hid hB2; clear ho hg hat hB2)
          | (at_builtin; refine wpList_append_own_at _ rfl (.tmp 52) (.tmp 64) 25 rfl B 4 i0 (.bool false) 1 1 Try.underlying25 hi hz0 hz1 hz2 rfl (by decide) _ _ _ rfl (owns_alloc HR2.out.od _) ⟨_, 0, none⟩ 1 1 _ rfl rfl (cell_one_new _ _ _) (one_bool _) (by unfold maxLen; omega) (by omega) (by simp; omega) ?_; intro v3 w3a ho hg _ hat; have HR3 := hid (HR2.out.app_d ho hg hat); have hB3 : Below B wr w3a := (HB2.out).trans (below_app HR2.out.od hg z2); have qx3 := (hB3.cell (p := ⟨gx, j, none⟩) lx).trans qx; have qy3 := (hB3.cell (p := ⟨gy, j, none⟩) ly).trans qy; have z3 := Nat.le_trans hBr hB3.size; have sx3 := Nat.lt_of_lt_of_le lx z3; have sy3 := Nat.lt_of_lt_of_le ly z3; have HB3 := hid hB3; clear ho hg hat hB3)
          | (at_builtin; refine wpList_append_own_at _ rfl (.tmp 66) (.tmp 72) 25 rfl B 4 i0 (.bool false) 1 1 Try.underlying25 hi hz0 hz1 hz2 rfl (by decide) _ _ _ rfl (owns_alloc HR3.out.on _) ⟨_, 0, none⟩ 1 1 _ rfl rfl (cell_one_new _ _ _) (one_bool _) (by unfold maxLen; omega) (by omega) (by simp; omega) ?_; intro v4 w4a ho hg _ hat; have HR4 := hid (HR3.out.app_n ho hg hat); have hB4 : Below B wr w4a := (HB3.out).trans (below_app HR3.out.on hg z3); have qx4 := (hB4.cell (p := ⟨gx, j, none⟩) lx).trans qx; have qy4 := (hB4.cell (p := ⟨gy, j, none⟩) ly).trans qy; have z4 := Nat.le_trans hBr hB4.size; have sx4 := Nat.lt_of_lt_of_le lx z4; have sy4 := Nat.lt_of_lt_of_le ly z4; have hf4 := (hB4.block gf lf).trans HF.out; have qf := (Joins.cell_of_block hf4 (j + 32)).trans (bl_at _ (j + 32) (by omega)); have ff := Joins.unfrozen_of_block hf4 (j + 32); clear hf4; have HB4 := hid hB4; clear ho hg hat hB4))
            refine ⟨⟨j + 1, by omega, by go_num, held2_set (held2_under HHH.out HB4.out lg0 lg1 hwB) ng0 ng1 hwf _, (Below.heap_setCell _ _ _ _ nx).trans ((HB4.out.block gx lx).trans HX.out), (Below.heap_setCell _ _ _ _ ny).trans ((HB4.out.block gy ly).trans HY.out), ?_, ?_, ?_, ?_⟩, by simp [intOf]; omega⟩
            · rw [← foldk_large _ _ hX ⟨l1, l2⟩]; exact Joins.block_setCell ((HB4.out.block gf lf).trans HF.out) _
            · simp only [World.setCell, Array.size_modify]; exact z4
            · simp [withk, hX, hY, hW]
            · rw [upto_succ, upto_succ, upto_succ, upto_succ, hX, hY]; exact HR4.out.set lf _
          · have HN := hid (And.intro hl hu)
            have hn : j < 65 ∨ 90 < j ∧ j < 97 ∨ 122 < j := by omega
            clear hl hu
            rcases hn with hn | ⟨hn, hn2⟩ | hn
            all_goals
              go_wp2_with (first
          | (at_builtin; refine wpList_append_own_at _ rfl (.tmp 26) (.tmp 37) 25 rfl B 4 i0 (.bool false) 1 1 Try.underlying25 hi hz0 hz1 hz2 rfl (by decide) _ _ _ rfl (owns_alloc HR.out.ou _) ⟨_, 0, none⟩ 1 1 _ rfl rfl (cell_one_new _ _ _) (one_bool _) (by unfold maxLen; omega) (by omega) (by simp; omega) ?_; intro v1 w1a ho hg _ hat; have HR1 := hid (HR.out.app_u ho hg hat); have hB1 : Below B wr w1a := (below_app HR.out.ou hg hBr); have qx1 := (hB1.cell (p := ⟨gx, j, none⟩) lx).trans qx; have qy1 := (hB1.cell (p := ⟨gy, j, none⟩) ly).trans qy; have z1 := Nat.le_trans hBr hB1.size; have sx1 := Nat.lt_of_lt_of_le lx z1; have sy1 := Nat.lt_of_lt_of_le ly z1; have HB1 := hid hB1; clear ho hg hat hB1)
          | (at_builtin; refine wpList_append_own_at _ rfl (.tmp 39) (.tmp 50) 25 rfl B 4 i0 (.bool false) 1 1 Try.underlying25 hi hz0 hz1 hz2 rfl (by decide) _ _ _ rfl (owns_alloc HR1.out.om _) ⟨_, 0, none⟩ 1 1 _ rfl rfl (cell_one_new _ _ _) (one_bool _) (by unfold maxLen; omega) (by omega) (by simp; omega) ?_; intro v2 w2a ho hg _ hat; have HR2 := hid (HR1.out.app_m ho hg hat); have hB2 : Below B wr w2a := (HB1.out).trans (below_app HR1.out.om hg z1); have qx2 := (hB2.cell (p := ⟨gx, j, none⟩) lx).trans qx; have qy2 := (hB2.cell (p := ⟨gy, j, none⟩) ly).trans qy; have z2 := Nat.le_trans hBr hB2.size; have sx2 := Nat.lt_of_lt_of_le lx z2; have sy2 := Nat.lt_of_lt_of_le ly z2; have HB2 := hid hB2; clear ho hg hat hB2)
          | (at_builtin; refine wpList_append_own_at _ rfl (.tmp 52) (.tmp 64) 25 rfl B 4 i0 (.bool false) 1 1 Try.underlying25 hi hz0 hz1 hz2 rfl (by decide) _ _ _ rfl (owns_alloc HR2.out.od _) ⟨_, 0, none⟩ 1 1 _ rfl rfl (cell_one_new _ _ _) (one_bool _) (by unfold maxLen; omega) (by omega) (by simp; omega) ?_; intro v3 w3a ho hg _ hat; have HR3 := hid (HR2.out.app_d ho hg hat); have hB3 : Below B wr w3a := (HB2.out).trans (below_app HR2.out.od hg z2); have qx3 := (hB3.cell (p := ⟨gx, j, none⟩) lx).trans qx; have qy3 := (hB3.cell (p := ⟨gy, j, none⟩) ly).trans qy; have z3 := Nat.le_trans hBr hB3.size; have sx3 := Nat.lt_of_lt_of_le lx z3; have sy3 := Nat.lt_of_lt_of_le ly z3; have HB3 := hid hB3; clear ho hg hat hB3)
          | (at_builtin; refine wpList_append_own_at _ rfl (.tmp 66) (.tmp 72) 25 rfl B 4 i0 (.bool false) 1 1 Try.underlying25 hi hz0 hz1 hz2 rfl (by decide) _ _ _ rfl (owns_alloc HR3.out.on _) ⟨_, 0, none⟩ 1 1 _ rfl rfl (cell_one_new _ _ _) (one_bool _) (by unfold maxLen; omega) (by omega) (by simp; omega) ?_; intro v4 w4a ho hg _ hat; have HR4 := hid (HR3.out.app_n ho hg hat); have hB4 : Below B wr w4a := (HB3.out).trans (below_app HR3.out.on hg z3); have qx4 := (hB4.cell (p := ⟨gx, j, none⟩) lx).trans qx; have qy4 := (hB4.cell (p := ⟨gy, j, none⟩) ly).trans qy; have z4 := Nat.le_trans hBr hB4.size; have sx4 := Nat.lt_of_lt_of_le lx z4; have sy4 := Nat.lt_of_lt_of_le ly z4; have HB4 := hid hB4; clear ho hg hat hB4))
              refine ⟨⟨j + 1, by omega, by go_num, held2_under HHH.out HB4.out lg0 lg1 hwB, (HB4.out.block gx lx).trans HX.out, (HB4.out.block gy ly).trans HY.out, ?_, z4, ?_, ?_⟩, by simp [intOf]; omega⟩
              · rw [foldk_same _ _ (.inr HN.out)]; exact (HB4.out.block gf lf).trans HF.out
              · simp [withk, hX, hY, hW]
              · rw [upto_succ, upto_succ, upto_succ, upto_succ, hX, hY]; exact HR4.out
    · have e : j = 256 := by omega
      subst e
      obtain ⟨ou, om, od, on, _, _, _, _, _, _⟩ := hrow
      obtain ⟨gu, cu, rfl, BU⟩ := bools_of_row ou
      obtain ⟨gm, cm, rfl, BM⟩ := bools_of_row om
      obtain ⟨gd, cd, rfl, BD⟩ := bools_of_row od
      obtain ⟨gn, cn, rfl, BN⟩ := bools_of_row on
      have HW : HeldB w g0 g1 gx gu gm gd gn gf a b c d x y z u wr := ⟨HH, bools_of_block hx, BU, BM, BD, BN, bools_of_block hf⟩
      have HW := heldB_below (Below.refl _ wr).drew HW
      have h2 : k < 256 := by omega
      clear ou om od on BU BM BD BN HH hx hy hf hx3 hy3 hf1 H3 hBr hB hwB
      go_wp2_with fail
      refine Reg.wp_region_told (bothTold a b c d x y z u k gx gu gm gd gn gf cu cm cd cn) [] [0, 1, 2, 3, 4, 5, 6, 7, 8, 9, 10, 11, 12, 13, 14, 15, 16, 17, 18, 19, 20, 21, 22, 23, 24, 25, 26, 27, 28, 29, 30, 31, 32, 33, 34, 35, 36, 37, 38, 39, 40, 41, 42, 43, 44, 45, 46, 47, 48, 49, 50, 51, 52, 53, 54, 55, 56, 57, 58, 59, 60, 61, 62] (by kernel_rfl) (by kernel_rfl) (by kernel_rfl) (by intro f hf; cases hf) (by intro f hf; cases hf) ?_ ?_
      focus
        refine ⟨Reg.opOK_plain (by rfl) fun G listed A wv hI hall => .inl ⟨Reg.wanted_none rfl, ?_⟩, ?_⟩
        focus
          have H := (heldB_below hI.base HW).1
          have e3 := hI.evo (d := 3) (by kernel_rfl) rfl
          clear hI hall HW
          unfold Reg.Yields
          go_simp
          exact Reg.good_val (by rfl) (by rfl) (Below.refl _ _)
        refine ⟨Reg.opOK_plain (by rfl) fun G listed A wv hI hall => .inl ⟨Reg.wanted_none rfl, ?_⟩, ?_⟩
        focus
          have H := (heldB_below hI.base HW).1
          have e4 := hI.evo (d := 4) (by kernel_rfl) rfl
          clear hI hall HW
          unfold Reg.Yields
          go_simp
          exact Reg.good_val (by rfl) (by rfl) (Below.refl _ _)
        refine ⟨Reg.opOK_plain (by rfl) fun G listed A wv hI hall => .inl ⟨Reg.wanted_none rfl, ?_⟩, ?_⟩
        focus
          have e120 := hI.ev (i := 0) (d := 120) (by rfl) (by rfl) (hall ⟨0, .data⟩ (by simp) rfl)
          have e121 := hI.ev (i := 1) (d := 121) (by rfl) (by rfl) (hall ⟨1, .data⟩ (by simp) rfl)
          clear hI hall HW
          unfold Reg.Yields
          go_simp
          exact Reg.good_new (by rfl) (by rfl) (by rfl)
        refine ⟨Reg.opOK_plain (by rfl) fun G listed A wv hI hall => .inl ⟨Reg.wanted_none rfl, ?_⟩, ?_⟩
        focus
          obtain ⟨e122, _, b122⟩ := hI.evm (i := 2) (d := 122) (by rfl) (by rfl) (hall ⟨2, .data⟩ (by simp) rfl)
          clear hI hall HW
          unfold Reg.Yields
          go_simp
          exact (union_blk2 b122).mono fun e w'' ⟨he, hb⟩ => ⟨_, he, Reg.good_val (by rfl) (by rfl) hb⟩
        refine ⟨Reg.opOK_plain (by rfl) fun G listed A wv hI hall => .inl ⟨Reg.wanted_none rfl, ?_⟩, ?_⟩
        focus
          have e9 := hI.evo (d := 9) (by kernel_rfl) rfl
          clear hI hall HW
          unfold Reg.Yields
          go_simp
          exact Reg.good_val (by rfl) (by rfl) (Below.refl _ _)
        refine ⟨Reg.opOK_plain (by rfl) fun G listed A wv hI hall => .inl ⟨Reg.wanted_none rfl, ?_⟩, ?_⟩
        focus
          have H := heldB_below hI.base HW
          have e124 := hI.ev (i := 4) (d := 124) (by rfl) (by rfl) (hall ⟨4, .data⟩ (by simp) rfl)
          clear hI hall HW
          unfold Reg.Yields
          go_simp
          exact (make_known (orr (orr 0 a) x) (orr (orr 0 b) y) (orr (orr 0 c) z) (orr (orr 0 d) u) H.2.2.1 (by first | assumption | exact orr_fit _ _ | exact an_fit _ _ | exact nt_fit _ | exact fo_fit _) (by first | assumption | exact orr_fit _ _ | exact an_fit _ _ | exact nt_fit _ | exact fo_fit _) (by first | assumption | exact orr_fit _ _ | exact an_fit _ _ | exact nt_fit _ | exact fo_fit _) (by first | assumption | exact orr_fit _ _ | exact an_fit _ _ | exact nt_fit _ | exact fo_fit _) (fun n _ => memb_or a b c d x y z u n)).mono fun e w'' ⟨he, hb⟩ => ⟨_, he, Reg.good_val (by rfl) (by rfl) hb⟩
        refine ⟨Reg.opOK_plain (by rfl) fun G listed A wv hI hall => .inl ⟨Reg.wanted_none rfl, ?_⟩, ?_⟩
        focus
          have e123 := hI.ev (i := 3) (d := 123) (by rfl) (by rfl) (hall ⟨3, .data⟩ (by simp) rfl)
          have e125 := hI.ev (i := 5) (d := 125) (by rfl) (by rfl) (hall ⟨5, .data⟩ (by simp) rfl)
          clear hI hall HW
          unfold Reg.Yields
          go_simp
          exact Reg.good_val (by rfl) (by rfl) (Below.refl _ _)
        refine ⟨Reg.opOK_plain (by rfl) fun G listed A wv hI hall => .inl ⟨Reg.wanted_none rfl, ?_⟩, ?_⟩
        focus
          have e126 := hI.ev (i := 6) (d := 126) (by rfl) (by rfl) (hall ⟨6, .data⟩ (by simp) rfl)
          clear hI hall HW
          unfold Reg.Yields
          go_simp
          exact Reg.good_val (by rfl) (by rfl) (Below.refl _ _)
        refine ⟨Reg.opOK_plain (by rfl) fun G listed A wv hI hall => .inl ⟨(Reg.wanted_some rfl (by rfl) (hI.ev (i := 7) (d := 127) (by rfl) (by rfl) (hall ⟨7, .guard⟩ (by simp) rfl))).trans rfl, ?_⟩, ?_⟩
        focus
          have H := (heldB_below hI.base HW).1
          have e3 := hI.evo (d := 3) (by kernel_rfl) rfl
          clear hI hall HW
          unfold Reg.Yields
          go_simp
          exact Reg.good_val (by rfl) (by rfl) (Below.refl _ _)
        refine ⟨Reg.opOK_plain (by rfl) fun G listed A wv hI hall => .inl ⟨(Reg.wanted_some rfl (by rfl) (hI.ev (i := 7) (d := 127) (by rfl) (by rfl) (hall ⟨7, .guard⟩ (by simp) rfl))).trans rfl, ?_⟩, ?_⟩
        focus
          have H := (heldB_below hI.base HW).1
          have e4 := hI.evo (d := 4) (by kernel_rfl) rfl
          clear hI hall HW
          unfold Reg.Yields
          go_simp
          exact Reg.good_val (by rfl) (by rfl) (Below.refl _ _)
        refine ⟨Reg.opOK_plain (by rfl) fun G listed A wv hI hall => .inl ⟨(Reg.wanted_some rfl (by rfl) (hI.ev (i := 7) (d := 127) (by rfl) (by rfl) (hall ⟨7, .guard⟩ (by simp) rfl))).trans rfl, ?_⟩, ?_⟩
        focus
          have e128 := hI.ev (i := 8) (d := 128) (by rfl) (by rfl) (hall ⟨8, .data⟩ (by simp) rfl)
          have e129 := hI.ev (i := 9) (d := 129) (by rfl) (by rfl) (hall ⟨9, .data⟩ (by simp) rfl)
          clear hI hall HW
          unfold Reg.Yields
          go_simp
          exact (meet_any _ _ _ _ _ _ _ _ _).mono fun e w'' ⟨he, hb⟩ => ⟨_, he, Reg.good_val (by rfl) (by rfl) hb⟩
        refine ⟨Reg.opOK_plain (by rfl) fun G listed A wv hI hall => .inl ⟨(Reg.wanted_some rfl (by rfl) (hI.ev (i := 7) (d := 127) (by rfl) (by rfl) (hall ⟨7, .guard⟩ (by simp) rfl))).trans rfl, ?_⟩, ?_⟩
        focus
          have e10 := hI.evo (d := 10) (by kernel_rfl) rfl
          clear hI hall HW
          unfold Reg.Yields
          go_simp
          exact Reg.good_val (by rfl) (by rfl) (Below.refl _ _)
        refine ⟨Reg.opOK_plain (by rfl) fun G listed A wv hI hall => .inl ⟨(Reg.wanted_some rfl (by rfl) (hI.ev (i := 7) (d := 127) (by rfl) (by rfl) (hall ⟨7, .guard⟩ (by simp) rfl))).trans rfl, ?_⟩, ?_⟩
        focus
          have H := heldB_below hI.base HW
          have e131 := hI.ev (i := 11) (d := 131) (by rfl) (by rfl) (hall ⟨11, .data⟩ (by simp) rfl)
          clear hI hall HW
          unfold Reg.Yields
          go_simp
          exact (make_known (an a x) (an b y) (an c z) (an d u) H.2.2.2.1 (by first | assumption | exact orr_fit _ _ | exact an_fit _ _ | exact nt_fit _ | exact fo_fit _) (by first | assumption | exact orr_fit _ _ | exact an_fit _ _ | exact nt_fit _ | exact fo_fit _) (by first | assumption | exact orr_fit _ _ | exact an_fit _ _ | exact nt_fit _ | exact fo_fit _) (by first | assumption | exact orr_fit _ _ | exact an_fit _ _ | exact nt_fit _ | exact fo_fit _) (fun n _ => memb_an a b c d x y z u n)).mono fun e w'' ⟨he, hb⟩ => ⟨_, he, Reg.good_val (by rfl) (by rfl) hb⟩
        refine ⟨Reg.opOK_plain (by rfl) fun G listed A wv hI hall => .inl ⟨(Reg.wanted_some rfl (by rfl) (hI.ev (i := 7) (d := 127) (by rfl) (by rfl) (hall ⟨7, .guard⟩ (by simp) rfl))).trans rfl, ?_⟩, ?_⟩
        focus
          have e130 := hI.ev (i := 10) (d := 130) (by rfl) (by rfl) (hall ⟨10, .data⟩ (by simp) rfl)
          have e132 := hI.ev (i := 12) (d := 132) (by rfl) (by rfl) (hall ⟨12, .data⟩ (by simp) rfl)
          clear hI hall HW
          unfold Reg.Yields
          go_simp
          exact Reg.good_val (by rfl) (by rfl) (Below.refl _ _)
        refine ⟨Reg.opOK_plain (by rfl) fun G listed A wv hI hall => .inl ⟨Reg.wanted_none rfl, ?_⟩, ?_⟩
        focus
          have e127 := hI.ev (i := 7) (d := 127) (by rfl) (by rfl) (hall ⟨7, .data⟩ (by simp) rfl)
          have e133 := hI.ev (i := 13) (d := 133) (by rfl) (by rfl) (hall ⟨13, .data⟩ (by simp) rfl)
          clear hI hall HW
          unfold Reg.Yields
          go_simp
          exact Reg.good_val (by rfl) (by rfl) (Below.refl _ _)
        refine ⟨Reg.opOK_plain (by rfl) fun G listed A wv hI hall => .inl ⟨Reg.wanted_none rfl, ?_⟩, ?_⟩
        focus
          have e134 := hI.ev (i := 14) (d := 134) (by rfl) (by rfl) (hall ⟨14, .data⟩ (by simp) rfl)
          clear hI hall HW
          unfold Reg.Yields
          go_simp
          exact Reg.good_val (by rfl) (by rfl) (Below.refl _ _)
        refine ⟨Reg.opOK_plain (by rfl) fun G listed A wv hI hall => .inl ⟨(Reg.wanted_some rfl (by rfl) (hI.ev (i := 15) (d := 135) (by rfl) (by rfl) (hall ⟨15, .guard⟩ (by simp) rfl))).trans rfl, ?_⟩, ?_⟩
        focus
          have H := (heldB_below hI.base HW).1
          have e3 := hI.evo (d := 3) (by kernel_rfl) rfl
          clear hI hall HW
          unfold Reg.Yields
          go_simp
          exact Reg.good_val (by rfl) (by rfl) (Below.refl _ _)
        refine ⟨Reg.opOK_plain (by rfl) fun G listed A wv hI hall => .inl ⟨(Reg.wanted_some rfl (by rfl) (hI.ev (i := 15) (d := 135) (by rfl) (by rfl) (hall ⟨15, .guard⟩ (by simp) rfl))).trans rfl, ?_⟩, ?_⟩
        focus
          have H := (heldB_below hI.base HW).1
          have e4 := hI.evo (d := 4) (by kernel_rfl) rfl
          clear hI hall HW
          unfold Reg.Yields
          go_simp
          exact Reg.good_val (by rfl) (by rfl) (Below.refl _ _)
        refine ⟨Reg.opOK_plain (by rfl) fun G listed A wv hI hall => .inl ⟨(Reg.wanted_some rfl (by rfl) (hI.ev (i := 15) (d := 135) (by rfl) (by rfl) (hall ⟨15, .guard⟩ (by simp) rfl))).trans rfl, ?_⟩, ?_⟩
        focus
          have e136 := hI.ev (i := 16) (d := 136) (by rfl) (by rfl) (hall ⟨16, .data⟩ (by simp) rfl)
          have e137 := hI.ev (i := 17) (d := 137) (by rfl) (by rfl) (hall ⟨17, .data⟩ (by simp) rfl)
          clear hI hall HW
          unfold Reg.Yields
          go_simp
          exact (minus_any _ _ _ _ _ _ _ _ _).mono fun e w'' ⟨he, hb⟩ => ⟨_, he, Reg.good_val (by rfl) (by rfl) hb⟩
        refine ⟨Reg.opOK_plain (by rfl) fun G listed A wv hI hall => .inl ⟨(Reg.wanted_some rfl (by rfl) (hI.ev (i := 15) (d := 135) (by rfl) (by rfl) (hall ⟨15, .guard⟩ (by simp) rfl))).trans rfl, ?_⟩, ?_⟩
        focus
          have e11 := hI.evo (d := 11) (by kernel_rfl) rfl
          clear hI hall HW
          unfold Reg.Yields
          go_simp
          exact Reg.good_val (by rfl) (by rfl) (Below.refl _ _)
        refine ⟨Reg.opOK_plain (by rfl) fun G listed A wv hI hall => .inl ⟨(Reg.wanted_some rfl (by rfl) (hI.ev (i := 15) (d := 135) (by rfl) (by rfl) (hall ⟨15, .guard⟩ (by simp) rfl))).trans rfl, ?_⟩, ?_⟩
        focus
          have H := heldB_below hI.base HW
          have e139 := hI.ev (i := 19) (d := 139) (by rfl) (by rfl) (hall ⟨19, .data⟩ (by simp) rfl)
          clear hI hall HW
          unfold Reg.Yields
          go_simp
          exact (make_known (an a (nt x)) (an b (nt y)) (an c (nt z)) (an d (nt u)) H.2.2.2.2.1 (by first | assumption | exact orr_fit _ _ | exact an_fit _ _ | exact nt_fit _ | exact fo_fit _) (by first | assumption | exact orr_fit _ _ | exact an_fit _ _ | exact nt_fit _ | exact fo_fit _) (by first | assumption | exact orr_fit _ _ | exact an_fit _ _ | exact nt_fit _ | exact fo_fit _) (by first | assumption | exact orr_fit _ _ | exact an_fit _ _ | exact nt_fit _ | exact fo_fit _) (fun n _ => (memb_an _ _ _ _ _ _ _ _ n).trans (by rw [memb_nt]))).mono fun e w'' ⟨he, hb⟩ => ⟨_, he, Reg.good_val (by rfl) (by rfl) hb⟩
        refine ⟨Reg.opOK_plain (by rfl) fun G listed A wv hI hall => .inl ⟨(Reg.wanted_some rfl (by rfl) (hI.ev (i := 15) (d := 135) (by rfl) (by rfl) (hall ⟨15, .guard⟩ (by simp) rfl))).trans rfl, ?_⟩, ?_⟩
        focus
          have e138 := hI.ev (i := 18) (d := 138) (by rfl) (by rfl) (hall ⟨18, .data⟩ (by simp) rfl)
          have e140 := hI.ev (i := 20) (d := 140) (by rfl) (by rfl) (hall ⟨20, .data⟩ (by simp) rfl)
          clear hI hall HW
          unfold Reg.Yields
          go_simp
          exact Reg.good_val (by rfl) (by rfl) (Below.refl _ _)
        refine ⟨Reg.opOK_plain (by rfl) fun G listed A wv hI hall => .inl ⟨Reg.wanted_none rfl, ?_⟩, ?_⟩
        focus
          have e135 := hI.ev (i := 15) (d := 135) (by rfl) (by rfl) (hall ⟨15, .data⟩ (by simp) rfl)
          have e141 := hI.ev (i := 21) (d := 141) (by rfl) (by rfl) (hall ⟨21, .data⟩ (by simp) rfl)
          clear hI hall HW
          unfold Reg.Yields
          go_simp
          exact Reg.good_val (by rfl) (by rfl) (Below.refl _ _)
        refine ⟨Reg.opOK_plain (by rfl) fun G listed A wv hI hall => .inl ⟨Reg.wanted_none rfl, ?_⟩, ?_⟩
        focus
          have e142 := hI.ev (i := 22) (d := 142) (by rfl) (by rfl) (hall ⟨22, .data⟩ (by simp) rfl)
          clear hI hall HW
          unfold Reg.Yields
          go_simp
          exact Reg.good_val (by rfl) (by rfl) (Below.refl _ _)
        refine ⟨Reg.opOK_plain (by rfl) fun G listed A wv hI hall => .inl ⟨(Reg.wanted_some rfl (by rfl) (hI.ev (i := 23) (d := 143) (by rfl) (by rfl) (hall ⟨23, .guard⟩ (by simp) rfl))).trans rfl, ?_⟩, ?_⟩
        focus
          have H := (heldB_below hI.base HW).1
          have e3 := hI.evo (d := 3) (by kernel_rfl) rfl
          clear hI hall HW
          unfold Reg.Yields
          go_simp
          exact Reg.good_val (by rfl) (by rfl) (Below.refl _ _)
        refine ⟨Reg.opOK_plain (by rfl) fun G listed A wv hI hall => .inl ⟨(Reg.wanted_some rfl (by rfl) (hI.ev (i := 23) (d := 143) (by rfl) (by rfl) (hall ⟨23, .guard⟩ (by simp) rfl))).trans rfl, ?_⟩, ?_⟩
        focus
          have e144 := hI.ev (i := 24) (d := 144) (by rfl) (by rfl) (hall ⟨24, .data⟩ (by simp) rfl)
          clear hI hall HW
          unfold Reg.Yields
          go_simp
          exact (not_any _ _ _ _ _).mono fun e w'' ⟨he, hb⟩ => ⟨_, he, Reg.good_val (by rfl) (by rfl) hb⟩
        refine ⟨Reg.opOK_plain (by rfl) fun G listed A wv hI hall => .inl ⟨(Reg.wanted_some rfl (by rfl) (hI.ev (i := 23) (d := 143) (by rfl) (by rfl) (hall ⟨23, .guard⟩ (by simp) rfl))).trans rfl, ?_⟩, ?_⟩
        focus
          have e12 := hI.evo (d := 12) (by kernel_rfl) rfl
          clear hI hall HW
          unfold Reg.Yields
          go_simp
          exact Reg.good_val (by rfl) (by rfl) (Below.refl _ _)
        refine ⟨Reg.opOK_plain (by rfl) fun G listed A wv hI hall => .inl ⟨(Reg.wanted_some rfl (by rfl) (hI.ev (i := 23) (d := 143) (by rfl) (by rfl) (hall ⟨23, .guard⟩ (by simp) rfl))).trans rfl, ?_⟩, ?_⟩
        focus
          have H := heldB_below hI.base HW
          have e146 := hI.ev (i := 26) (d := 146) (by rfl) (by rfl) (hall ⟨26, .data⟩ (by simp) rfl)
          clear hI hall HW
          unfold Reg.Yields
          go_simp
          exact (make_known (nt a) (nt b) (nt c) (nt d) H.2.2.2.2.2.1 (by first | assumption | exact orr_fit _ _ | exact an_fit _ _ | exact nt_fit _ | exact fo_fit _) (by first | assumption | exact orr_fit _ _ | exact an_fit _ _ | exact nt_fit _ | exact fo_fit _) (by first | assumption | exact orr_fit _ _ | exact an_fit _ _ | exact nt_fit _ | exact fo_fit _) (by first | assumption | exact orr_fit _ _ | exact an_fit _ _ | exact nt_fit _ | exact fo_fit _) (fun n _ => memb_nt a b c d n)).mono fun e w'' ⟨he, hb⟩ => ⟨_, he, Reg.good_val (by rfl) (by rfl) hb⟩
        refine ⟨Reg.opOK_plain (by rfl) fun G listed A wv hI hall => .inl ⟨(Reg.wanted_some rfl (by rfl) (hI.ev (i := 23) (d := 143) (by rfl) (by rfl) (hall ⟨23, .guard⟩ (by simp) rfl))).trans rfl, ?_⟩, ?_⟩
        focus
          have e145 := hI.ev (i := 25) (d := 145) (by rfl) (by rfl) (hall ⟨25, .data⟩ (by simp) rfl)
          have e147 := hI.ev (i := 27) (d := 147) (by rfl) (by rfl) (hall ⟨27, .data⟩ (by simp) rfl)
          clear hI hall HW
          unfold Reg.Yields
          go_simp
          exact Reg.good_val (by rfl) (by rfl) (Below.refl _ _)
        refine ⟨Reg.opOK_plain (by rfl) fun G listed A wv hI hall => .inl ⟨Reg.wanted_none rfl, ?_⟩, ?_⟩
        focus
          have e143 := hI.ev (i := 23) (d := 143) (by rfl) (by rfl) (hall ⟨23, .data⟩ (by simp) rfl)
          have e148 := hI.ev (i := 28) (d := 148) (by rfl) (by rfl) (hall ⟨28, .data⟩ (by simp) rfl)
          clear hI hall HW
          unfold Reg.Yields
          go_simp
          exact Reg.good_val (by rfl) (by rfl) (Below.refl _ _)
        refine ⟨Reg.opOK_plain (by rfl) fun G listed A wv hI hall => .inl ⟨Reg.wanted_none rfl, ?_⟩, ?_⟩
        focus
          have e149 := hI.ev (i := 29) (d := 149) (by rfl) (by rfl) (hall ⟨29, .data⟩ (by simp) rfl)
          clear hI hall HW
          unfold Reg.Yields
          go_simp
          exact Reg.good_val (by rfl) (by rfl) (Below.refl _ _)
        refine ⟨Reg.opOK_plain (by rfl) fun G listed A wv hI hall => .inl ⟨(Reg.wanted_some rfl (by rfl) (hI.ev (i := 30) (d := 150) (by rfl) (by rfl) (hall ⟨30, .guard⟩ (by simp) rfl))).trans rfl, ?_⟩, ?_⟩
        focus
          have H := (heldB_below hI.base HW).1
          have e3 := hI.evo (d := 3) (by kernel_rfl) rfl
          clear hI hall HW
          unfold Reg.Yields
          go_simp
          exact Reg.good_val (by rfl) (by rfl) (Below.refl _ _)
        refine ⟨Reg.opOK_plain (by rfl) fun G listed A wv hI hall => .inl ⟨(Reg.wanted_some rfl (by rfl) (hI.ev (i := 30) (d := 150) (by rfl) (by rfl) (hall ⟨30, .guard⟩ (by simp) rfl))).trans rfl, ?_⟩, ?_⟩
        focus
          have H := (heldB_below hI.base HW).1
          have e4 := hI.evo (d := 4) (by kernel_rfl) rfl
          clear hI hall HW
          unfold Reg.Yields
          go_simp
          exact Reg.good_val (by rfl) (by rfl) (Below.refl _ _)
        refine ⟨Reg.opOK_plain (by rfl) fun G listed A wv hI hall => .inl ⟨(Reg.wanted_some rfl (by rfl) (hI.ev (i := 30) (d := 150) (by rfl) (by rfl) (hall ⟨30, .guard⟩ (by simp) rfl))).trans rfl, ?_⟩, ?_⟩
        focus
          have e151 := hI.ev (i := 31) (d := 151) (by rfl) (by rfl) (hall ⟨31, .data⟩ (by simp) rfl)
          have e152 := hI.ev (i := 32) (d := 152) (by rfl) (by rfl) (hall ⟨32, .data⟩ (by simp) rfl)
          clear hI hall HW
          unfold Reg.Yields
          go_simp
          exact (within_any _ _ _ _ _ _ _ _ _).mono fun e w'' ⟨he, hb⟩ => ⟨_, he.trans (by rw [within_withk fa fb fc fd]), Reg.good_val (by rfl) (by rfl) hb⟩
        refine ⟨Reg.opOK_plain (by rfl) fun G listed A wv hI hall => .inl ⟨(Reg.wanted_some rfl (by rfl) (hI.ev (i := 30) (d := 150) (by rfl) (by rfl) (hall ⟨30, .guard⟩ (by simp) rfl))).trans rfl, ?_⟩, ?_⟩
        focus
          have e13 := hI.evo (d := 13) (by kernel_rfl) rfl
          clear hI hall HW
          unfold Reg.Yields
          go_simp
          exact Reg.good_val (by rfl) (by rfl) (Below.refl _ _)
        refine ⟨Reg.opOK_plain (by rfl) fun G listed A wv hI hall => .inl ⟨(Reg.wanted_some rfl (by rfl) (hI.ev (i := 30) (d := 150) (by rfl) (by rfl) (hall ⟨30, .guard⟩ (by simp) rfl))).trans rfl, ?_⟩, ?_⟩
        focus
          have e153 := hI.ev (i := 33) (d := 153) (by rfl) (by rfl) (hall ⟨33, .data⟩ (by simp) rfl)
          have e154 := hI.ev (i := 34) (d := 154) (by rfl) (by rfl) (hall ⟨34, .data⟩ (by simp) rfl)
          clear hI hall HW
          unfold Reg.Yields
          go_simp
          exact Reg.good_val (by rfl) (by rfl) (Below.refl _ _)
        refine ⟨Reg.opOK_plain (by rfl) fun G listed A wv hI hall => .inl ⟨Reg.wanted_none rfl, ?_⟩, ?_⟩
        focus
          have e150 := hI.ev (i := 30) (d := 150) (by rfl) (by rfl) (hall ⟨30, .data⟩ (by simp) rfl)
          have e155 := hI.ev (i := 35) (d := 155) (by rfl) (by rfl) (hall ⟨35, .data⟩ (by simp) rfl)
          clear hI hall HW
          unfold Reg.Yields
          go_simp
          exact Reg.good_val (by rfl) (by rfl) (Below.refl _ _)
        refine ⟨Reg.opOK_plain (by rfl) fun G listed A wv hI hall => .inl ⟨Reg.wanted_none rfl, ?_⟩, ?_⟩
        focus
          have e156 := hI.ev (i := 36) (d := 156) (by rfl) (by rfl) (hall ⟨36, .data⟩ (by simp) rfl)
          clear hI hall HW
          unfold Reg.Yields
          go_simp
          exact Reg.good_val (by rfl) (by rfl) (Below.refl _ _)
        refine ⟨Reg.opOK_plain (by rfl) fun G listed A wv hI hall => .inl ⟨(Reg.wanted_some rfl (by rfl) (hI.ev (i := 37) (d := 157) (by rfl) (by rfl) (hall ⟨37, .guard⟩ (by simp) rfl))).trans rfl, ?_⟩, ?_⟩
        focus
          have H := (heldB_below hI.base HW).1
          have e3 := hI.evo (d := 3) (by kernel_rfl) rfl
          clear hI hall HW
          unfold Reg.Yields
          go_simp
          exact Reg.good_val (by rfl) (by rfl) (Below.refl _ _)
        refine ⟨Reg.opOK_plain (by rfl) fun G listed A wv hI hall => .inl ⟨(Reg.wanted_some rfl (by rfl) (hI.ev (i := 37) (d := 157) (by rfl) (by rfl) (hall ⟨37, .guard⟩ (by simp) rfl))).trans rfl, ?_⟩, ?_⟩
        focus
          have e158 := hI.ev (i := 38) (d := 158) (by rfl) (by rfl) (hall ⟨38, .data⟩ (by simp) rfl)
          clear hI hall HW
          unfold Reg.Yields
          go_simp
          exact (fold_any _ _ _ _ _).mono fun e w'' ⟨he, hb⟩ => ⟨_, he, Reg.good_val (by rfl) (by rfl) hb⟩
        refine ⟨Reg.opOK_plain (by rfl) fun G listed A wv hI hall => .inl ⟨(Reg.wanted_some rfl (by rfl) (hI.ev (i := 37) (d := 157) (by rfl) (by rfl) (hall ⟨37, .guard⟩ (by simp) rfl))).trans rfl, ?_⟩, ?_⟩
        focus
          have e14 := hI.evo (d := 14) (by kernel_rfl) rfl
          clear hI hall HW
          unfold Reg.Yields
          go_simp
          exact Reg.good_val (by rfl) (by rfl) (Below.refl _ _)
        refine ⟨Reg.opOK_plain (by rfl) fun G listed A wv hI hall => .inl ⟨(Reg.wanted_some rfl (by rfl) (hI.ev (i := 37) (d := 157) (by rfl) (by rfl) (hall ⟨37, .guard⟩ (by simp) rfl))).trans rfl, ?_⟩, ?_⟩
        focus
          have H := heldB_below hI.base HW
          have e160 := hI.ev (i := 40) (d := 160) (by rfl) (by rfl) (hall ⟨40, .data⟩ (by simp) rfl)
          clear hI hall HW
          unfold Reg.Yields
          go_simp
          exact (make_known a (fo b) c d H.2.2.2.2.2.2 (by first | assumption | exact orr_fit _ _ | exact an_fit _ _ | exact nt_fit _ | exact fo_fit _) (by first | assumption | exact orr_fit _ _ | exact an_fit _ _ | exact nt_fit _ | exact fo_fit _) (by first | assumption | exact orr_fit _ _ | exact an_fit _ _ | exact nt_fit _ | exact fo_fit _) (by first | assumption | exact orr_fit _ _ | exact an_fit _ _ | exact nt_fit _ | exact fo_fit _) (fun n _ => (memb_fo a b c d fb n).trans (foldk_all _ n).symm)).mono fun e w'' ⟨he, hb⟩ => ⟨_, he, Reg.good_val (by rfl) (by rfl) hb⟩
        refine ⟨Reg.opOK_plain (by rfl) fun G listed A wv hI hall => .inl ⟨(Reg.wanted_some rfl (by rfl) (hI.ev (i := 37) (d := 157) (by rfl) (by rfl) (hall ⟨37, .guard⟩ (by simp) rfl))).trans rfl, ?_⟩, ?_⟩
        focus
          have e159 := hI.ev (i := 39) (d := 159) (by rfl) (by rfl) (hall ⟨39, .data⟩ (by simp) rfl)
          have e161 := hI.ev (i := 41) (d := 161) (by rfl) (by rfl) (hall ⟨41, .data⟩ (by simp) rfl)
          clear hI hall HW
          unfold Reg.Yields
          go_simp
          exact Reg.good_val (by rfl) (by rfl) (Below.refl _ _)
        refine ⟨Reg.opOK_plain (by rfl) fun G listed A wv hI hall => .inl ⟨Reg.wanted_none rfl, ?_⟩, ?_⟩
        focus
          have e157 := hI.ev (i := 37) (d := 157) (by rfl) (by rfl) (hall ⟨37, .data⟩ (by simp) rfl)
          have e162 := hI.ev (i := 42) (d := 162) (by rfl) (by rfl) (hall ⟨42, .data⟩ (by simp) rfl)
          clear hI hall HW
          unfold Reg.Yields
          go_simp
          exact Reg.good_val (by rfl) (by rfl) (Below.refl _ _)
        refine ⟨Reg.opOK_plain (by rfl) fun G listed A wv hI hall => .inl ⟨Reg.wanted_none rfl, ?_⟩, ?_⟩
        focus
          have e163 := hI.ev (i := 43) (d := 163) (by rfl) (by rfl) (hall ⟨43, .data⟩ (by simp) rfl)
          clear hI hall HW
          unfold Reg.Yields
          go_simp
          exact Reg.good_val (by rfl) (by rfl) (Below.refl _ _)
        refine ⟨Reg.opOK_plain (by rfl) fun G listed A wv hI hall => .inl ⟨(Reg.wanted_some rfl (by rfl) (hI.ev (i := 44) (d := 164) (by rfl) (by rfl) (hall ⟨44, .guard⟩ (by simp) rfl))).trans rfl, ?_⟩, ?_⟩
        focus
          have H := (heldB_below hI.base HW).1
          have e3 := hI.evo (d := 3) (by kernel_rfl) rfl
          clear hI hall HW
          unfold Reg.Yields
          go_simp
          exact Reg.good_val (by rfl) (by rfl) (Below.refl _ _)
        refine ⟨Reg.opOK_plain (by rfl) fun G listed A wv hI hall => .inl ⟨(Reg.wanted_some rfl (by rfl) (hI.ev (i := 44) (d := 164) (by rfl) (by rfl) (hall ⟨44, .guard⟩ (by simp) rfl))).trans rfl, ?_⟩, ?_⟩
        focus
          have e2 := hI.evo (d := 2) (by kernel_rfl) rfl
          clear hI hall HW
          unfold Reg.Yields
          go_simp
          exact Reg.good_val (by rfl) (by rfl) (Below.refl _ _)
        refine ⟨Reg.opOK_plain (by rfl) fun G listed A wv hI hall => .inl ⟨(Reg.wanted_some rfl (by rfl) (hI.ev (i := 44) (d := 164) (by rfl) (by rfl) (hall ⟨44, .guard⟩ (by simp) rfl))).trans rfl, ?_⟩, ?_⟩
        focus
          have e165 := hI.ev (i := 45) (d := 165) (by rfl) (by rfl) (hall ⟨45, .data⟩ (by simp) rfl)
          have e166 := hI.ev (i := 46) (d := 166) (by rfl) (by rfl) (hall ⟨46, .data⟩ (by simp) rfl)
          clear hI hall HW
          unfold Reg.Yields
          go_simp
          exact (has_any _ _ _ _ _ _ h0 h1).mono fun e w'' ⟨he, hb⟩ => ⟨_, he.trans (by rw [hasW_memb fa fb fc fd h0 h1]), Reg.good_val (by rfl) (by rfl) hb⟩
        refine ⟨Reg.opOK_plain (by rfl) fun G listed A wv hI hall => .inl ⟨(Reg.wanted_some rfl (by rfl) (hI.ev (i := 44) (d := 164) (by rfl) (by rfl) (hall ⟨44, .guard⟩ (by simp) rfl))).trans rfl, ?_⟩, ?_⟩
        focus
          have e7 := hI.evo (d := 7) (by kernel_rfl) rfl
          clear hI hall HW
          unfold Reg.Yields
          go_simp
          exact Reg.good_val (by rfl) (by rfl) (Below.refl _ _)
        refine ⟨Reg.opOK_plain (by rfl) fun G listed A wv hI hall => .inl ⟨(Reg.wanted_some rfl (by rfl) (hI.ev (i := 44) (d := 164) (by rfl) (by rfl) (hall ⟨44, .guard⟩ (by simp) rfl))).trans rfl, ?_⟩, ?_⟩
        focus
          have e2 := hI.evo (d := 2) (by kernel_rfl) rfl
          clear hI hall HW
          unfold Reg.Yields
          go_simp
          exact Reg.good_val (by rfl) (by rfl) (Below.refl _ _)
        refine ⟨Reg.opOK_plain (by rfl) fun G listed A wv hI hall => .inl ⟨(Reg.wanted_some rfl (by rfl) (hI.ev (i := 44) (d := 164) (by rfl) (by rfl) (hall ⟨44, .guard⟩ (by simp) rfl))).trans rfl, ?_⟩, ?_⟩
        focus
          have e168 := hI.ev (i := 48) (d := 168) (by rfl) (by rfl) (hall ⟨48, .data⟩ (by simp) rfl)
          have e169 := hI.ev (i := 49) (d := 169) (by rfl) (by rfl) (hall ⟨49, .data⟩ (by simp) rfl)
          clear hI hall HW
          unfold Reg.Yields
          go_simp
          exact Reg.good_val (by rfl) (by rfl) (Below.refl _ _)
        refine ⟨Reg.opOK_plain (by rfl) fun G listed A wv hI hall => .inl ⟨(Reg.wanted_some rfl (by rfl) (hI.ev (i := 44) (d := 164) (by rfl) (by rfl) (hall ⟨44, .guard⟩ (by simp) rfl))).trans rfl, ?_⟩, ?_⟩
        focus
          have H := (heldB_below hI.base HW).2.1.2 k.toNat (by omega)
          have e170 := hI.ev (i := 50) (d := 170) (by rfl) (by rfl) (hall ⟨50, .data⟩ (by simp) rfl)
          clear hI hall HW
          unfold Reg.Yields
          go_simp
          exact Reg.good_val (by rfl) (by rfl) (Below.refl _ _)
        refine ⟨Reg.opOK_plain (by rfl) fun G listed A wv hI hall => .inl ⟨(Reg.wanted_some rfl (by rfl) (hI.ev (i := 44) (d := 164) (by rfl) (by rfl) (hall ⟨44, .guard⟩ (by simp) rfl))).trans rfl, ?_⟩, ?_⟩
        focus
          have e167 := hI.ev (i := 47) (d := 167) (by rfl) (by rfl) (hall ⟨47, .data⟩ (by simp) rfl)
          have e171 := hI.ev (i := 51) (d := 171) (by rfl) (by rfl) (hall ⟨51, .data⟩ (by simp) rfl)
          clear hI hall HW
          unfold Reg.Yields
          go_simp
          exact Reg.good_val (by rfl) (by rfl) (Below.refl _ _)
        refine ⟨Reg.opOK_plain (by rfl) fun G listed A wv hI hall => .inl ⟨Reg.wanted_none rfl, ?_⟩, ?_⟩
        focus
          have e164 := hI.ev (i := 44) (d := 164) (by rfl) (by rfl) (hall ⟨44, .data⟩ (by simp) rfl)
          have e172 := hI.ev (i := 52) (d := 172) (by rfl) (by rfl) (hall ⟨52, .data⟩ (by simp) rfl)
          clear hI hall HW
          unfold Reg.Yields
          go_simp
          exact Reg.good_val (by rfl) (by rfl) (Below.refl _ _)
        refine ⟨Reg.opOK_plain (by rfl) fun G listed A wv hI hall => .inl ⟨Reg.wanted_none rfl, ?_⟩, ?_⟩
        focus
          have e173 := hI.ev (i := 53) (d := 173) (by rfl) (by rfl) (hall ⟨53, .data⟩ (by simp) rfl)
          clear hI hall HW
          unfold Reg.Yields
          go_simp
          exact Reg.good_val (by rfl) (by rfl) (Below.refl _ _)
        refine ⟨Reg.opOK_plain (by rfl) fun G listed A wv hI hall => .inl ⟨(Reg.wanted_some rfl (by rfl) (hI.ev (i := 54) (d := 174) (by rfl) (by rfl) (hall ⟨54, .guard⟩ (by simp) rfl))).trans rfl, ?_⟩, ?_⟩
        focus
          clear hI hall HW
          unfold Reg.Yields
          go_simp
          exact (union_none _).mono fun e w'' ⟨he, hb⟩ => ⟨_, he, Reg.good_val (by rfl) (by rfl) hb⟩
        refine ⟨Reg.opOK_plain (by rfl) fun G listed A wv hI hall => .inl ⟨(Reg.wanted_some rfl (by rfl) (hI.ev (i := 54) (d := 174) (by rfl) (by rfl) (hall ⟨54, .guard⟩ (by simp) rfl))).trans rfl, ?_⟩, ?_⟩
        focus
          clear hI hall HW
          unfold Reg.Yields
          go_simp
          exact Reg.good_val (by rfl) (by rfl) (Below.refl _ _)
        refine ⟨Reg.opOK_plain (by rfl) fun G listed A wv hI hall => .inl ⟨(Reg.wanted_some rfl (by rfl) (hI.ev (i := 54) (d := 174) (by rfl) (by rfl) (hall ⟨54, .guard⟩ (by simp) rfl))).trans rfl, ?_⟩, ?_⟩
        focus
          have e175 := hI.ev (i := 55) (d := 175) (by rfl) (by rfl) (hall ⟨55, .data⟩ (by simp) rfl)
          have e176 := hI.ev (i := 56) (d := 176) (by rfl) (by rfl) (hall ⟨56, .data⟩ (by simp) rfl)
          clear hI hall HW
          unfold Reg.Yields
          go_simp
          exact Reg.good_val (by rfl) (by rfl) (Below.refl _ _)
        refine ⟨Reg.opOK_plain (by rfl) fun G listed A wv hI hall => .inl ⟨Reg.wanted_none rfl, ?_⟩, ?_⟩
        focus
          have e174 := hI.ev (i := 54) (d := 174) (by rfl) (by rfl) (hall ⟨54, .data⟩ (by simp) rfl)
          have e177 := hI.ev (i := 57) (d := 177) (by rfl) (by rfl) (hall ⟨57, .data⟩ (by simp) rfl)
          clear hI hall HW
          unfold Reg.Yields
          go_simp
          exact Reg.good_val (by rfl) (by rfl) (Below.refl _ _)
        refine ⟨Reg.opOK_plain (by rfl) fun G listed A wv hI hall => .inl ⟨Reg.wanted_none rfl, ?_⟩, ?_⟩
        focus
          have e178 := hI.ev (i := 58) (d := 178) (by rfl) (by rfl) (hall ⟨58, .data⟩ (by simp) rfl)
          clear hI hall HW
          unfold Reg.Yields
          go_simp
          exact Reg.good_val (by rfl) (by rfl) (Below.refl _ _)
        refine ⟨Reg.opOK_plain (by rfl) fun G listed A wv hI hall => .inl ⟨(Reg.wanted_some rfl (by rfl) (hI.ev (i := 59) (d := 179) (by rfl) (by rfl) (hall ⟨59, .guard⟩ (by simp) rfl))).trans rfl, ?_⟩, ?_⟩
        focus
          clear hI hall HW
          unfold Reg.Yields
          go_simp
          exact (awake_any _).mono fun e w'' ⟨he, hb⟩ => ⟨_, he, Reg.good_val (by rfl) (by rfl) hb⟩
        refine ⟨Reg.opOK_plain (by rfl) fun G listed A wv hI hall => .inl ⟨Reg.wanted_none rfl, ?_⟩, ?_⟩
        focus
          have e179 := hI.ev (i := 59) (d := 179) (by rfl) (by rfl) (hall ⟨59, .data⟩ (by simp) rfl)
          have e180 := hI.ev (i := 60) (d := 180) (by rfl) (by rfl) (hall ⟨60, .data⟩ (by simp) rfl)
          clear hI hall HW
          unfold Reg.Yields
          go_simp
          exact Reg.good_val (by rfl) (by rfl) (Below.refl _ _)
        refine ⟨Reg.opOK_plain (by rfl) fun G listed A wv hI hall => .inl ⟨Reg.wanted_none rfl, ?_⟩, ?_⟩
        focus
          have e181 := hI.ev (i := 61) (d := 181) (by rfl) (by rfl) (hall ⟨61, .data⟩ (by simp) rfl)
          clear hI hall HW
          unfold Reg.Yields
          go_simp
          exact Reg.good_val (by rfl) (by rfl) (Below.refl _ _)
        trivial
      intro G w2 hI
      have H := heldB_below hI.base HW
      clear hI HW
      simp [Reg.finalTmps, Reg.dstAt, Reg.valOf, bothTold]
      go_wp2
      go_ret
      exact ⟨rfl, H.1.2.2.2.2⟩
end Go.Proofs.Ytcpdobldconnaaa
