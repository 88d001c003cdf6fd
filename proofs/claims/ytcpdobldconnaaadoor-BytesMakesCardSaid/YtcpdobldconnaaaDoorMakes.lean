/- The law BytesMakes, walked. -/
import Derived.Test.YtcpdobldconnaaaDoorMakes0
import Derived.Test.YtcpdobldconnaaaDoorBytesE
import Derived.Test.YtcpdobldconnaaaDoorRegionX
namespace Go.Proofs.YtcpdobldconnaaaDoor
open Go Go.RowKit
attribute [local go_sem ↓] Go.wp_at_zero Go.wp_at_succ
attribute [local go_sem] eq4
def DoneT (w : World) (e : Ending) (w' : World) : Prop := e = .returned (.bool true) ∧ Below w.heap.size w w'
set_option maxRecDepth 100000 in
set_option maxHeartbeats 2000000 in
theorem makes_long (p : Option Addr) (n cap : Nat) (lo hi : Int) (w : World) (hn : 1000 < n) (_ : n ≤ 9223372036854775807) :
    Calls Tryd.prog 3 #[.slice p n cap, .int .u8 lo, .int .u8 hi] w (DoneT w) := by
  go_enter Tryd.func3, Tryd.ntmps3
  go_wp2_with fail
  refine (awake_any _).mono ?_
  rintro e w1 ⟨rfl, hb1⟩
  go_wp2
  go_ret
  exact ⟨rfl, hb1⟩
theorem heap_first (w : World) (o o' : Obj) : ((w.alloc o).alloc o').heap[w.heap.size]? = some o := by
  rw [Below.heap_alloc _ _ _ (by simp)]; exact heap_new w o
theorem heap_second (w : World) (o o' : Obj) : ((w.alloc o).alloc o').heap[w.heap.size + 1]? = some o' := by
  have h := heap_new (w.alloc o) o'
  rw [World.size_alloc] at h
  exact h
def makesTold (l : Nat → Int) (k lo hi gon gin : Nat) (pv : Option Addr) (cv : Nat) (f z m : Int) (okb : Bool) (xv : Value) : Nat → Reg.Told
  | 0 => .inl (.agg #[.int .u64 (ofw l k 0), .int .u64 (ofw l k 1), .int .u64 (ofw l k 2), .int .u64 (ofw l k 3)])
  | 1 => .inl (.slice (some ⟨gon, 0, none⟩) 256 256)
  | 2 => .inl (.agg #[.int .u64 (ofw l k 0), .int .u64 (ofw l k 1), .int .u64 (ofw l k 2), .int .u64 (ofw l k 3)])
  | 3 => .inl (.bool true)
  | 4 => .inl (.bool true)
  | 5 => .inl (.int .u8 ((lo : Int)))
  | 6 => .inl (.int .u8 ((hi : Int)))
  | 7 => .inl (.agg #[.int .u64 (rgw lo hi 0), .int .u64 (rgw lo hi 1), .int .u64 (rgw lo hi 2), .int .u64 (rgw lo hi 3)])
  | 8 => .inl (.slice (some ⟨gin, 0, none⟩) 256 256)
  | 9 => .inl (.agg #[.int .u64 (rgw lo hi 0), .int .u64 (rgw lo hi 1), .int .u64 (rgw lo hi 2), .int .u64 (rgw lo hi 3)])
  | 10 => .inl (.bool true)
  | 11 => .inl (.bool true)
  | 12 => .inl (.bool true)
  | 13 => .inl (.agg #[.int .u64 (ofw l k 0), .int .u64 (ofw l k 1), .int .u64 (ofw l k 2), .int .u64 (ofw l k 3)])
  | 14 => .inl (xv)
  | 15 => .inl (.slice pv (lst (onr l k) 256).length cv)
  | 16 => .inl (.bool true)
  | 17 => .inl (.bool true)
  | 18 => .inl (.bool true)
  | 19 => .inl (.agg #[.int .u64 (ofw l k 0), .int .u64 (ofw l k 1), .int .u64 (ofw l k 2), .int .u64 (ofw l k 3)])
  | 20 => .inl (.int .i64 (((lst (onr l k) 256).length : Int)))
  | 21 => .inl (.slice pv (lst (onr l k) 256).length cv)
  | 22 => .inl (.int .i64 (((lst (onr l k) 256).length : Int)))
  | 23 => .inl (.bool true)
  | 24 => .inl (.bool true)
  | 25 => .inl (.bool true)
  | 26 => .inl (.bool okb)
  | 27 => .inl (.int .i64 z)
  | 28 => .inl (.bool okb)
  | 29 => .inl (.bool true)
  | 30 => .inl (.bool true)
  | 31 => .inl (.bool true)
  | 32 => .inl (.int .u8 f)
  | 33 => .inl (.int .i64 f)
  | 34 => .inl (.int .i64 z)
  | 35 => .inl (.int .i64 m)
  | 36 => .inl (.bool true)
  | 37 => .inl (.bool true)
  | 38 => .inl (.bool true)
  | 39 => .inl (.bool true)
  | 40 => .inl (.bool true)
  | 41 => .inl (.bool true)
  | _ => .inl undef
set_option maxRecDepth 100000 in
set_option maxHeartbeats 8000000 in
theorem makes_walk (p : Option Addr) (n cap : Nat) (l : Nat → Int) (lo hi : Nat) (w : World) (hl : ByteRow w p n l) (hn : n ≤ 1000) (hlo : lo < 256) (hhi : hi < 256) (hT : Tab w) :
    Calls Tryd.prog 3 #[.slice p n cap, .int .u8 lo, .int .u8 hi] w (DoneT w) := by
  have hmk : ∀ w, (Instr.makeSlice 24 (.int .i64 256) (.int .i64 256)).run Tryd.prog w = .ok (.slice (some ⟨w.heap.size, 0, none⟩) 256 256) (w.alloc (.cells (bl fun _ => false) 4)) := fun _ => by kernel_rfl
  have HL := hid hl
  have HT := hid hT
  obtain ⟨i0, hif, hz0, hz1, hz2⟩ := info_parts Tryd.infoU8
  clear hl hT
  go_enter Tryd.func3, Tryd.ntmps3
  go_wp2_with fail
  go_region
  all_goals clear hmk
  all_goals go_wp2_with fail
  have h1 : M1 w w.heap.size (w.heap.size + 1) l 0 ((w.alloc (Obj.cells (bl fun _ => false) 4)).alloc (Obj.cells (bl fun _ => false) 4)).drew := ⟨heap_first _ _ _, heap_second _ _ _, (below2 _ _ _).drew⟩
  generalize hg1 : w.heap.size + 1 = gin at h1 ⊢
  generalize hg0 : w.heap.size = gon at h1 hg1 ⊢
  generalize ((w.alloc (Obj.cells (bl fun _ => false) 4)).alloc (Obj.cells (bl fun _ => false) 4)).drew = W at h1 ⊢
  rotate_left
  have h1 : M1 w (w.heap.size + 1) w.heap.size l 0 ((w.alloc (Obj.cells (bl fun _ => false) 4)).alloc (Obj.cells (bl fun _ => false) 4)).drew := ⟨heap_second _ _ _, heap_first _ _ _, (below2 _ _ _).drew⟩
  generalize hg1 : w.heap.size + 1 = gon at h1 ⊢
  generalize hg0 : w.heap.size = gin at h1 hg1 ⊢
  generalize ((w.alloc (Obj.cells (bl fun _ => false) 4)).alloc (Obj.cells (bl fun _ => false) 4)).drew = W at h1 ⊢
  all_goals
    have hne : gon ≠ gin := by omega
    have hw1 : w.heap.size ≤ gon := by omega
    have hw2 : w.heap.size ≤ gin := by omega
    have H1 := hid h1
    have HNE := hid hne
    clear h1 hg0 hg1 hne
    go_loopw [9] (fun i wr => ∃ k : Nat, k ≤ n ∧ i = .int .i64 k ∧ M1 w gon gin l k wr) (fun i _ => n - (intOf i).toNat)
    case atStart => exact ⟨0, by omega, rfl, H1.out⟩
    case round =>
      obtain ⟨k, hk, rfl, hm⟩ := hrel
      have HM := hid hm
      clear hm H1
      by_cases hlt : k < n
      · obtain ⟨g, o, rfl, hg, hc⟩ := HL.out.2.2.2.resolve_left (by omega)
        have hcell := (HM.out.2.2.cell (p := ⟨g, o + k, none⟩) hg).trans (hc k hlt)
        obtain ⟨j, hj⟩ := Int.eq_ofNat_of_zero_le (HL.out.2.1 k)
        have hj1 := HL.out.2.2.1 k
        have hj2 : j < 256 := by omega
        rw [hj] at hcell
        have HS := hid (HM.out.step HNE.out hw1 hj)
        have hq := (Joins.cell_of_block HM.out.1 j).trans (bl_at _ j hj2)
        have hf := Joins.unfrozen_of_block HM.out.1 j
        have hjI : (j : Int) < 256 := by omega
        clear hc hj hj1
        go_wp2_with fail
        exact ⟨⟨k + 1, by omega, by go_num, HS.out⟩, by simp [intOf]; omega⟩
      · have e1 : k = n := by omega
        subst e1
        obtain ⟨B, hB⟩ : ∃ B, wr.heap.size = B := ⟨_, rfl⟩
        have hB0 : gon < B := by have := sizeOfGet HM.out.1; omega
        have hB1 : gin < B := by have := sizeOfGet HM.out.2.1; omega
        have hwB : w.heap.size ≤ B := by omega
        have HM2 : Hid (M2 w gon gin B (onr l k) lo hi 0 (.slice none 0 0) wr) := ⟨HM.out.1, by rw [show bl (inr lo hi 0) = bl fun _ => false from bl_congr fun i _ => by simp [inr]]; exact HM.out.2.1, World.ownsRow_nil wr B 5 1, by omega, HM.out.2.2⟩
        clear HM hB
        go_wp2_with fail
        go_loopw [10, 11] (fun v i wr' => ∃ b : Nat, b ≤ 256 ∧ i = .int .i64 b ∧ M2 w gon gin B (onr l k) lo hi b v wr') (fun _ i _ => 256 - (intOf i).toNat)
        case atStart => exact ⟨0, by omega, rfl, HM2.out⟩
        case round =>
          clear HM2
          obtain ⟨b, hb, rfl, hm⟩ := hrel
          have HM := hid hm
          clear hm
          by_cases hb256 : b < 256
          · have qon := (Joins.cell_of_block HM.out.1 b).trans (bl_at _ b hb256)
            have qin := (Joins.cell_of_block HM.out.2.1 b).trans (bl_at _ b hb256)
            have fin := Joins.unfrozen_of_block HM.out.2.1 b
            have n0 : ¬ gon = gin := HNE.out
            have n1 : ¬ gin = gon := fun e => HNE.out e.symm
            have hll := lst_le (onr l k) b
            have hBr := HM.out.2.2.2.1
            have hu8 : IntKind.u8.wrap (b : Int) = (b : Int) := by simp [IntKind.wrap, IntKind.signed, IntKind.bits]; omega
            have hcase : (lo ≤ b ∧ b ≤ hi) ∨ (¬ lo ≤ b) ∨ (lo ≤ b ∧ ¬ b ≤ hi) := by omega
            cases hf : onr l k b
            · have HF := hid hf
              rw [hf] at qon
              clear hf
              rcases hcase with ⟨c1, c2⟩ | c1 | ⟨c1, c2⟩
              · have HX := hid (show true = decide (lo ≤ b ∧ b ≤ hi) by simp [c1, c2])
                go_wp2_with fail
                exact ⟨⟨b + 1, by omega, by go_num, HM.out.no HNE.out hw2 hB1 HX.out HF.out⟩, by simp [intOf]; omega⟩
              · have HX := hid (show false = decide (lo ≤ b ∧ b ≤ hi) by simp [c1])
                have c1' : b < lo := by omega
                clear c1
                go_wp2_with fail
                exact ⟨⟨b + 1, by omega, by go_num, HM.out.no HNE.out hw2 hB1 HX.out HF.out⟩, by simp [intOf]; omega⟩
              · have HX := hid (show false = decide (lo ≤ b ∧ b ≤ hi) by simp [c2])
                have d2 : decide (b ≤ hi) = false := by simp; omega
                clear c2
                go_wp2_with fail
                exact ⟨⟨b + 1, by omega, by go_num, HM.out.no HNE.out hw2 hB1 HX.out HF.out⟩, by simp [intOf]; omega⟩
            · have HF := hid hf
              rw [hf] at qon
              clear hf
              have hX : ∃ X : Bool, X = decide (lo ≤ b ∧ b ≤ hi) ∧ ((X = true ∧ lo ≤ b ∧ b ≤ hi) ∨ (X = false ∧ b < lo) ∨ (X = false ∧ lo ≤ b ∧ hi < b)) := by
                rcases hcase with ⟨c1, c2⟩ | c1 | ⟨c1, c2⟩
                · exact ⟨true, by simp [c1, c2], .inl ⟨rfl, c1, c2⟩⟩
                · exact ⟨false, by simp [c1], .inr (.inl ⟨rfl, by omega⟩)⟩
                · exact ⟨false, by simp [c2], .inr (.inr ⟨rfl, c1, by omega⟩)⟩
              obtain ⟨X, hX, hcs⟩ := hX
              have HX := hid hX
              clear hX hcase
              have HZ : Hid (∀ (v : Value) (o : Obj), B ≤ ((wr.setCell ⟨gin, b, none⟩ v).alloc o).heap.size) := fun v o => by rw [World.size_alloc, size_set]; omega
              have hd : (X = true ∧ lo ≤ b ∧ b ≤ hi) ∨ (X = false ∧ b < lo) ∨ (X = false ∧ lo ≤ b ∧ decide (b ≤ hi) = false) := by
                rcases hcs with h | h | ⟨h1, h2, h3⟩
                · exact .inl h
                · exact .inr (.inl h)
                · exact .inr (.inr ⟨h1, h2, by simp; omega⟩)
              clear hcs
              rcases hd with ⟨rfl, c1, c2⟩ | ⟨rfl, c1⟩ | ⟨rfl, c1, c2⟩
              all_goals
                go_wp2_with (at_builtin; refine wpList_append_own_at _ rfl (.tmp 55) (.tmp 58) 22 rfl B 5 i0 (.int .u8 0) 1 1 Tryd.underlying22 hif hz0 hz1 hz2 rfl (by decide) _ _ _ rfl (ownsAlloc (ownsSet HM.out.2.2.1 hB1 _ _) _) ⟨_, 0, none⟩ 1 1 _ rfl rfl (cell_one_set _ _ _ _ _) (one_u8 _) (by unfold maxLen; omega) (by omega) (HZ.out _ _) ?_; intro v1 w1a ho hgr _ hat; have HN := hid (HM.out.yes HNE.out hw2 hB0 hB1 hwB HX.out HF.out ho hgr); clear ho hgr hat)
                exact ⟨⟨b + 1, by omega, by go_num, HN.out⟩, by simp [intOf]; omega⟩
          · have e2 : b = 256 := by omega
            subst e2
            have HB := hid (HL.out.below HM.out.2.2.2.2 (Nat.le_refl _))
            have HTw := hid (HT.out.up HM.out.2.2.2.2)
            have hsw := HM.out.2.2.2.2.size
            have HBW := hid HM.out.2.2.2.2
            have HON := hid (bools_of_block HM.out.1)
            have HIN := hid (bools_of_block HM.out.2.1)
            have HBY := hid (bytes_of_row HM.out.2.2.1)
            clear HM
            go_wp2_with fail
            refine (of_row HB.out hn).mono ?_
            rintro e w1 ⟨rfl, hb1⟩
            have HON1 := hid (HON.out.below hb1 HON.out.1)
            have HIN1 := hid (HIN.out.below hb1 HIN.out.1)
            have HBY1 := hid (HBY.out.1.below hb1 (Nat.le_refl _))
            have HT1 := hid (HTw.out.up hb1)
            have HW1 := hid (HBW.out.trans (hb1.mono hsw))
            have hs1 := hb1.size
            clear hb1 HON HIN HTw HBW
            go_wp2_with fail
            generalize hws : w1.alloc _ = ws
            have HS : HeldS ws w1.heap.size (ofw l k 0) (ofw l k 1) (ofw l k 2) (ofw l k 3) ws := by
              subst hws
              exact ⟨⟨by simp [go_sem], by simp [go_sem], by simp [go_sem], by simp [go_sem]⟩, by simp, Below.refl _ _⟩
            have hba : Below w1.heap.size w1 ws := by subst hws; exact below1 _ _
            clear hws
            generalize w1.heap.size = gs at HS ⊢
            have HLST := hid (show lst (memb (ofw l k 0) (ofw l k 1) (ofw l k 2) (ofw l k 3)) 256 = lst (onr l k) 256 from lst_congr fun n hn => memb_ofw l HL.out.2.1 HL.out.2.2.1 k n hn)
            have HMEM := hid (fun n (hn : n < 256) => memb_ofw l HL.out.2.1 HL.out.2.2.1 k n hn)
            have HPW := hid (show pw (ofw l k 0) + pw (ofw l k 1) + pw (ofw l k 2) + pw (ofw l k 3) = ((lst (onr l k) 256).length : Int) by rw [pw_lst (ofw_fit l k 0) (ofw_fit l k 1) (ofw_fit l k 2) (ofw_fit l k 3), HLST.out])
            have HFIT := hid (fun j : Int => ofw_fit l k j)
            obtain ⟨pv, cv, hv⟩ := HBY1.out.slice
            subst hv
            refine (first_any _ _ _ _ _ (ofw_fit _ _ _) (ofw_fit _ _ _) (ofw_fit _ _ _) (ofw_fit _ _ _) (HT1.out.up hba)).mono ?_
            rintro e w2 ⟨v, rfl, hfv, hb2⟩
            have HS2 := heldS_below hb2 HS
            have hb12 := hba.trans (hb2.mono hba.size)
            clear hba HS hb2
            have HFV := hid hfv
            have HB12 := hid hb12
            have HHS := hid HS2
            have hvv : v = .tuple #[.int .u8 0, .bool false] ∨ ∃ n : Nat, n < 256 ∧ v = .tuple #[.int .u8 n, .bool true] := by
              rcases hfv with ⟨_, hv⟩ | ⟨n, hn, _, _, hv⟩
              · exact .inl hv
              · exact .inr ⟨n, hn, hv⟩
            clear hfv hb12
            rcases hvv with hv | ⟨nf, hnf, hv⟩
            all_goals
              subst hv
              go_wp2_with fail
              refine (reffirst_any _ _ _ _ _ (ofw_fit _ _ _) (ofw_fit _ _ _) (ofw_fit _ _ _) (ofw_fit _ _ _)).mono ?_
              rintro e w3 ⟨z, rfl, hz, hb3⟩
              have hzz := firsts HFV.out hz
              have HH3 := hid (heldS_below hb3 HHS.out)
              clear hz
            · have hz1 : z = -1 := by
                rcases hzz with ⟨_, h⟩ | ⟨n, _, h, _⟩
                · exact h
                · simp at h
              subst hz1
              clear hzz
              have HONs := hid (HON1.out.below (HB12.out.trans (hb3.mono HB12.out.size)) HON1.out.1)
              have HINs := hid (HIN1.out.below (HB12.out.trans (hb3.mono HB12.out.size)) HIN1.out.1)
              have HBYs := hid (HBY1.out.below (HB12.out.trans (hb3.mono HB12.out.size)) (Nat.le_refl _))
              have HWs := hid (HW1.out.trans ((HB12.out.trans (hb3.mono HB12.out.size)).mono HW1.out.size))
              have HS3 : HeldS w3 gs (ofw l k 0) (ofw l k 1) (ofw l k 2) (ofw l k 3) w3 := ⟨HH3.out.1, HH3.out.2.1, Below.refl _ _⟩
              have HW := heldS_below (Below.refl _ w3).drew HS3
              clear HON1 HIN1 HBY1 HW1 HB12 HHS HFV HS2 hb3 HT1 HT HS3 HH3
              go_wp2_with fail
              refine Reg.wp_region_toldX (makesTold l k lo hi gon gin pv cv 0 (-1) 0 false) 14 (fun v w => BytesAt w v (lst (onr l k) 256)) [0, 1, 2, 3, 4, 5, 6, 7, 8, 9, 10, 11, 12, 13, 14, 15, 16, 17, 18, 19, 20, 21, 22, 23, 24, 25, 26, 27, 28, 29, 30, 31, 32, 33, 34, 35, 36, 37, 38, 39, 40, 41] (by kernel_rfl) (by kernel_rfl) (by kernel_rfl) (fun x w w' h hb => h.below hb (Nat.le_refl _)) (fun x x' i hi => by unfold makesTold; split <;> first | rfl | exact absurd rfl hi) (by decide) ?_ ?_
              focus
                  refine ⟨Reg.opOKX_val (by decide) fun xv G listed A wv hI hP hall => .inl ⟨Reg.wanted_none rfl, ?_⟩, ?_⟩
                  focus
                    have H := heldS_below hI.base HW
                    have e12 := hI.evo (d := 12) (by kernel_rfl) rfl
                    clear hI hP hall HW
                    unfold Reg.Yields
                    go_simp
                    exact Reg.good_val (by rfl) (by rfl) (Below.refl _ _)
                  refine ⟨Reg.opOKX_val (by decide) fun xv G listed A wv hI hP hall => .inl ⟨Reg.wanted_none rfl, ?_⟩, ?_⟩
                  focus
                    have e7 := hI.evo (d := 7) (by kernel_rfl) rfl
                    clear hI hP hall HW
                    unfold Reg.Yields
                    go_simp
                    exact Reg.good_val (by rfl) (by rfl) (Below.refl _ _)
                  refine ⟨Reg.opOKX_val (by decide) fun xv G listed A wv hI hP hall => .inl ⟨Reg.wanted_none rfl, ?_⟩, ?_⟩
                  focus
                    have H := heldS_below hI.base HW
                    have e70 := hI.ev (i := 1) (d := 70) (by rfl) (by rfl) (hall ⟨1, .data⟩ (by simp) rfl)
                    clear hI hP hall HW
                    unfold Reg.Yields
                    go_simp
                    exact (make_at (g := gon) (ofw l k 0) (ofw l k 1) (ofw l k 2) (ofw l k 3) HONs.out H (HFIT.out _) (HFIT.out _) (HFIT.out _) (HFIT.out _) HMEM.out).mono fun e w'' ⟨he, hb⟩ => ⟨_, he, Reg.good_val (by rfl) (by rfl) hb⟩
                  refine ⟨Reg.opOKX_val (by decide) fun xv G listed A wv hI hP hall => .inl ⟨Reg.wanted_none rfl, ?_⟩, ?_⟩
                  focus
                    have e69 := hI.ev (i := 0) (d := 69) (by rfl) (by rfl) (hall ⟨0, .data⟩ (by simp) rfl)
                    have e71 := hI.ev (i := 2) (d := 71) (by rfl) (by rfl) (hall ⟨2, .data⟩ (by simp) rfl)
                    clear hI hP hall HW
                    unfold Reg.Yields
                    go_simp
                    exact Reg.good_val (by rfl) (by rfl) (Below.refl _ _)
                  refine ⟨Reg.opOKX_val (by decide) fun xv G listed A wv hI hP hall => .inl ⟨Reg.wanted_none rfl, ?_⟩, ?_⟩
                  focus
                    have e72 := hI.ev (i := 3) (d := 72) (by rfl) (by rfl) (hall ⟨3, .data⟩ (by simp) rfl)
                    clear hI hP hall HW
                    unfold Reg.Yields
                    go_simp
                    exact Reg.good_val (by rfl) (by rfl) (Below.refl _ _)
                  refine ⟨Reg.opOKX_val (by decide) fun xv G listed A wv hI hP hall => .inl ⟨(Reg.wanted_some rfl (by rfl) (hI.ev (i := 4) (d := 73) (by rfl) (by rfl) (hall ⟨4, .guard⟩ (by simp) rfl))).trans rfl, ?_⟩, ?_⟩
                  focus
                    have e1 := hI.evo (d := 1) (by kernel_rfl) rfl
                    clear hI hP hall HW
                    unfold Reg.Yields
                    go_simp
                    exact Reg.good_val (by rfl) (by rfl) (Below.refl _ _)
                  refine ⟨Reg.opOKX_val (by decide) fun xv G listed A wv hI hP hall => .inl ⟨(Reg.wanted_some rfl (by rfl) (hI.ev (i := 4) (d := 73) (by rfl) (by rfl) (hall ⟨4, .guard⟩ (by simp) rfl))).trans rfl, ?_⟩, ?_⟩
                  focus
                    have e2 := hI.evo (d := 2) (by kernel_rfl) rfl
                    clear hI hP hall HW
                    unfold Reg.Yields
                    go_simp
                    exact Reg.good_val (by rfl) (by rfl) (Below.refl _ _)
                  refine ⟨Reg.opOKX_val (by decide) fun xv G listed A wv hI hP hall => .inl ⟨(Reg.wanted_some rfl (by rfl) (hI.ev (i := 4) (d := 73) (by rfl) (by rfl) (hall ⟨4, .guard⟩ (by simp) rfl))).trans rfl, ?_⟩, ?_⟩
                  focus
                    have e74 := hI.ev (i := 5) (d := 74) (by rfl) (by rfl) (hall ⟨5, .data⟩ (by simp) rfl)
                    have e75 := hI.ev (i := 6) (d := 75) (by rfl) (by rfl) (hall ⟨6, .data⟩ (by simp) rfl)
                    clear hI hP hall HW
                    unfold Reg.Yields
                    go_simp
                    exact (range_any lo hi hlo hhi _).mono fun e w'' ⟨he, hb⟩ => ⟨_, he, Reg.good_val (by rfl) (by rfl) hb⟩
                  refine ⟨Reg.opOKX_val (by decide) fun xv G listed A wv hI hP hall => .inl ⟨(Reg.wanted_some rfl (by rfl) (hI.ev (i := 4) (d := 73) (by rfl) (by rfl) (hall ⟨4, .guard⟩ (by simp) rfl))).trans rfl, ?_⟩, ?_⟩
                  focus
                    have e8 := hI.evo (d := 8) (by kernel_rfl) rfl
                    clear hI hP hall HW
                    unfold Reg.Yields
                    go_simp
                    exact Reg.good_val (by rfl) (by rfl) (Below.refl _ _)
                  refine ⟨Reg.opOKX_val (by decide) fun xv G listed A wv hI hP hall => .inl ⟨(Reg.wanted_some rfl (by rfl) (hI.ev (i := 4) (d := 73) (by rfl) (by rfl) (hall ⟨4, .guard⟩ (by simp) rfl))).trans rfl, ?_⟩, ?_⟩
                  focus
                    have H := heldS_below hI.base HW
                    have e77 := hI.ev (i := 8) (d := 77) (by rfl) (by rfl) (hall ⟨8, .data⟩ (by simp) rfl)
                    clear hI hP hall HW
                    unfold Reg.Yields
                    go_simp
                    exact (make_at (g := gin) (rgw lo hi 0) (rgw lo hi 1) (rgw lo hi 2) (rgw lo hi 3) HINs.out H (rgw_fit _ _ _) (rgw_fit _ _ _) (rgw_fit _ _ _) (rgw_fit _ _ _) (fun n hn => inr_all lo hi n hn hhi)).mono fun e w'' ⟨he, hb⟩ => ⟨_, he, Reg.good_val (by rfl) (by rfl) hb⟩
                  refine ⟨Reg.opOKX_val (by decide) fun xv G listed A wv hI hP hall => .inl ⟨(Reg.wanted_some rfl (by rfl) (hI.ev (i := 4) (d := 73) (by rfl) (by rfl) (hall ⟨4, .guard⟩ (by simp) rfl))).trans rfl, ?_⟩, ?_⟩
                  focus
                    have e76 := hI.ev (i := 7) (d := 76) (by rfl) (by rfl) (hall ⟨7, .data⟩ (by simp) rfl)
                    have e78 := hI.ev (i := 9) (d := 78) (by rfl) (by rfl) (hall ⟨9, .data⟩ (by simp) rfl)
                    clear hI hP hall HW
                    unfold Reg.Yields
                    go_simp
                    exact Reg.good_val (by rfl) (by rfl) (Below.refl _ _)
                  refine ⟨Reg.opOKX_val (by decide) fun xv G listed A wv hI hP hall => .inl ⟨Reg.wanted_none rfl, ?_⟩, ?_⟩
                  focus
                    have e73 := hI.ev (i := 4) (d := 73) (by rfl) (by rfl) (hall ⟨4, .data⟩ (by simp) rfl)
                    have e79 := hI.ev (i := 10) (d := 79) (by rfl) (by rfl) (hall ⟨10, .data⟩ (by simp) rfl)
                    clear hI hP hall HW
                    unfold Reg.Yields
                    go_simp
                    exact Reg.good_val (by rfl) (by rfl) (Below.refl _ _)
                  refine ⟨Reg.opOKX_val (by decide) fun xv G listed A wv hI hP hall => .inl ⟨Reg.wanted_none rfl, ?_⟩, ?_⟩
                  focus
                    have e80 := hI.ev (i := 11) (d := 80) (by rfl) (by rfl) (hall ⟨11, .data⟩ (by simp) rfl)
                    clear hI hP hall HW
                    unfold Reg.Yields
                    go_simp
                    exact Reg.good_val (by rfl) (by rfl) (Below.refl _ _)
                  refine ⟨Reg.opOKX_val (by decide) fun xv G listed A wv hI hP hall => .inl ⟨(Reg.wanted_some rfl (by rfl) (hI.ev (i := 12) (d := 81) (by rfl) (by rfl) (hall ⟨12, .guard⟩ (by simp) rfl))).trans rfl, ?_⟩, ?_⟩
                  focus
                    have H := heldS_below hI.base HW
                    have e12 := hI.evo (d := 12) (by kernel_rfl) rfl
                    clear hI hP hall HW
                    unfold Reg.Yields
                    go_simp
                    exact Reg.good_val (by rfl) (by rfl) (Below.refl _ _)
                  refine ⟨Reg.opOKX_var fun xv G listed A wv hI hall => ⟨(Reg.wanted_some rfl (by rfl) (hI.ev (i := 12) (d := 81) (by rfl) (by rfl) (hall ⟨12, .guard⟩ (by simp) rfl))).trans rfl, ?_⟩, ?_⟩
                  focus
                    have e82 := hI.ev (i := 13) (d := 82) (by rfl) (by rfl) (hall ⟨13, .data⟩ (by simp) rfl)
                    clear hI hall HW
                    unfold Reg.Yields
                    go_simp
                    exact (list_any _ _ _ _ _ (HFIT.out _) (HFIT.out _) (HFIT.out _) (HFIT.out _)).mono fun e w'' ⟨vl, he, hv, hb⟩ => ⟨vl, he, hb, rfl, by rw [HLST.out] at hv; exact hv⟩
                  refine ⟨Reg.opOKX_val (by decide) fun xv G listed A wv hI hP hall => .inl ⟨(Reg.wanted_some rfl (by rfl) (hI.ev (i := 12) (d := 81) (by rfl) (by rfl) (hall ⟨12, .guard⟩ (by simp) rfl))).trans rfl, ?_⟩, ?_⟩
                  focus
                    have e10 := hI.evo (d := 10) (by kernel_rfl) rfl
                    clear hI hP hall HW
                    unfold Reg.Yields
                    go_simp
                    exact Reg.good_val (by rfl) (by rfl) (Below.refl _ _)
                  refine ⟨Reg.opOKX_val (by decide) fun xv G listed A wv hI hP hall => .inl ⟨(Reg.wanted_some rfl (by rfl) (hI.ev (i := 12) (d := 81) (by rfl) (by rfl) (hall ⟨12, .guard⟩ (by simp) rfl))).trans rfl, ?_⟩, ?_⟩
                  focus
                    have H := heldS_below hI.base HW
                    have HVL := hP (hall ⟨14, .data⟩ (by simp) rfl)
                    have e83 := hI.ev (i := 14) (d := 83) (by rfl) (by rfl) (hall ⟨14, .data⟩ (by simp) rfl)
                    have e84 := hI.ev (i := 15) (d := 84) (by rfl) (by rfl) (hall ⟨15, .data⟩ (by simp) rfl)
                    clear hI hP hall HW
                    unfold Reg.Yields
                    go_simp
                    exact (refbytes_same HVL (bytes_held HBYs.out H)).mono fun e w'' ⟨he, hb⟩ => ⟨_, he, Reg.good_val (by rfl) (by rfl) (by rw [hb]; exact Below.refl _ _)⟩
                  refine ⟨Reg.opOKX_val (by decide) fun xv G listed A wv hI hP hall => .inl ⟨Reg.wanted_none rfl, ?_⟩, ?_⟩
                  focus
                    have e81 := hI.ev (i := 12) (d := 81) (by rfl) (by rfl) (hall ⟨12, .data⟩ (by simp) rfl)
                    have e85 := hI.ev (i := 16) (d := 85) (by rfl) (by rfl) (hall ⟨16, .data⟩ (by simp) rfl)
                    clear hI hP hall HW
                    unfold Reg.Yields
                    go_simp
                    exact Reg.good_val (by rfl) (by rfl) (Below.refl _ _)
                  refine ⟨Reg.opOKX_val (by decide) fun xv G listed A wv hI hP hall => .inl ⟨Reg.wanted_none rfl, ?_⟩, ?_⟩
                  focus
                    have e86 := hI.ev (i := 17) (d := 86) (by rfl) (by rfl) (hall ⟨17, .data⟩ (by simp) rfl)
                    clear hI hP hall HW
                    unfold Reg.Yields
                    go_simp
                    exact Reg.good_val (by rfl) (by rfl) (Below.refl _ _)
                  refine ⟨Reg.opOKX_val (by decide) fun xv G listed A wv hI hP hall => .inl ⟨(Reg.wanted_some rfl (by rfl) (hI.ev (i := 18) (d := 87) (by rfl) (by rfl) (hall ⟨18, .guard⟩ (by simp) rfl))).trans rfl, ?_⟩, ?_⟩
                  focus
                    have H := heldS_below hI.base HW
                    have e12 := hI.evo (d := 12) (by kernel_rfl) rfl
                    clear hI hP hall HW
                    unfold Reg.Yields
                    go_simp
                    exact Reg.good_val (by rfl) (by rfl) (Below.refl _ _)
                  refine ⟨Reg.opOKX_val (by decide) fun xv G listed A wv hI hP hall => .inl ⟨(Reg.wanted_some rfl (by rfl) (hI.ev (i := 18) (d := 87) (by rfl) (by rfl) (hall ⟨18, .guard⟩ (by simp) rfl))).trans rfl, ?_⟩, ?_⟩
                  focus
                    have e88 := hI.ev (i := 19) (d := 88) (by rfl) (by rfl) (hall ⟨19, .data⟩ (by simp) rfl)
                    clear hI hP hall HW
                    unfold Reg.Yields
                    go_simp
                    exact (count_any _ _ _ _ _ (HFIT.out _) (HFIT.out _) (HFIT.out _) (HFIT.out _)).mono fun e w'' ⟨he, hb⟩ => ⟨_, he.trans (by rw [HPW.out]), Reg.good_val (by rfl) (by rfl) hb⟩
                  refine ⟨Reg.opOKX_val (by decide) fun xv G listed A wv hI hP hall => .inl ⟨(Reg.wanted_some rfl (by rfl) (hI.ev (i := 18) (d := 87) (by rfl) (by rfl) (hall ⟨18, .guard⟩ (by simp) rfl))).trans rfl, ?_⟩, ?_⟩
                  focus
                    have e10 := hI.evo (d := 10) (by kernel_rfl) rfl
                    clear hI hP hall HW
                    unfold Reg.Yields
                    go_simp
                    exact Reg.good_val (by rfl) (by rfl) (Below.refl _ _)
                  refine ⟨Reg.opOKX_val (by decide) fun xv G listed A wv hI hP hall => .inl ⟨(Reg.wanted_some rfl (by rfl) (hI.ev (i := 18) (d := 87) (by rfl) (by rfl) (hall ⟨18, .guard⟩ (by simp) rfl))).trans rfl, ?_⟩, ?_⟩
                  focus
                    have e90 := hI.ev (i := 21) (d := 90) (by rfl) (by rfl) (hall ⟨21, .data⟩ (by simp) rfl)
                    clear hI hP hall HW
                    unfold Reg.Yields
                    go_simp
                    exact Reg.good_val (by rfl) (by rfl) (Below.refl _ _)
                  refine ⟨Reg.opOKX_val (by decide) fun xv G listed A wv hI hP hall => .inl ⟨(Reg.wanted_some rfl (by rfl) (hI.ev (i := 18) (d := 87) (by rfl) (by rfl) (hall ⟨18, .guard⟩ (by simp) rfl))).trans rfl, ?_⟩, ?_⟩
                  focus
                    have e89 := hI.ev (i := 20) (d := 89) (by rfl) (by rfl) (hall ⟨20, .data⟩ (by simp) rfl)
                    have e91 := hI.ev (i := 22) (d := 91) (by rfl) (by rfl) (hall ⟨22, .data⟩ (by simp) rfl)
                    clear hI hP hall HW
                    unfold Reg.Yields
                    go_simp
                    exact Reg.good_val (by rfl) (by rfl) (Below.refl _ _)
                  refine ⟨Reg.opOKX_val (by decide) fun xv G listed A wv hI hP hall => .inl ⟨Reg.wanted_none rfl, ?_⟩, ?_⟩
                  focus
                    have e87 := hI.ev (i := 18) (d := 87) (by rfl) (by rfl) (hall ⟨18, .data⟩ (by simp) rfl)
                    have e92 := hI.ev (i := 23) (d := 92) (by rfl) (by rfl) (hall ⟨23, .data⟩ (by simp) rfl)
                    clear hI hP hall HW
                    unfold Reg.Yields
                    go_simp
                    exact Reg.good_val (by rfl) (by rfl) (Below.refl _ _)
                  refine ⟨Reg.opOKX_val (by decide) fun xv G listed A wv hI hP hall => .inl ⟨Reg.wanted_none rfl, ?_⟩, ?_⟩
                  focus
                    have e93 := hI.ev (i := 24) (d := 93) (by rfl) (by rfl) (hall ⟨24, .data⟩ (by simp) rfl)
                    clear hI hP hall HW
                    unfold Reg.Yields
                    go_simp
                    exact Reg.good_val (by rfl) (by rfl) (Below.refl _ _)
                  refine ⟨Reg.opOKX_val (by decide) fun xv G listed A wv hI hP hall => .inl ⟨(Reg.wanted_some rfl (by rfl) (hI.ev (i := 25) (d := 94) (by rfl) (by rfl) (hall ⟨25, .guard⟩ (by simp) rfl))).trans rfl, ?_⟩, ?_⟩
                  focus
                    have e14 := hI.evo (d := 14) (by kernel_rfl) rfl
                    clear hI hP hall HW
                    unfold Reg.Yields
                    go_simp
                    exact Reg.good_val (by rfl) (by rfl) (Below.refl _ _)
                  refine ⟨Reg.opOKX_val (by decide) fun xv G listed A wv hI hP hall => .inl ⟨(Reg.wanted_some rfl (by rfl) (hI.ev (i := 25) (d := 94) (by rfl) (by rfl) (hall ⟨25, .guard⟩ (by simp) rfl))).trans rfl, ?_⟩, ?_⟩
                  focus
                    have e15 := hI.evo (d := 15) (by kernel_rfl) rfl
                    clear hI hP hall HW
                    unfold Reg.Yields
                    go_simp
                    exact Reg.good_val (by rfl) (by rfl) (Below.refl _ _)
                  refine ⟨Reg.opOKX_val (by decide) fun xv G listed A wv hI hP hall => .inl ⟨(Reg.wanted_some rfl (by rfl) (hI.ev (i := 25) (d := 94) (by rfl) (by rfl) (hall ⟨25, .guard⟩ (by simp) rfl))).trans rfl, ?_⟩, ?_⟩
                  focus
                    have e96 := hI.ev (i := 27) (d := 96) (by rfl) (by rfl) (hall ⟨27, .data⟩ (by simp) rfl)
                    clear hI hP hall HW
                    unfold Reg.Yields
                    go_simp
                    exact Reg.good_val (by rfl) (by rfl) (Below.refl _ _)
                  refine ⟨Reg.opOKX_val (by decide) fun xv G listed A wv hI hP hall => .inl ⟨(Reg.wanted_some rfl (by rfl) (hI.ev (i := 25) (d := 94) (by rfl) (by rfl) (hall ⟨25, .guard⟩ (by simp) rfl))).trans rfl, ?_⟩, ?_⟩
                  focus
                    have e95 := hI.ev (i := 26) (d := 95) (by rfl) (by rfl) (hall ⟨26, .data⟩ (by simp) rfl)
                    have e97 := hI.ev (i := 28) (d := 97) (by rfl) (by rfl) (hall ⟨28, .data⟩ (by simp) rfl)
                    clear hI hP hall HW
                    unfold Reg.Yields
                    go_simp
                    exact Reg.good_val (by rfl) (by rfl) (Below.refl _ _)
                  refine ⟨Reg.opOKX_val (by decide) fun xv G listed A wv hI hP hall => .inl ⟨Reg.wanted_none rfl, ?_⟩, ?_⟩
                  focus
                    have e94 := hI.ev (i := 25) (d := 94) (by rfl) (by rfl) (hall ⟨25, .data⟩ (by simp) rfl)
                    have e98 := hI.ev (i := 29) (d := 98) (by rfl) (by rfl) (hall ⟨29, .data⟩ (by simp) rfl)
                    clear hI hP hall HW
                    unfold Reg.Yields
                    go_simp
                    exact Reg.good_val (by rfl) (by rfl) (Below.refl _ _)
                  refine ⟨Reg.opOKX_val (by decide) fun xv G listed A wv hI hP hall => .inl ⟨Reg.wanted_none rfl, ?_⟩, ?_⟩
                  focus
                    have e99 := hI.ev (i := 30) (d := 99) (by rfl) (by rfl) (hall ⟨30, .data⟩ (by simp) rfl)
                    clear hI hP hall HW
                    unfold Reg.Yields
                    go_simp
                    exact Reg.good_val (by rfl) (by rfl) (Below.refl _ _)
                  refine ⟨Reg.opOKX_val (by decide) fun xv G listed A wv hI hP hall => .inl ⟨(Reg.wanted_some rfl (by rfl) (hI.ev (i := 31) (d := 100) (by rfl) (by rfl) (hall ⟨31, .guard⟩ (by simp) rfl))).trans rfl, ?_⟩, ?_⟩
                  focus
                    have e13 := hI.evo (d := 13) (by kernel_rfl) rfl
                    clear hI hP hall HW
                    unfold Reg.Yields
                    go_simp
                    exact Reg.good_val (by rfl) (by rfl) (Below.refl _ _)
                  refine ⟨Reg.opOKX_val (by decide) fun xv G listed A wv hI hP hall => .inl ⟨(Reg.wanted_some rfl (by rfl) (hI.ev (i := 31) (d := 100) (by rfl) (by rfl) (hall ⟨31, .guard⟩ (by simp) rfl))).trans rfl, ?_⟩, ?_⟩
                  focus
                    have e101 := hI.ev (i := 32) (d := 101) (by rfl) (by rfl) (hall ⟨32, .data⟩ (by simp) rfl)
                    clear hI hP hall HW
                    unfold Reg.Yields
                    go_simp
                    exact Reg.good_val (by rfl) (by rfl) (Below.refl _ _)
                  refine ⟨Reg.opOKX_val (by decide) fun xv G listed A wv hI hP hall => .inl ⟨(Reg.wanted_some rfl (by rfl) (hI.ev (i := 31) (d := 100) (by rfl) (by rfl) (hall ⟨31, .guard⟩ (by simp) rfl))).trans rfl, ?_⟩, ?_⟩
                  focus
                    have e15 := hI.evo (d := 15) (by kernel_rfl) rfl
                    clear hI hP hall HW
                    unfold Reg.Yields
                    go_simp
                    exact Reg.good_val (by rfl) (by rfl) (Below.refl _ _)
                  refine ⟨Reg.opOKX_val (by decide) fun xv G listed A wv hI hP hall => .inl ⟨(Reg.wanted_some rfl (by rfl) (hI.ev (i := 31) (d := 100) (by rfl) (by rfl) (hall ⟨31, .guard⟩ (by simp) rfl))).trans rfl, ?_⟩, ?_⟩
                  focus
                    have e103 := hI.ev (i := 34) (d := 103) (by rfl) (by rfl) (hall ⟨34, .data⟩ (by simp) rfl)
                    clear hI hP hall HW
                    unfold Reg.Yields
                    go_simp
                    exact Reg.good_val (by rfl) (by rfl) (Below.refl _ _)
                  refine ⟨Reg.opOKX_val (by decide) fun xv G listed A wv hI hP hall => .inl ⟨(Reg.wanted_some rfl (by rfl) (hI.ev (i := 31) (d := 100) (by rfl) (by rfl) (hall ⟨31, .guard⟩ (by simp) rfl))).trans rfl, ?_⟩, ?_⟩
                  focus
                    have e102 := hI.ev (i := 33) (d := 102) (by rfl) (by rfl) (hall ⟨33, .data⟩ (by simp) rfl)
                    have e104 := hI.ev (i := 35) (d := 104) (by rfl) (by rfl) (hall ⟨35, .data⟩ (by simp) rfl)
                    clear hI hP hall HW
                    unfold Reg.Yields
                    go_simp
                    exact Reg.good_val (by rfl) (by rfl) (Below.refl _ _)
                  refine ⟨Reg.opOKX_val (by decide) fun xv G listed A wv hI hP hall => .inl ⟨Reg.wanted_none rfl, ?_⟩, ?_⟩
                  focus
                    have e100 := hI.ev (i := 31) (d := 100) (by rfl) (by rfl) (hall ⟨31, .data⟩ (by simp) rfl)
                    have e105 := hI.ev (i := 36) (d := 105) (by rfl) (by rfl) (hall ⟨36, .data⟩ (by simp) rfl)
                    clear hI hP hall HW
                    unfold Reg.Yields
                    go_simp
                    exact Reg.good_val (by rfl) (by rfl) (Below.refl _ _)
                  refine ⟨Reg.opOKX_val (by decide) fun xv G listed A wv hI hP hall => .inl ⟨Reg.wanted_none rfl, ?_⟩, ?_⟩
                  focus
                    have e106 := hI.ev (i := 37) (d := 106) (by rfl) (by rfl) (hall ⟨37, .data⟩ (by simp) rfl)
                    clear hI hP hall HW
                    unfold Reg.Yields
                    go_simp
                    exact Reg.good_val (by rfl) (by rfl) (Below.refl _ _)
                  refine ⟨Reg.opOKX_val (by decide) fun xv G listed A wv hI hP hall => .inl ⟨(Reg.wanted_some rfl (by rfl) (hI.ev (i := 38) (d := 107) (by rfl) (by rfl) (hall ⟨38, .guard⟩ (by simp) rfl))).trans rfl, ?_⟩, ?_⟩
                  focus
                    clear hI hP hall HW
                    unfold Reg.Yields
                    go_simp
                    exact (awake_any _).mono fun e w'' ⟨he, hb⟩ => ⟨_, he, Reg.good_val (by rfl) (by rfl) hb⟩
                  refine ⟨Reg.opOKX_val (by decide) fun xv G listed A wv hI hP hall => .inl ⟨Reg.wanted_none rfl, ?_⟩, ?_⟩
                  focus
                    have e107 := hI.ev (i := 38) (d := 107) (by rfl) (by rfl) (hall ⟨38, .data⟩ (by simp) rfl)
                    have e108 := hI.ev (i := 39) (d := 108) (by rfl) (by rfl) (hall ⟨39, .data⟩ (by simp) rfl)
                    clear hI hP hall HW
                    unfold Reg.Yields
                    go_simp
                    exact Reg.good_val (by rfl) (by rfl) (Below.refl _ _)
                  refine ⟨Reg.opOKX_val (by decide) fun xv G listed A wv hI hP hall => .inl ⟨Reg.wanted_none rfl, ?_⟩, ?_⟩
                  focus
                    have e109 := hI.ev (i := 40) (d := 109) (by rfl) (by rfl) (hall ⟨40, .data⟩ (by simp) rfl)
                    clear hI hP hall HW
                    unfold Reg.Yields
                    go_simp
                    exact Reg.good_val (by rfl) (by rfl) (Below.refl _ _)
                  trivial
              intro xv G w2' hI _
              have H := heldS_below hI.base HW
              clear hI HW
              simp [Reg.finalTmps, Reg.dstAt, Reg.valOf, makesTold]
              go_wp2
              go_ret
              exact ⟨rfl, HWs.out.trans (H.2.2.mono HWs.out.size)⟩
            · have hz1 : z = (nf : Int) := by
                rcases hzz with ⟨h, _⟩ | ⟨n, _, h, hz⟩
                · simp at h
                · simp at h; omega
              subst hz1
              clear hzz
              have hnf0 : (0 : Int) ≤ (nf : Int) := by omega
              have hnf1 : ¬ (nf : Int) < 0 := by omega
              have hwn : IntKind.i64.wrap (nf : Int) = (nf : Int) := IntWalk.i64_in _ (by omega)
              have HONs := hid (HON1.out.below (HB12.out.trans (hb3.mono HB12.out.size)) HON1.out.1)
              have HINs := hid (HIN1.out.below (HB12.out.trans (hb3.mono HB12.out.size)) HIN1.out.1)
              have HBYs := hid (HBY1.out.below (HB12.out.trans (hb3.mono HB12.out.size)) (Nat.le_refl _))
              have HWs := hid (HW1.out.trans ((HB12.out.trans (hb3.mono HB12.out.size)).mono HW1.out.size))
              have HS3 : HeldS w3 gs (ofw l k 0) (ofw l k 1) (ofw l k 2) (ofw l k 3) w3 := ⟨HH3.out.1, HH3.out.2.1, Below.refl _ _⟩
              have HW := heldS_below (Below.refl _ w3).drew HS3
              clear HON1 HIN1 HBY1 HW1 HB12 HHS HFV HS2 hb3 HT1 HT HS3 HH3
              go_wp2_with fail
              refine Reg.wp_region_toldX (makesTold l k lo hi gon gin pv cv nf nf nf true) 14 (fun v w => BytesAt w v (lst (onr l k) 256)) [0, 1, 2, 3, 4, 5, 6, 7, 8, 9, 10, 11, 12, 13, 14, 15, 16, 17, 18, 19, 20, 21, 22, 23, 24, 25, 26, 27, 28, 29, 30, 31, 32, 33, 34, 35, 36, 37, 38, 39, 40, 41] (by kernel_rfl) (by kernel_rfl) (by kernel_rfl) (fun x w w' h hb => h.below hb (Nat.le_refl _)) (fun x x' i hi => by unfold makesTold; split <;> first | rfl | exact absurd rfl hi) (by decide) ?_ ?_
              focus
                  refine ⟨Reg.opOKX_val (by decide) fun xv G listed A wv hI hP hall => .inl ⟨Reg.wanted_none rfl, ?_⟩, ?_⟩
                  focus
                    have H := heldS_below hI.base HW
                    have e12 := hI.evo (d := 12) (by kernel_rfl) rfl
                    clear hI hP hall HW
                    unfold Reg.Yields
                    go_simp
                    exact Reg.good_val (by rfl) (by rfl) (Below.refl _ _)
                  refine ⟨Reg.opOKX_val (by decide) fun xv G listed A wv hI hP hall => .inl ⟨Reg.wanted_none rfl, ?_⟩, ?_⟩
                  focus
                    have e7 := hI.evo (d := 7) (by kernel_rfl) rfl
                    clear hI hP hall HW
                    unfold Reg.Yields
                    go_simp
                    exact Reg.good_val (by rfl) (by rfl) (Below.refl _ _)
                  refine ⟨Reg.opOKX_val (by decide) fun xv G listed A wv hI hP hall => .inl ⟨Reg.wanted_none rfl, ?_⟩, ?_⟩
                  focus
                    have H := heldS_below hI.base HW
                    have e70 := hI.ev (i := 1) (d := 70) (by rfl) (by rfl) (hall ⟨1, .data⟩ (by simp) rfl)
                    clear hI hP hall HW
                    unfold Reg.Yields
                    go_simp
                    exact (make_at (g := gon) (ofw l k 0) (ofw l k 1) (ofw l k 2) (ofw l k 3) HONs.out H (HFIT.out _) (HFIT.out _) (HFIT.out _) (HFIT.out _) HMEM.out).mono fun e w'' ⟨he, hb⟩ => ⟨_, he, Reg.good_val (by rfl) (by rfl) hb⟩
                  refine ⟨Reg.opOKX_val (by decide) fun xv G listed A wv hI hP hall => .inl ⟨Reg.wanted_none rfl, ?_⟩, ?_⟩
                  focus
                    have e69 := hI.ev (i := 0) (d := 69) (by rfl) (by rfl) (hall ⟨0, .data⟩ (by simp) rfl)
                    have e71 := hI.ev (i := 2) (d := 71) (by rfl) (by rfl) (hall ⟨2, .data⟩ (by simp) rfl)
                    clear hI hP hall HW
                    unfold Reg.Yields
                    go_simp
                    exact Reg.good_val (by rfl) (by rfl) (Below.refl _ _)
                  refine ⟨Reg.opOKX_val (by decide) fun xv G listed A wv hI hP hall => .inl ⟨Reg.wanted_none rfl, ?_⟩, ?_⟩
                  focus
                    have e72 := hI.ev (i := 3) (d := 72) (by rfl) (by rfl) (hall ⟨3, .data⟩ (by simp) rfl)
                    clear hI hP hall HW
                    unfold Reg.Yields
                    go_simp
                    exact Reg.good_val (by rfl) (by rfl) (Below.refl _ _)
                  refine ⟨Reg.opOKX_val (by decide) fun xv G listed A wv hI hP hall => .inl ⟨(Reg.wanted_some rfl (by rfl) (hI.ev (i := 4) (d := 73) (by rfl) (by rfl) (hall ⟨4, .guard⟩ (by simp) rfl))).trans rfl, ?_⟩, ?_⟩
                  focus
                    have e1 := hI.evo (d := 1) (by kernel_rfl) rfl
                    clear hI hP hall HW
                    unfold Reg.Yields
                    go_simp
                    exact Reg.good_val (by rfl) (by rfl) (Below.refl _ _)
                  refine ⟨Reg.opOKX_val (by decide) fun xv G listed A wv hI hP hall => .inl ⟨(Reg.wanted_some rfl (by rfl) (hI.ev (i := 4) (d := 73) (by rfl) (by rfl) (hall ⟨4, .guard⟩ (by simp) rfl))).trans rfl, ?_⟩, ?_⟩
                  focus
                    have e2 := hI.evo (d := 2) (by kernel_rfl) rfl
                    clear hI hP hall HW
                    unfold Reg.Yields
                    go_simp
                    exact Reg.good_val (by rfl) (by rfl) (Below.refl _ _)
                  refine ⟨Reg.opOKX_val (by decide) fun xv G listed A wv hI hP hall => .inl ⟨(Reg.wanted_some rfl (by rfl) (hI.ev (i := 4) (d := 73) (by rfl) (by rfl) (hall ⟨4, .guard⟩ (by simp) rfl))).trans rfl, ?_⟩, ?_⟩
                  focus
                    have e74 := hI.ev (i := 5) (d := 74) (by rfl) (by rfl) (hall ⟨5, .data⟩ (by simp) rfl)
                    have e75 := hI.ev (i := 6) (d := 75) (by rfl) (by rfl) (hall ⟨6, .data⟩ (by simp) rfl)
                    clear hI hP hall HW
                    unfold Reg.Yields
                    go_simp
                    exact (range_any lo hi hlo hhi _).mono fun e w'' ⟨he, hb⟩ => ⟨_, he, Reg.good_val (by rfl) (by rfl) hb⟩
                  refine ⟨Reg.opOKX_val (by decide) fun xv G listed A wv hI hP hall => .inl ⟨(Reg.wanted_some rfl (by rfl) (hI.ev (i := 4) (d := 73) (by rfl) (by rfl) (hall ⟨4, .guard⟩ (by simp) rfl))).trans rfl, ?_⟩, ?_⟩
                  focus
                    have e8 := hI.evo (d := 8) (by kernel_rfl) rfl
                    clear hI hP hall HW
                    unfold Reg.Yields
                    go_simp
                    exact Reg.good_val (by rfl) (by rfl) (Below.refl _ _)
                  refine ⟨Reg.opOKX_val (by decide) fun xv G listed A wv hI hP hall => .inl ⟨(Reg.wanted_some rfl (by rfl) (hI.ev (i := 4) (d := 73) (by rfl) (by rfl) (hall ⟨4, .guard⟩ (by simp) rfl))).trans rfl, ?_⟩, ?_⟩
                  focus
                    have H := heldS_below hI.base HW
                    have e77 := hI.ev (i := 8) (d := 77) (by rfl) (by rfl) (hall ⟨8, .data⟩ (by simp) rfl)
                    clear hI hP hall HW
                    unfold Reg.Yields
                    go_simp
                    exact (make_at (g := gin) (rgw lo hi 0) (rgw lo hi 1) (rgw lo hi 2) (rgw lo hi 3) HINs.out H (rgw_fit _ _ _) (rgw_fit _ _ _) (rgw_fit _ _ _) (rgw_fit _ _ _) (fun n hn => inr_all lo hi n hn hhi)).mono fun e w'' ⟨he, hb⟩ => ⟨_, he, Reg.good_val (by rfl) (by rfl) hb⟩
                  refine ⟨Reg.opOKX_val (by decide) fun xv G listed A wv hI hP hall => .inl ⟨(Reg.wanted_some rfl (by rfl) (hI.ev (i := 4) (d := 73) (by rfl) (by rfl) (hall ⟨4, .guard⟩ (by simp) rfl))).trans rfl, ?_⟩, ?_⟩
                  focus
                    have e76 := hI.ev (i := 7) (d := 76) (by rfl) (by rfl) (hall ⟨7, .data⟩ (by simp) rfl)
                    have e78 := hI.ev (i := 9) (d := 78) (by rfl) (by rfl) (hall ⟨9, .data⟩ (by simp) rfl)
                    clear hI hP hall HW
                    unfold Reg.Yields
                    go_simp
                    exact Reg.good_val (by rfl) (by rfl) (Below.refl _ _)
                  refine ⟨Reg.opOKX_val (by decide) fun xv G listed A wv hI hP hall => .inl ⟨Reg.wanted_none rfl, ?_⟩, ?_⟩
                  focus
                    have e73 := hI.ev (i := 4) (d := 73) (by rfl) (by rfl) (hall ⟨4, .data⟩ (by simp) rfl)
                    have e79 := hI.ev (i := 10) (d := 79) (by rfl) (by rfl) (hall ⟨10, .data⟩ (by simp) rfl)
                    clear hI hP hall HW
                    unfold Reg.Yields
                    go_simp
                    exact Reg.good_val (by rfl) (by rfl) (Below.refl _ _)
                  refine ⟨Reg.opOKX_val (by decide) fun xv G listed A wv hI hP hall => .inl ⟨Reg.wanted_none rfl, ?_⟩, ?_⟩
                  focus
                    have e80 := hI.ev (i := 11) (d := 80) (by rfl) (by rfl) (hall ⟨11, .data⟩ (by simp) rfl)
                    clear hI hP hall HW
                    unfold Reg.Yields
                    go_simp
                    exact Reg.good_val (by rfl) (by rfl) (Below.refl _ _)
                  refine ⟨Reg.opOKX_val (by decide) fun xv G listed A wv hI hP hall => .inl ⟨(Reg.wanted_some rfl (by rfl) (hI.ev (i := 12) (d := 81) (by rfl) (by rfl) (hall ⟨12, .guard⟩ (by simp) rfl))).trans rfl, ?_⟩, ?_⟩
                  focus
                    have H := heldS_below hI.base HW
                    have e12 := hI.evo (d := 12) (by kernel_rfl) rfl
                    clear hI hP hall HW
                    unfold Reg.Yields
                    go_simp
                    exact Reg.good_val (by rfl) (by rfl) (Below.refl _ _)
                  refine ⟨Reg.opOKX_var fun xv G listed A wv hI hall => ⟨(Reg.wanted_some rfl (by rfl) (hI.ev (i := 12) (d := 81) (by rfl) (by rfl) (hall ⟨12, .guard⟩ (by simp) rfl))).trans rfl, ?_⟩, ?_⟩
                  focus
                    have e82 := hI.ev (i := 13) (d := 82) (by rfl) (by rfl) (hall ⟨13, .data⟩ (by simp) rfl)
                    clear hI hall HW
                    unfold Reg.Yields
                    go_simp
                    exact (list_any _ _ _ _ _ (HFIT.out _) (HFIT.out _) (HFIT.out _) (HFIT.out _)).mono fun e w'' ⟨vl, he, hv, hb⟩ => ⟨vl, he, hb, rfl, by rw [HLST.out] at hv; exact hv⟩
                  refine ⟨Reg.opOKX_val (by decide) fun xv G listed A wv hI hP hall => .inl ⟨(Reg.wanted_some rfl (by rfl) (hI.ev (i := 12) (d := 81) (by rfl) (by rfl) (hall ⟨12, .guard⟩ (by simp) rfl))).trans rfl, ?_⟩, ?_⟩
                  focus
                    have e10 := hI.evo (d := 10) (by kernel_rfl) rfl
                    clear hI hP hall HW
                    unfold Reg.Yields
                    go_simp
                    exact Reg.good_val (by rfl) (by rfl) (Below.refl _ _)
                  refine ⟨Reg.opOKX_val (by decide) fun xv G listed A wv hI hP hall => .inl ⟨(Reg.wanted_some rfl (by rfl) (hI.ev (i := 12) (d := 81) (by rfl) (by rfl) (hall ⟨12, .guard⟩ (by simp) rfl))).trans rfl, ?_⟩, ?_⟩
                  focus
                    have H := heldS_below hI.base HW
                    have HVL := hP (hall ⟨14, .data⟩ (by simp) rfl)
                    have e83 := hI.ev (i := 14) (d := 83) (by rfl) (by rfl) (hall ⟨14, .data⟩ (by simp) rfl)
                    have e84 := hI.ev (i := 15) (d := 84) (by rfl) (by rfl) (hall ⟨15, .data⟩ (by simp) rfl)
                    clear hI hP hall HW
                    unfold Reg.Yields
                    go_simp
                    exact (refbytes_same HVL (bytes_held HBYs.out H)).mono fun e w'' ⟨he, hb⟩ => ⟨_, he, Reg.good_val (by rfl) (by rfl) (by rw [hb]; exact Below.refl _ _)⟩
                  refine ⟨Reg.opOKX_val (by decide) fun xv G listed A wv hI hP hall => .inl ⟨Reg.wanted_none rfl, ?_⟩, ?_⟩
                  focus
                    have e81 := hI.ev (i := 12) (d := 81) (by rfl) (by rfl) (hall ⟨12, .data⟩ (by simp) rfl)
                    have e85 := hI.ev (i := 16) (d := 85) (by rfl) (by rfl) (hall ⟨16, .data⟩ (by simp) rfl)
                    clear hI hP hall HW
                    unfold Reg.Yields
                    go_simp
                    exact Reg.good_val (by rfl) (by rfl) (Below.refl _ _)
                  refine ⟨Reg.opOKX_val (by decide) fun xv G listed A wv hI hP hall => .inl ⟨Reg.wanted_none rfl, ?_⟩, ?_⟩
                  focus
                    have e86 := hI.ev (i := 17) (d := 86) (by rfl) (by rfl) (hall ⟨17, .data⟩ (by simp) rfl)
                    clear hI hP hall HW
                    unfold Reg.Yields
                    go_simp
                    exact Reg.good_val (by rfl) (by rfl) (Below.refl _ _)
                  refine ⟨Reg.opOKX_val (by decide) fun xv G listed A wv hI hP hall => .inl ⟨(Reg.wanted_some rfl (by rfl) (hI.ev (i := 18) (d := 87) (by rfl) (by rfl) (hall ⟨18, .guard⟩ (by simp) rfl))).trans rfl, ?_⟩, ?_⟩
                  focus
                    have H := heldS_below hI.base HW
                    have e12 := hI.evo (d := 12) (by kernel_rfl) rfl
                    clear hI hP hall HW
                    unfold Reg.Yields
                    go_simp
                    exact Reg.good_val (by rfl) (by rfl) (Below.refl _ _)
                  refine ⟨Reg.opOKX_val (by decide) fun xv G listed A wv hI hP hall => .inl ⟨(Reg.wanted_some rfl (by rfl) (hI.ev (i := 18) (d := 87) (by rfl) (by rfl) (hall ⟨18, .guard⟩ (by simp) rfl))).trans rfl, ?_⟩, ?_⟩
                  focus
                    have e88 := hI.ev (i := 19) (d := 88) (by rfl) (by rfl) (hall ⟨19, .data⟩ (by simp) rfl)
                    clear hI hP hall HW
                    unfold Reg.Yields
                    go_simp
                    exact (count_any _ _ _ _ _ (HFIT.out _) (HFIT.out _) (HFIT.out _) (HFIT.out _)).mono fun e w'' ⟨he, hb⟩ => ⟨_, he.trans (by rw [HPW.out]), Reg.good_val (by rfl) (by rfl) hb⟩
                  refine ⟨Reg.opOKX_val (by decide) fun xv G listed A wv hI hP hall => .inl ⟨(Reg.wanted_some rfl (by rfl) (hI.ev (i := 18) (d := 87) (by rfl) (by rfl) (hall ⟨18, .guard⟩ (by simp) rfl))).trans rfl, ?_⟩, ?_⟩
                  focus
                    have e10 := hI.evo (d := 10) (by kernel_rfl) rfl
                    clear hI hP hall HW
                    unfold Reg.Yields
                    go_simp
                    exact Reg.good_val (by rfl) (by rfl) (Below.refl _ _)
                  refine ⟨Reg.opOKX_val (by decide) fun xv G listed A wv hI hP hall => .inl ⟨(Reg.wanted_some rfl (by rfl) (hI.ev (i := 18) (d := 87) (by rfl) (by rfl) (hall ⟨18, .guard⟩ (by simp) rfl))).trans rfl, ?_⟩, ?_⟩
                  focus
                    have e90 := hI.ev (i := 21) (d := 90) (by rfl) (by rfl) (hall ⟨21, .data⟩ (by simp) rfl)
                    clear hI hP hall HW
                    unfold Reg.Yields
                    go_simp
                    exact Reg.good_val (by rfl) (by rfl) (Below.refl _ _)
                  refine ⟨Reg.opOKX_val (by decide) fun xv G listed A wv hI hP hall => .inl ⟨(Reg.wanted_some rfl (by rfl) (hI.ev (i := 18) (d := 87) (by rfl) (by rfl) (hall ⟨18, .guard⟩ (by simp) rfl))).trans rfl, ?_⟩, ?_⟩
                  focus
                    have e89 := hI.ev (i := 20) (d := 89) (by rfl) (by rfl) (hall ⟨20, .data⟩ (by simp) rfl)
                    have e91 := hI.ev (i := 22) (d := 91) (by rfl) (by rfl) (hall ⟨22, .data⟩ (by simp) rfl)
                    clear hI hP hall HW
                    unfold Reg.Yields
                    go_simp
                    exact Reg.good_val (by rfl) (by rfl) (Below.refl _ _)
                  refine ⟨Reg.opOKX_val (by decide) fun xv G listed A wv hI hP hall => .inl ⟨Reg.wanted_none rfl, ?_⟩, ?_⟩
                  focus
                    have e87 := hI.ev (i := 18) (d := 87) (by rfl) (by rfl) (hall ⟨18, .data⟩ (by simp) rfl)
                    have e92 := hI.ev (i := 23) (d := 92) (by rfl) (by rfl) (hall ⟨23, .data⟩ (by simp) rfl)
                    clear hI hP hall HW
                    unfold Reg.Yields
                    go_simp
                    exact Reg.good_val (by rfl) (by rfl) (Below.refl _ _)
                  refine ⟨Reg.opOKX_val (by decide) fun xv G listed A wv hI hP hall => .inl ⟨Reg.wanted_none rfl, ?_⟩, ?_⟩
                  focus
                    have e93 := hI.ev (i := 24) (d := 93) (by rfl) (by rfl) (hall ⟨24, .data⟩ (by simp) rfl)
                    clear hI hP hall HW
                    unfold Reg.Yields
                    go_simp
                    exact Reg.good_val (by rfl) (by rfl) (Below.refl _ _)
                  refine ⟨Reg.opOKX_val (by decide) fun xv G listed A wv hI hP hall => .inl ⟨(Reg.wanted_some rfl (by rfl) (hI.ev (i := 25) (d := 94) (by rfl) (by rfl) (hall ⟨25, .guard⟩ (by simp) rfl))).trans rfl, ?_⟩, ?_⟩
                  focus
                    have e14 := hI.evo (d := 14) (by kernel_rfl) rfl
                    clear hI hP hall HW
                    unfold Reg.Yields
                    go_simp
                    exact Reg.good_val (by rfl) (by rfl) (Below.refl _ _)
                  refine ⟨Reg.opOKX_val (by decide) fun xv G listed A wv hI hP hall => .inl ⟨(Reg.wanted_some rfl (by rfl) (hI.ev (i := 25) (d := 94) (by rfl) (by rfl) (hall ⟨25, .guard⟩ (by simp) rfl))).trans rfl, ?_⟩, ?_⟩
                  focus
                    have e15 := hI.evo (d := 15) (by kernel_rfl) rfl
                    clear hI hP hall HW
                    unfold Reg.Yields
                    go_simp
                    exact Reg.good_val (by rfl) (by rfl) (Below.refl _ _)
                  refine ⟨Reg.opOKX_val (by decide) fun xv G listed A wv hI hP hall => .inl ⟨(Reg.wanted_some rfl (by rfl) (hI.ev (i := 25) (d := 94) (by rfl) (by rfl) (hall ⟨25, .guard⟩ (by simp) rfl))).trans rfl, ?_⟩, ?_⟩
                  focus
                    have e96 := hI.ev (i := 27) (d := 96) (by rfl) (by rfl) (hall ⟨27, .data⟩ (by simp) rfl)
                    clear hI hP hall HW
                    unfold Reg.Yields
                    go_simp
                    exact Reg.good_val (by rfl) (by rfl) (Below.refl _ _)
                  refine ⟨Reg.opOKX_val (by decide) fun xv G listed A wv hI hP hall => .inl ⟨(Reg.wanted_some rfl (by rfl) (hI.ev (i := 25) (d := 94) (by rfl) (by rfl) (hall ⟨25, .guard⟩ (by simp) rfl))).trans rfl, ?_⟩, ?_⟩
                  focus
                    have e95 := hI.ev (i := 26) (d := 95) (by rfl) (by rfl) (hall ⟨26, .data⟩ (by simp) rfl)
                    have e97 := hI.ev (i := 28) (d := 97) (by rfl) (by rfl) (hall ⟨28, .data⟩ (by simp) rfl)
                    clear hI hP hall HW
                    unfold Reg.Yields
                    go_simp
                    exact Reg.good_val (by rfl) (by rfl) (Below.refl _ _)
                  refine ⟨Reg.opOKX_val (by decide) fun xv G listed A wv hI hP hall => .inl ⟨Reg.wanted_none rfl, ?_⟩, ?_⟩
                  focus
                    have e94 := hI.ev (i := 25) (d := 94) (by rfl) (by rfl) (hall ⟨25, .data⟩ (by simp) rfl)
                    have e98 := hI.ev (i := 29) (d := 98) (by rfl) (by rfl) (hall ⟨29, .data⟩ (by simp) rfl)
                    clear hI hP hall HW
                    unfold Reg.Yields
                    go_simp
                    exact Reg.good_val (by rfl) (by rfl) (Below.refl _ _)
                  refine ⟨Reg.opOKX_val (by decide) fun xv G listed A wv hI hP hall => .inl ⟨Reg.wanted_none rfl, ?_⟩, ?_⟩
                  focus
                    have e99 := hI.ev (i := 30) (d := 99) (by rfl) (by rfl) (hall ⟨30, .data⟩ (by simp) rfl)
                    clear hI hP hall HW
                    unfold Reg.Yields
                    go_simp
                    exact Reg.good_val (by rfl) (by rfl) (Below.refl _ _)
                  refine ⟨Reg.opOKX_val (by decide) fun xv G listed A wv hI hP hall => .inl ⟨(Reg.wanted_some rfl (by rfl) (hI.ev (i := 31) (d := 100) (by rfl) (by rfl) (hall ⟨31, .guard⟩ (by simp) rfl))).trans rfl, ?_⟩, ?_⟩
                  focus
                    have e13 := hI.evo (d := 13) (by kernel_rfl) rfl
                    clear hI hP hall HW
                    unfold Reg.Yields
                    go_simp
                    exact Reg.good_val (by rfl) (by rfl) (Below.refl _ _)
                  refine ⟨Reg.opOKX_val (by decide) fun xv G listed A wv hI hP hall => .inl ⟨(Reg.wanted_some rfl (by rfl) (hI.ev (i := 31) (d := 100) (by rfl) (by rfl) (hall ⟨31, .guard⟩ (by simp) rfl))).trans rfl, ?_⟩, ?_⟩
                  focus
                    have e101 := hI.ev (i := 32) (d := 101) (by rfl) (by rfl) (hall ⟨32, .data⟩ (by simp) rfl)
                    clear hI hP hall HW
                    unfold Reg.Yields
                    go_simp
                    exact Reg.good_val (by rfl) (by rfl) (Below.refl _ _)
                  refine ⟨Reg.opOKX_val (by decide) fun xv G listed A wv hI hP hall => .inl ⟨(Reg.wanted_some rfl (by rfl) (hI.ev (i := 31) (d := 100) (by rfl) (by rfl) (hall ⟨31, .guard⟩ (by simp) rfl))).trans rfl, ?_⟩, ?_⟩
                  focus
                    have e15 := hI.evo (d := 15) (by kernel_rfl) rfl
                    clear hI hP hall HW
                    unfold Reg.Yields
                    go_simp
                    exact Reg.good_val (by rfl) (by rfl) (Below.refl _ _)
                  refine ⟨Reg.opOKX_val (by decide) fun xv G listed A wv hI hP hall => .inl ⟨(Reg.wanted_some rfl (by rfl) (hI.ev (i := 31) (d := 100) (by rfl) (by rfl) (hall ⟨31, .guard⟩ (by simp) rfl))).trans rfl, ?_⟩, ?_⟩
                  focus
                    have e103 := hI.ev (i := 34) (d := 103) (by rfl) (by rfl) (hall ⟨34, .data⟩ (by simp) rfl)
                    clear hI hP hall HW
                    unfold Reg.Yields
                    go_simp
                    exact Reg.good_val (by rfl) (by rfl) (Below.refl _ _)
                  refine ⟨Reg.opOKX_val (by decide) fun xv G listed A wv hI hP hall => .inl ⟨(Reg.wanted_some rfl (by rfl) (hI.ev (i := 31) (d := 100) (by rfl) (by rfl) (hall ⟨31, .guard⟩ (by simp) rfl))).trans rfl, ?_⟩, ?_⟩
                  focus
                    have e102 := hI.ev (i := 33) (d := 102) (by rfl) (by rfl) (hall ⟨33, .data⟩ (by simp) rfl)
                    have e104 := hI.ev (i := 35) (d := 104) (by rfl) (by rfl) (hall ⟨35, .data⟩ (by simp) rfl)
                    clear hI hP hall HW
                    unfold Reg.Yields
                    go_simp
                    exact Reg.good_val (by rfl) (by rfl) (Below.refl _ _)
                  refine ⟨Reg.opOKX_val (by decide) fun xv G listed A wv hI hP hall => .inl ⟨Reg.wanted_none rfl, ?_⟩, ?_⟩
                  focus
                    have e100 := hI.ev (i := 31) (d := 100) (by rfl) (by rfl) (hall ⟨31, .data⟩ (by simp) rfl)
                    have e105 := hI.ev (i := 36) (d := 105) (by rfl) (by rfl) (hall ⟨36, .data⟩ (by simp) rfl)
                    clear hI hP hall HW
                    unfold Reg.Yields
                    go_simp
                    exact Reg.good_val (by rfl) (by rfl) (Below.refl _ _)
                  refine ⟨Reg.opOKX_val (by decide) fun xv G listed A wv hI hP hall => .inl ⟨Reg.wanted_none rfl, ?_⟩, ?_⟩
                  focus
                    have e106 := hI.ev (i := 37) (d := 106) (by rfl) (by rfl) (hall ⟨37, .data⟩ (by simp) rfl)
                    clear hI hP hall HW
                    unfold Reg.Yields
                    go_simp
                    exact Reg.good_val (by rfl) (by rfl) (Below.refl _ _)
                  refine ⟨Reg.opOKX_val (by decide) fun xv G listed A wv hI hP hall => .inl ⟨(Reg.wanted_some rfl (by rfl) (hI.ev (i := 38) (d := 107) (by rfl) (by rfl) (hall ⟨38, .guard⟩ (by simp) rfl))).trans rfl, ?_⟩, ?_⟩
                  focus
                    clear hI hP hall HW
                    unfold Reg.Yields
                    go_simp
                    exact (awake_any _).mono fun e w'' ⟨he, hb⟩ => ⟨_, he, Reg.good_val (by rfl) (by rfl) hb⟩
                  refine ⟨Reg.opOKX_val (by decide) fun xv G listed A wv hI hP hall => .inl ⟨Reg.wanted_none rfl, ?_⟩, ?_⟩
                  focus
                    have e107 := hI.ev (i := 38) (d := 107) (by rfl) (by rfl) (hall ⟨38, .data⟩ (by simp) rfl)
                    have e108 := hI.ev (i := 39) (d := 108) (by rfl) (by rfl) (hall ⟨39, .data⟩ (by simp) rfl)
                    clear hI hP hall HW
                    unfold Reg.Yields
                    go_simp
                    exact Reg.good_val (by rfl) (by rfl) (Below.refl _ _)
                  refine ⟨Reg.opOKX_val (by decide) fun xv G listed A wv hI hP hall => .inl ⟨Reg.wanted_none rfl, ?_⟩, ?_⟩
                  focus
                    have e109 := hI.ev (i := 40) (d := 109) (by rfl) (by rfl) (hall ⟨40, .data⟩ (by simp) rfl)
                    clear hI hP hall HW
                    unfold Reg.Yields
                    go_simp
                    exact Reg.good_val (by rfl) (by rfl) (Below.refl _ _)
                  trivial
              intro xv G w2' hI _
              have H := heldS_below hI.base HW
              clear hI HW
              simp [Reg.finalTmps, Reg.dstAt, Reg.valOf, makesTold]
              go_wp2
              go_ret
              exact ⟨rfl, HWs.out.trans (H.2.2.mono HWs.out.size)⟩
theorem makes_all (v : Value) (lo hi : Nat) (w : World) (h : ∃ p n c l, v = .slice p n c ∧ ByteRow w p n l) (hlo : lo < 256) (hhi : hi < 256) (hT : Tab w) :
    Calls Tryd.prog 3 #[v, .int .u8 lo, .int .u8 hi] w (DoneT w) := by
  obtain ⟨p, n, c, l, rfl, hl⟩ := h
  by_cases hn : n ≤ 1000
  · exact makes_walk p n c l lo hi w hl hn hlo hhi hT
  · exact makes_long p n c lo hi w (by omega) hl.1
end Go.Proofs.YtcpdobldconnaaaDoor
