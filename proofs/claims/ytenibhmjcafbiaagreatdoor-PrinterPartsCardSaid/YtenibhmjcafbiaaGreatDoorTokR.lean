/- Contracts of token's reader: an item of a class. -/
import Derived.Test.YtenibhmjcafbiaaGreatDoorTokQ
namespace Go.Proofs.YtenibhmjcafbiaaGreatDoor
open Go Go.RowKit
attribute [local go_sem ↓] Go.wp_at_zero Go.wp_at_succ
attribute [local go_sem] eq4
set_option maxRecDepth 100000 in
set_option maxHeartbeats 8000000 in
theorem titem_any (g k : Nat) (s : ByteArray) (hk : k ≤ s.size) (hs : s.size ≤ 1099511627776) (w : World) (h : RdAt w g s k) (hT : Tab w) (hne : 0 ≠ g) :
    Calls Tryz.prog 128 #[.pointer (some ⟨g, 0, none⟩)] w fun e w' => e = .returned (setAns (itemR s k).1 (itemR s k).2.1) ∧ Rd w w' g s (itemR s k).2.2 := by
  have HH := qhid h
  have hlt := h.lt
  have HT := qhid hT
  have HA := qhid (rd_alloc h setObj)
  have hp := partR_set hk
  have PART := qhid (fun W (hW : RdAt W g s k) => tpart_any g k s hs W hW)
  obtain ⟨r0, r1, rz, rl⟩ := HA.out
  unfold setObj at r0 r1 rz rl
  have HIT : Hid (itemR s k = if (partR s k).2.1 ≠ 0 ∨ bAt s (partR s k).2.2 ≠ 45 then partR s k else match onlyW (partR s k).1 with
    | none => (noW, 4, (partR s k).2.2)
    | some a => toR s k a ((partR s k).2.2 + 1)) := qhid rfl
  clear h hT
  obtain ⟨r, hr⟩ : ∃ r, r = partR s k := ⟨_, rfl⟩
  rw [← hr] at PART HIT hp
  clear hr
  obtain ⟨t, c, j⟩ := r
  have PART : Hid (∀ W, RdAt W g s k → Calls Tryz.prog 134 #[.pointer (some ⟨g, 0, none⟩)] W fun e w' => e = .returned (setAns t c) ∧ Rd W w' g s j) := PART
  have HIT : Hid (itemR s k = if c ≠ 0 ∨ bAt s j ≠ 45 then (t, c, j) else match onlyW t with
    | none => (noW, 4, j)
    | some a => toR s k a (j + 1)) := HIT
  have HFT : Hid t.fit := qhid hp.fit
  have hj : j ≤ s.size := hp.le
  rcases errS hp.err with rfl | ⟨hc0, hc1, hc2⟩
  · have SE := qhid (fun W (hW : RdAt W g s j) => sees_any g s j 45 (by omega) W hW)
    by_cases h45 : bAt s j = 45
    · rw [decide_eq_true h45] at SE
      have hj1 := in_of_bAt h45 (by omega)
      have CNT := qhid (fun W => tcnt_any t HFT.out W)
      have HIT : Hid (itemR s k = match onlyW t with
        | none => (noW, 4, j)
        | some a => toR s k a (j + 1)) := qhid (by rw [HIT.out, if_neg (by rintro (h | h); exact h rfl; exact h h45)])
      clear h45
      rcases ho : onlyW t with _ | a
      · have hn := only_none ho
        have HF : Hid (itemR s k = (noW, 4, j)) := qhid (by rw [HIT.out, ho])
        generalize (ones t).length = n at *
        have n1 : (((n : Nat) : Int) == 1) = false := by simp; omega
        have n2 : (((n : Nat) : Int) != 1) = true := by simp; omega
        clear hn ho HIT hp
        go_enter Tryz.func128, Tryz.ntmps128
        go_wp2_with fail
        refine (PART.out _ HA.out).mono ?_
        rintro e w1 ⟨rfl, hr1⟩
        have H1 : Hid (Rd (w.alloc setObj) w1 g s j) := qhid hr1
        clear hr1 r0 r1 rz rl
        unfold setAns
        have H2 : Hid (Rd (w.alloc setObj) (w1.alloc (setOb t)) g s j) := qhid (H1.out.below (below1 w1 _))
        have hb2 := qhid (heap_new w1 (setOb t))
        have h5g : Hid (w1.heap.size ≠ g) := qhid (by have := H1.out.1.lt; omega)
        clear H1
        go_wp2_with fail
        refine (SE.out _ H2.out.1).mono ?_
        rintro e w3 ⟨rfl, n3, hw3⟩
        have H3 : Hid (Rd (w.alloc setObj) w3 g s j) := qhid (by rw [hw3]; exact H2.out.drewN n3)
        have hb3 : Hid (w3.heap[w1.heap.size]? = some (setOb t)) := qhid (by rw [hw3]; exact hb2.out)
        clear hw3 hb2 H2
        generalize w1.heap.size = b5 at *
        obtain ⟨⟨z0, z1, z2, z3⟩, hz⟩ := set_of_block hb3.out
        go_wp2_with fail
        refine (CNT.out _).mono ?_
        rintro e w4 ⟨rfl, hb4⟩
        have H4 := qhid (H3.out.below hb4)
        have hk4 := qhid (below_kept hb4 hb3.out)
        clear hb4 hb3 H3 z0 z1 z2 z3 hz
        obtain ⟨⟨q0, q1, q2, q3⟩, ⟨f0, f1, f2, f3⟩, _hsz⟩ := set_cells (kept_first HH.out H4.out)
        have HRw : Hid (Rd w w4 g s j) := qhid ⟨H4.out.1, only_first H4.out.2⟩
        go_wp2_with fail
        refine bodyPost_ret (v := setAns noW 4) (by simp [results, Tryz.results128, go_sem, setAns, noW, q0, q1, q2, q3]) rfl (finS HF.out ?_)
        exact HRw.out.set (Nat.le_refl _) hlt noW
      · have HO := qhid ho
        obtain ⟨q, hq⟩ : ∃ q, q = j + 1 := ⟨_, rfl⟩
        have HQ := qhid hq
        have HF0 : Hid (itemR s k = toR s k a q) := qhid (by rw [HIT.out, ho, hq])
        rw [only_len ho] at CNT
        have CNT : Hid (∀ W, Calls Tryz.prog 33 #[setVal t] W fun e w' => e = .returned (.int .i64 1) ∧ Below W.heap.size W w') := CNT
        have hqs : q ≤ s.size := by omega
        have hp2 := partR_set hqs
        have ST := qhid (fun W (hW : RdAt W g s j) => tstep_any g 1 1 s j (by omega) W hW rfl)
        have PART2 := qhid (fun W (hW : RdAt W g s q) => tpart_any g q s hs W hW)
        have HTO : Hid (toR s k a q = if (partR s q).2.1 ≠ 0 then (noW, (partR s q).2.1, (partR s q).2.2) else match onlyW (partR s q).1 with
          | none => (noW, 4, q)
          | some b => if b < a then (noW, 5, k) else (rngW a b, 0, (partR s q).2.2)) := qhid rfl
        clear hq ho HIT hp
        obtain ⟨r, hr⟩ : ∃ r, r = partR s q := ⟨_, rfl⟩
        rw [← hr] at PART2 HTO hp2
        clear hr
        obtain ⟨t2, c2, j2⟩ := r
        have PART2 : Hid (∀ W, RdAt W g s q → Calls Tryz.prog 134 #[.pointer (some ⟨g, 0, none⟩)] W fun e w' => e = .returned (setAns t2 c2) ∧ Rd W w' g s j2) := PART2
        have HTO : Hid (toR s k a q = if c2 ≠ 0 then (noW, c2, j2) else match onlyW t2 with
          | none => (noW, 4, q)
          | some b => if b < a then (noW, 5, k) else (rngW a b, 0, j2)) := HTO
        have HFT2 : Hid t2.fit := qhid hp2.fit
        rcases errS hp2.err with rfl | ⟨hd0, hd1, hd2⟩
        · have CNT2 := qhid (fun W => tcnt_any t2 HFT2.out W)
          have HTO : Hid (toR s k a q = match onlyW t2 with
            | none => (noW, 4, q)
            | some b => if b < a then (noW, 5, k) else (rngW a b, 0, j2)) := qhid (by rw [HTO.out, if_neg (by simp)])
          rcases ho2 : onlyW t2 with _ | b
          · have hn := only_none ho2
            have HF : Hid (itemR s k = (noW, 4, q)) := qhid (by rw [HF0.out, HTO.out, ho2])
            generalize (ones t2).length = n at *
            have n1 : (((n : Nat) : Int) == 1) = false := by simp; omega
            have n2 : (((n : Nat) : Int) != 1) = true := by simp; omega
            clear hn ho2 HTO HF0 hp2
            go_enter Tryz.func128, Tryz.ntmps128
            go_wp2_with fail
            refine (PART.out _ HA.out).mono ?_
            rintro e w1 ⟨rfl, hr1⟩
            have H1 : Hid (Rd (w.alloc setObj) w1 g s j) := qhid hr1
            clear hr1 r0 r1 rz rl
            unfold setAns
            have H2 : Hid (Rd (w.alloc setObj) (w1.alloc (setOb t)) g s j) := qhid (H1.out.below (below1 w1 _))
            have hb2 := qhid (heap_new w1 (setOb t))
            have h5g : Hid (w1.heap.size ≠ g) := qhid (by have := H1.out.1.lt; omega)
            clear H1
            go_wp2_with fail
            refine (SE.out _ H2.out.1).mono ?_
            rintro e w3 ⟨rfl, n3, hw3⟩
            have H3 : Hid (Rd (w.alloc setObj) w3 g s j) := qhid (by rw [hw3]; exact H2.out.drewN n3)
            have hb3 : Hid (w3.heap[w1.heap.size]? = some (setOb t)) := qhid (by rw [hw3]; exact hb2.out)
            clear hw3 hb2 H2
            generalize w1.heap.size = b5 at *
            obtain ⟨⟨z0, z1, z2, z3⟩, hz⟩ := set_of_block hb3.out
            go_wp2_with fail
            refine (CNT.out _).mono ?_
            rintro e w4 ⟨rfl, hb4⟩
            have H4 := qhid (H3.out.below hb4)
            have hk4 := qhid (below_kept hb4 hb3.out)
            clear hb4 hb3 H3 z0 z1 z2 z3 hz
            obtain ⟨y0, y1, yz, yl⟩ := H4.out.1
            go_wp2_with fail
            refine (ST.out _ H4.out.1).mono ?_
            rintro e w5 ⟨rfl, hw5⟩
            have H45 : Hid (Rd w4 w5 g s q) := qhid ((Rd.refl H4.out.1).put (by rw [hw5, HQ.out]; rfl))
            clear hw5 y0 y1 yz yl
            have H5 := qhid (H4.out.trans H45.out)
            have hk5 := qhid (H45.out.kept hk4.out h5g.out)
            clear H45 hk4 H4
            obtain ⟨y0, y1, yz, yl⟩ := H5.out.1
            go_wp2_with fail
            refine (PART2.out _ H5.out.1).mono ?_
            rintro e w6 ⟨rfl, hr6⟩
            have H6 := qhid (H5.out.trans hr6)
            have hk6 := qhid (hr6.kept hk5.out h5g.out)
            clear hr6 H5 hk5 y0 y1 yz yl
            unfold setAns
            have H6a : Hid (Rd (w.alloc setObj) (w6.alloc (setOb t2)) g s j2) := qhid (H6.out.below (below1 w6 _))
            have hk6a := qhid (below_kept (below1 w6 (setOb t2)) hk6.out)
            have hb8 := qhid (heap_new w6 (setOb t2))
            clear H6 hk6
            go_wp2_with fail
            refine (CNT2.out _).mono ?_
            rintro e w7 ⟨rfl, hb7⟩
            have H7 := qhid (H6a.out.below hb7)
            have hk7 := qhid (below_kept hb7 hk6a.out)
            have hb8' := qhid (below_kept hb7 hb8.out)
            clear hb7 H6a hk6a hb8
            generalize w6.heap.size = b8 at *
            have TB := qhid (tback_any g q 4 s j2 w7 H7.out.1)
            obtain ⟨y0, y1, yz, yl⟩ := H7.out.1
            go_wp2_with fail
            refine TB.out.mono ?_
            rintro e w8 ⟨rfl, hw8⟩
            have H8 : Hid (Rd (w.alloc setObj) w8 g s q) := qhid (H7.out.put hw8)
            clear hw8 y0 y1 yz yl TB
            obtain ⟨⟨q0, q1, q2, q3⟩, ⟨f0, f1, f2, f3⟩, _hsz⟩ := set_cells (kept_first HH.out H8.out)
            have HRw : Hid (Rd w w8 g s q) := qhid ⟨H8.out.1, only_first H8.out.2⟩
            go_wp2_with fail
            refine bodyPost_ret (v := setAns noW 4) (by simp [results, Tryz.results128, go_sem, setAns, noW, q0, q1, q2, q3]) rfl (finS HF.out ?_)
            exact HRw.out.set (Nat.le_refl _) hlt noW
          · have BT := qhid (fun W (hW : Tab W) => tbetween_any t t2 HFT.out HFT2.out a b HO.out ho2 W hW)
            rw [only_len ho2] at CNT2
            have CNT2 : Hid (∀ W, Calls Tryz.prog 33 #[setVal t2] W fun e w' => e = .returned (.int .i64 1) ∧ Below W.heap.size W w') := CNT2
            have hb256 := (only_mem ho2).1
            have HTO : Hid (toR s k a q = if b < a then (noW, 5, k) else (rngW a b, 0, j2)) := qhid (by rw [HTO.out, ho2])
            by_cases hba : b < a
            · have HF : Hid (itemR s k = (noW, 5, k)) := qhid (by rw [HF0.out, HTO.out, if_pos hba])
              rw [rngW_none hb256 hba] at BT
              have BT : Hid (∀ W, Tab W → Calls Tryz.prog 135 #[setVal t, setVal t2] W fun e w' => e = .returned (.agg #[.int .u64 0, .int .u64 0, .int .u64 0, .int .u64 0]) ∧ Below W.heap.size W w') := BT
              clear hba hb256 ho2 HTO HF0 hp2 HO
              go_enter Tryz.func128, Tryz.ntmps128
              go_wp2_with fail
              refine (PART.out _ HA.out).mono ?_
              rintro e w1 ⟨rfl, hr1⟩
              have H1 : Hid (Rd (w.alloc setObj) w1 g s j) := qhid hr1
              clear hr1 r0 r1 rz rl
              unfold setAns
              have H2 : Hid (Rd (w.alloc setObj) (w1.alloc (setOb t)) g s j) := qhid (H1.out.below (below1 w1 _))
              have hb2 := qhid (heap_new w1 (setOb t))
              have h5g : Hid (w1.heap.size ≠ g) := qhid (by have := H1.out.1.lt; omega)
              clear H1
              go_wp2_with fail
              refine (SE.out _ H2.out.1).mono ?_
              rintro e w3 ⟨rfl, n3, hw3⟩
              have H3 : Hid (Rd (w.alloc setObj) w3 g s j) := qhid (by rw [hw3]; exact H2.out.drewN n3)
              have hb3 : Hid (w3.heap[w1.heap.size]? = some (setOb t)) := qhid (by rw [hw3]; exact hb2.out)
              clear hw3 hb2 H2
              generalize w1.heap.size = b5 at *
              obtain ⟨⟨z0, z1, z2, z3⟩, hz⟩ := set_of_block hb3.out
              go_wp2_with fail
              refine (CNT.out _).mono ?_
              rintro e w4 ⟨rfl, hb4⟩
              have H4 := qhid (H3.out.below hb4)
              have hk4 := qhid (below_kept hb4 hb3.out)
              clear hb4 hb3 H3 z0 z1 z2 z3 hz
              obtain ⟨y0, y1, yz, yl⟩ := H4.out.1
              go_wp2_with fail
              refine (ST.out _ H4.out.1).mono ?_
              rintro e w5 ⟨rfl, hw5⟩
              have H45 : Hid (Rd w4 w5 g s q) := qhid ((Rd.refl H4.out.1).put (by rw [hw5, HQ.out]; rfl))
              clear hw5 y0 y1 yz yl
              have H5 := qhid (H4.out.trans H45.out)
              have hk5 := qhid (H45.out.kept hk4.out h5g.out)
              clear H45 hk4 H4
              obtain ⟨y0, y1, yz, yl⟩ := H5.out.1
              go_wp2_with fail
              refine (PART2.out _ H5.out.1).mono ?_
              rintro e w6 ⟨rfl, hr6⟩
              have H6 := qhid (H5.out.trans hr6)
              have hk6 := qhid (hr6.kept hk5.out h5g.out)
              clear hr6 H5 hk5 y0 y1 yz yl
              unfold setAns
              have H6a : Hid (Rd (w.alloc setObj) (w6.alloc (setOb t2)) g s j2) := qhid (H6.out.below (below1 w6 _))
              have hk6a := qhid (below_kept (below1 w6 (setOb t2)) hk6.out)
              have hb8 := qhid (heap_new w6 (setOb t2))
              clear H6 hk6
              go_wp2_with fail
              refine (CNT2.out _).mono ?_
              rintro e w7 ⟨rfl, hb7⟩
              have H7 := qhid (H6a.out.below hb7)
              have hk7 := qhid (below_kept hb7 hk6a.out)
              have hb8' := qhid (below_kept hb7 hb8.out)
              clear hb7 H6a hk6a hb8
              generalize w6.heap.size = b8 at *
              have HT7 := qhid ((HT.out.alloc setObj).rd H7.out hne)
              obtain ⟨⟨z0, z1, z2, z3⟩, hz⟩ := set_of_block hk7.out
              obtain ⟨⟨u0, u1, u2, u3⟩, hu⟩ := set_of_block hb8'.out
              go_wp2_with fail
              refine (BT.out _ HT7.out).mono ?_
              rintro e w9 ⟨rfl, hb9⟩
              have H9 := qhid (H7.out.below hb9)
              clear hb9 H7 hk7 hb8' HT7 z0 z1 z2 z3 u0 u1 u2 u3 hz hu
              go_wp2_with fail
              obtain ⟨W, hW⟩ : ∃ W, W = w9.alloc (setOb noW) := ⟨_, rfl⟩
              obtain ⟨b9, hb9⟩ : ∃ b9, b9 = w9.heap.size := ⟨_, rfl⟩
              have hw9 := H9.out.2.size
              rw [World.size_alloc] at hw9
              have h9w : ¬ b9 = w.heap.size := by omega
              have h9g : ¬ b9 = g := by have := H9.out.1.lt; omega
              have h0g : ¬ w.heap.size = g := by have := HH.out.lt; omega
              have HW : Hid (Rd (w.alloc setObj) W g s j2) := qhid (by rw [hW]; exact H9.out.below (below1 _ _))
              have HC : OwnSet W b9 noW := by subst hW hb9; exact OwnSet.of (heap_new w9 (setOb noW))
              obtain ⟨⟨z0, z1, z2, z3⟩, _, hz⟩ := HC
              have HQ0 : OwnSet W w.heap.size noW := OwnSet.of (t := noW) (kept_first HH.out HW.out)
              have HQ0' := qhid HQ0
              obtain ⟨⟨q0, q1, q2, q3⟩, ⟨f0, f1, f2, f3⟩, hsz⟩ := HQ0
              have TB := qhid (tback_any g k 5 s j2 W.drew (HW.out.drewN 1).1)
              have HPUT : Hid (Rd (w.alloc setObj) (W.setCell ⟨g, 0, none⟩ (.int .i64 (k : Int))) g s k) := qhid (HW.out.put rfl)
              have HQ2 : Hid (OwnSet (W.setCell ⟨g, 0, none⟩ (.int .i64 (k : Int))) w.heap.size noW) := qhid (HQ0'.out.rd ((Rd.refl HW.out.1).put (j := k) rfl) h0g)
              rw [← hb9]
              change Code.wp _ _ _ _ (w9.alloc (setOb noW))
              rw [← hW]
              clear hW hb9 H9 hw9 HW HQ0'
              generalize setVal t = vt
              generalize setVal t2 = vt2
              go_region_with (go_at_call 100; refine TB.out.mono ?_; rintro e w' ⟨rfl, rfl⟩)
              all_goals
                generalize W.setCell ⟨g, 0, none⟩ (.int .i64 (k : Int)) = W2 at *
                have HRw : Hid (Rd w W2 g s k) := qhid ⟨HPUT.out.1, only_first HPUT.out.2⟩
                clear q0 q1 q2 q3 f0 f1 f2 f3 hsz z0 z1 z2 z3 hz h9w h9g h0g TB
                obtain ⟨⟨q0, q1, q2, q3⟩, ⟨f0, f1, f2, f3⟩, hsz⟩ := HQ2.out
                go_wp2_with fail
                refine bodyPost_ret (v := setAns noW 5) (by simp [results, Tryz.results128, go_sem, setAns, noW, q0, q1, q2, q3]) rfl (finS HF.out ?_)
                exact (HRw.out.set (Nat.le_refl _) hlt noW).drewN 1
            · have HF : Hid (itemR s k = (rngW a b, 0, j2)) := qhid (by rw [HF0.out, HTO.out, if_neg hba])
              have hrne := ne_words (rngW_some hb256 (by omega : a ≤ b))
              generalize rngW a b = rr at *
              have hr0 : ((¬ rr.a = 0 ∨ ¬ rr.b = 0) ∨ ¬ rr.c = 0) ∨ ¬ rr.d = 0 := hrne
              have hr1 : (rr.a == 0 && rr.b == 0 && rr.c == 0 && rr.d == 0) = false := by
                cases hx : (rr.a == 0 && rr.b == 0 && rr.c == 0 && rr.d == 0)
                · rfl
                · simp at hx; obtain ⟨⟨⟨h1, h2⟩, h3⟩, h4⟩ := hx; exact absurd hr0 (by simp [h1, h2, h3, h4])
              have HR01 := qhid hr1
              clear hba hb256 ho2 HTO HF0 hp2 HO hrne
              go_enter Tryz.func128, Tryz.ntmps128
              go_wp2_with fail
              refine (PART.out _ HA.out).mono ?_
              rintro e w1 ⟨rfl, hr1⟩
              have H1 : Hid (Rd (w.alloc setObj) w1 g s j) := qhid hr1
              clear hr1 r0 r1 rz rl
              unfold setAns
              have H2 : Hid (Rd (w.alloc setObj) (w1.alloc (setOb t)) g s j) := qhid (H1.out.below (below1 w1 _))
              have hb2 := qhid (heap_new w1 (setOb t))
              have h5g : Hid (w1.heap.size ≠ g) := qhid (by have := H1.out.1.lt; omega)
              clear H1
              go_wp2_with fail
              refine (SE.out _ H2.out.1).mono ?_
              rintro e w3 ⟨rfl, n3, hw3⟩
              have H3 : Hid (Rd (w.alloc setObj) w3 g s j) := qhid (by rw [hw3]; exact H2.out.drewN n3)
              have hb3 : Hid (w3.heap[w1.heap.size]? = some (setOb t)) := qhid (by rw [hw3]; exact hb2.out)
              clear hw3 hb2 H2
              generalize w1.heap.size = b5 at *
              obtain ⟨⟨z0, z1, z2, z3⟩, hz⟩ := set_of_block hb3.out
              go_wp2_with fail
              refine (CNT.out _).mono ?_
              rintro e w4 ⟨rfl, hb4⟩
              have H4 := qhid (H3.out.below hb4)
              have hk4 := qhid (below_kept hb4 hb3.out)
              clear hb4 hb3 H3 z0 z1 z2 z3 hz
              obtain ⟨y0, y1, yz, yl⟩ := H4.out.1
              go_wp2_with fail
              refine (ST.out _ H4.out.1).mono ?_
              rintro e w5 ⟨rfl, hw5⟩
              have H45 : Hid (Rd w4 w5 g s q) := qhid ((Rd.refl H4.out.1).put (by rw [hw5, HQ.out]; rfl))
              clear hw5 y0 y1 yz yl
              have H5 := qhid (H4.out.trans H45.out)
              have hk5 := qhid (H45.out.kept hk4.out h5g.out)
              clear H45 hk4 H4
              obtain ⟨y0, y1, yz, yl⟩ := H5.out.1
              go_wp2_with fail
              refine (PART2.out _ H5.out.1).mono ?_
              rintro e w6 ⟨rfl, hr6⟩
              have H6 := qhid (H5.out.trans hr6)
              have hk6 := qhid (hr6.kept hk5.out h5g.out)
              clear hr6 H5 hk5 y0 y1 yz yl
              unfold setAns
              have H6a : Hid (Rd (w.alloc setObj) (w6.alloc (setOb t2)) g s j2) := qhid (H6.out.below (below1 w6 _))
              have hk6a := qhid (below_kept (below1 w6 (setOb t2)) hk6.out)
              have hb8 := qhid (heap_new w6 (setOb t2))
              clear H6 hk6
              go_wp2_with fail
              refine (CNT2.out _).mono ?_
              rintro e w7 ⟨rfl, hb7⟩
              have H7 := qhid (H6a.out.below hb7)
              have hk7 := qhid (below_kept hb7 hk6a.out)
              have hb8' := qhid (below_kept hb7 hb8.out)
              clear hb7 H6a hk6a hb8
              generalize w6.heap.size = b8 at *
              have HT7 := qhid ((HT.out.alloc setObj).rd H7.out hne)
              obtain ⟨⟨z0, z1, z2, z3⟩, hz⟩ := set_of_block hk7.out
              obtain ⟨⟨u0, u1, u2, u3⟩, hu⟩ := set_of_block hb8'.out
              go_wp2_with fail
              refine (BT.out _ HT7.out).mono ?_
              rintro e w9 ⟨rfl, hb9⟩
              have H9 := qhid (H7.out.below hb9)
              clear hb9 H7 hk7 hb8' HT7 z0 z1 z2 z3 u0 u1 u2 u3 hz hu
              obtain ⟨⟨q0, q1, q2, q3⟩, ⟨f0, f1, f2, f3⟩, hsz⟩ := set_cells (kept_first HH.out H9.out)
              have HRw : Hid (Rd w w9 g s j2) := qhid ⟨H9.out.1, only_first H9.out.2⟩
              go_wp2_with fail
              refine bodyPost_ret (v := setAns rr 0) (by simp [results, Tryz.results128, go_sem, setAns, hsz, q0, q1, q2, q3]) rfl (finS HF.out ?_)
              exact (HRw.out.set (Nat.le_refl _) hlt rr).below (below1 _ _)
        · have HF : Hid (itemR s k = (noW, c2, j2)) := qhid (by rw [HF0.out, HTO.out, if_pos hd0])
          clear HTO HF0 hp2 hd0
          go_enter Tryz.func128, Tryz.ntmps128
          go_wp2_with fail
          refine (PART.out _ HA.out).mono ?_
          rintro e w1 ⟨rfl, hr1⟩
          have H1 : Hid (Rd (w.alloc setObj) w1 g s j) := qhid hr1
          clear hr1 r0 r1 rz rl
          unfold setAns
          have H2 : Hid (Rd (w.alloc setObj) (w1.alloc (setOb t)) g s j) := qhid (H1.out.below (below1 w1 _))
          have hb2 := qhid (heap_new w1 (setOb t))
          have h5g : Hid (w1.heap.size ≠ g) := qhid (by have := H1.out.1.lt; omega)
          clear H1
          go_wp2_with fail
          refine (SE.out _ H2.out.1).mono ?_
          rintro e w3 ⟨rfl, n3, hw3⟩
          have H3 : Hid (Rd (w.alloc setObj) w3 g s j) := qhid (by rw [hw3]; exact H2.out.drewN n3)
          have hb3 : Hid (w3.heap[w1.heap.size]? = some (setOb t)) := qhid (by rw [hw3]; exact hb2.out)
          clear hw3 hb2 H2
          generalize w1.heap.size = b5 at *
          obtain ⟨⟨z0, z1, z2, z3⟩, hz⟩ := set_of_block hb3.out
          go_wp2_with fail
          refine (CNT.out _).mono ?_
          rintro e w4 ⟨rfl, hb4⟩
          have H4 := qhid (H3.out.below hb4)
          have hk4 := qhid (below_kept hb4 hb3.out)
          clear hb4 hb3 H3 z0 z1 z2 z3 hz
          obtain ⟨y0, y1, yz, yl⟩ := H4.out.1
          go_wp2_with fail
          refine (ST.out _ H4.out.1).mono ?_
          rintro e w5 ⟨rfl, hw5⟩
          have H45 : Hid (Rd w4 w5 g s q) := qhid ((Rd.refl H4.out.1).put (by rw [hw5, HQ.out]; rfl))
          clear hw5 y0 y1 yz yl
          have H5 := qhid (H4.out.trans H45.out)
          have hk5 := qhid (H45.out.kept hk4.out h5g.out)
          clear H45 hk4 H4
          obtain ⟨y0, y1, yz, yl⟩ := H5.out.1
          go_wp2_with fail
          refine (PART2.out _ H5.out.1).mono ?_
          rintro e w6 ⟨rfl, hr6⟩
          have H6 := qhid (H5.out.trans hr6)
          have hk6 := qhid (hr6.kept hk5.out h5g.out)
          clear hr6 H5 hk5 y0 y1 yz yl
          unfold setAns
          obtain ⟨⟨q0, q1, q2, q3⟩, ⟨f0, f1, f2, f3⟩, hsz⟩ := set_cells (kept_first HH.out H6.out)
          have HRw : Hid (Rd w w6 g s j2) := qhid ⟨H6.out.1, only_first H6.out.2⟩
          go_wp2_with fail
          refine bodyPost_ret (v := setAns noW c2) (by simp [results, Tryz.results128, go_sem, setAns, noW, hsz, q0, q1, q2, q3]) rfl (finS HF.out ?_)
          exact (HRw.out.set (Nat.le_refl _) hlt noW).below (below1 _ _)
    · rw [decide_eq_false h45] at SE
      have HF : Hid (itemR s k = (t, 0, j)) := qhid (by rw [HIT.out, if_pos (.inr h45)])
      clear h45 HIT hp
      go_enter Tryz.func128, Tryz.ntmps128
      go_wp2_with fail
      refine (PART.out _ HA.out).mono ?_
      rintro e w1 ⟨rfl, hr1⟩
      have H1 : Hid (Rd (w.alloc setObj) w1 g s j) := qhid hr1
      clear hr1 r0 r1 rz rl
      unfold setAns
      have H2 : Hid (Rd (w.alloc setObj) (w1.alloc (setOb t)) g s j) := qhid (H1.out.below (below1 w1 _))
      have hb2 := qhid (heap_new w1 (setOb t))
      have h5g : Hid (w1.heap.size ≠ g) := qhid (by have := H1.out.1.lt; omega)
      clear H1
      go_wp2_with fail
      refine (SE.out _ H2.out.1).mono ?_
      rintro e w3 ⟨rfl, n3, hw3⟩
      have H3 : Hid (Rd (w.alloc setObj) w3 g s j) := qhid (by rw [hw3]; exact H2.out.drewN n3)
      have hb3 : Hid (w3.heap[w1.heap.size]? = some (setOb t)) := qhid (by rw [hw3]; exact hb2.out)
      clear hw3 hb2 H2
      generalize w1.heap.size = b5 at *
      obtain ⟨⟨z0, z1, z2, z3⟩, hz⟩ := set_of_block hb3.out
      obtain ⟨⟨q0, q1, q2, q3⟩, ⟨f0, f1, f2, f3⟩, _hsz⟩ := set_cells (kept_first HH.out H3.out)
      have HRw : Hid (Rd w w3 g s j) := qhid ⟨H3.out.1, only_first H3.out.2⟩
      go_wp2_with fail
      refine bodyPost_ret (v := setAns t 0) (by simp [results, Tryz.results128, go_sem, setAns, q0, q1, q2, q3]) rfl (finS HF.out ?_)
      exact HRw.out.set (Nat.le_refl _) hlt t
  · have HF : Hid (itemR s k = (t, c, j)) := qhid (by rw [HIT.out, if_pos (.inl hc0)])
    clear HIT hp hc0
    go_enter Tryz.func128, Tryz.ntmps128
    go_wp2_with fail
    refine (PART.out _ HA.out).mono ?_
    rintro e w1 ⟨rfl, hr1⟩
    have H1 : Hid (Rd (w.alloc setObj) w1 g s j) := qhid hr1
    clear hr1 r0 r1 rz rl
    unfold setAns
    obtain ⟨⟨q0, q1, q2, q3⟩, ⟨f0, f1, f2, f3⟩, hsz⟩ := set_cells (kept_first HH.out H1.out)
    have HRw : Hid (Rd w w1 g s j) := qhid ⟨H1.out.1, only_first H1.out.2⟩
    go_wp2_with fail
    refine bodyPost_ret (v := setAns t c) (by simp [results, Tryz.results128, go_sem, setAns, hsz, q0, q1, q2, q3]) rfl (finS HF.out ?_)
    exact (HRw.out.set (Nat.le_refl _) hlt t).below (below1 _ _)
end Go.Proofs.YtenibhmjcafbiaaGreatDoor
