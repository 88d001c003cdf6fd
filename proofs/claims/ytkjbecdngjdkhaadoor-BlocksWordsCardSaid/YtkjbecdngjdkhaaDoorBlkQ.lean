/- The law BlocksOf, walked. -/
import Derived.Test.YtkjbecdngjdkhaaDoorBlkP
namespace Go.Proofs.YtkjbecdngjdkhaaDoor
open Go Go.RowKit
attribute [local go_sem ↓] Go.wp_at_zero Go.wp_at_succ
attribute [local go_sem] eq4
theorem OnRel.cell {w wr : World} {go k m : Nat} {f : Nat → Bool} (h : OnRel w go f k wr) (hm : m < 256) : (∃ ov : Bool, wr.cell? ⟨go, m, none⟩ = some (.bool ov)) ∧ wr.frozen? ⟨go, m, none⟩ = false ∧ go < wr.heap.size ∧ Below w.heap.size w wr :=
  ⟨⟨_, (Joins.cell_of_block h.1 m).trans (bl_at _ m hm)⟩, Joins.unfrozen_of_block h.1 m, Reg.size_of_get h.1, h.2.2⟩
set_option maxHeartbeats 1000000 in
theorem set_out (g : Nat) (of : Nat → Nat) (l : List W4) (i : Int) (hi : inN i l.length = false) (w : World) (h : BlkAt w g of l) :
    Calls Tryd.prog 17 #[.pointer (some ⟨g, 0, none⟩), .int .i64 i] w fun e w' => e = .returned noW.val ∧ Below w.heap.size w w' := by
  have HC := hid (fun W (hW : BlkAt W g of l) => there_any (some ⟨g, 0, none⟩) l.length i W (count_at g of l W hW))
  have H2 := hid (h.below (below1 w (.cells #[.int .u64 0, .int .u64 0, .int .u64 0, .int .u64 0] 35)) (Nat.le_refl _))
  have HIN := hid hi
  clear h hi
  go_enter Tryd.func17, Tryd.ntmps17
  go_wp2_with fail
  refine (HC.out _ H2.out).mono ?_
  rintro e w1 ⟨rfl, hw⟩
  obtain rfl := hw
  rw [HIN.out]
  go_wp2_with fail
  exact bodyPost_ret (v := noW.val) (by simp [results, Tryd.results17, go_sem, noW, W4.val]) rfl ⟨rfl, below1 _ _⟩
theorem first_lead {E : Nat → Nat → Bool} (hE : Sorts E) {t : W4} {i a : Nat} (ha : (leads E 256)[i]? = some a) (hm : ∀ n, n < 256 → t.mem n = decide (num E n = i)) {v : Value} (h : FirstIs t.mem v) : v = .tuple #[.int .u8 (a : Int), .bool true] := by
  have hal := leads_lt 256 a (List.mem_of_getElem? ha)
  have hta : t.mem a = true := by rw [hm a hal, lead_num hE ha]; simp
  rcases h with ⟨h0, _⟩ | ⟨m, hml, h1, h2, rfl⟩
  · rw [h0 a hal] at hta; cases hta
  · have h3 : ¬ m < a := fun hlt => by
      rw [hm m hml] at h1
      exact lead_least hE ha m hlt (by simpa using h1)
    have h4 : ¬ a < m := fun hlt => by rw [h2 a hlt] at hta; cases hta
    obtain rfl : m = a := by omega
    rfl
set_option maxRecDepth 100000 in
set_option maxHeartbeats 4000000 in
theorem oflaw_small (p : Option Addr) (n cap : Nat) (L : List W4) (i : Int) (w : World) (hn : n ≤ 20) (hR : SetsRow w p n L) (hT : ∀ w', Below w.heap.size w w' → Tab w') :
    Calls Tryd.prog 3 #[.slice p n cap, .int .i64 i] w fun e w' => e = .returned (.bool true) ∧ Below w.heap.size w w' := by
  have HT := hid hT
  have HR := hid hR
  have d20 : decide ((20 : Int) < (n : Int)) = false := decide_eq_false (by omega)
  have hmk : ∀ w, (Instr.makeSlice 32 (.int .i64 256) (.int .i64 256)).run Tryd.prog w = .ok (.slice (some ⟨w.heap.size, 0, none⟩) 256 256) (w.alloc (.cells (bl fun _ => false) 4)) := fun _ => by kernel_rfl
  have HE := hid (allE_sorts L)
  obtain ⟨i0, hif, hz0, hz1, hz2⟩ := info_parts Tryd.infoInt
  clear hT hR
  go_enter Tryd.func3, Tryd.ntmps3
  go_wp2_with fail
  refine (new_row p n cap L w HR.out (by omega)).mono ?_
  rintro e w1 ⟨g, ls, rfl, hg, hX, hb1⟩
  have HB1 := hid hb1
  have HX1 := hid hX
  have hsz1 := hb1.size
  clear hb1 hX
  go_wp2_with fail
  go_loopw [6, 7] (fun v b wr => ∃ k : Nat, k ≤ 256 ∧ b = .int .i64 k ∧ Hid (LeadRel w1 (allE L) k v wr)) (fun _ b _ => 256 - (intOf b).toNat)
  case atStart => exact ⟨0, by omega, rfl, hid (LeadRel.start _ _)⟩
  case round =>
    obtain ⟨k, hk, rfl, HL⟩ := hrel
    obtain ⟨wo, rfl⟩ : ∃ wo : World, wo = wr := ⟨_, rfl⟩
    by_cases hlk : k < 256
    · obtain ⟨pl, cl, rfl, hcells⟩ := HL.out.at
      have HC := hid hcells
      have hll := leads_len' (allE L) k
      have hku : IntKind.u8.wrap (k : Int) = (k : Int) := by simp [IntKind.wrap, IntKind.signed, IntKind.bits]; omega
      have d256 : decide ((k : Int) < 256) = true := decide_eq_true (by omega)
      clear hcells
      go_wp2_with fail
      go_loopw [8, 9] (fun z m wx => ∃ (j : Nat) (zi : Int), j ≤ (leads (allE L) k).length ∧ m = .int .i64 j ∧ z = .int .i64 zi ∧ Hid (Want (allE L) (leads (allE L) k) k j zi) ∧ Hid (Below wo.heap.size wo wx)) (fun _ m _ => (leads (allE L) k).length - (intOf m).toNat)
      case atStart => exact ⟨0, -1, by omega, rfl, rfl, hid (Want.start _ _ _), hid (Below.refl _ _)⟩
      case round =>
        obtain ⟨j, zi, hj, rfl, rfl, HW, HBX⟩ := hrel
        have HBW : Hid (Below w.heap.size w wr) := hid (HB1.out.trans ((HL.out.2.trans (HBX.out.mono HL.out.2.size)).mono hsz1))
        by_cases hjl : j < (leads (allE L) k).length
        · obtain ⟨a, ha⟩ : ∃ a, (leads (allE L) k)[j]? = some a := ⟨_, List.getElem?_eq_getElem hjl⟩
          obtain ⟨gl, rfl, hgl, hcl⟩ := HC.out j a ha
          have hal := leads_lt k a (List.mem_of_getElem? ha)
          have hcl2 := (HBX.out.cell (p := ⟨gl, j, none⟩) hgl).trans hcl
          have HYES : Hid (allE L a k = true → Want (allE L) (leads (allE L) k) k (j + 1) (j : Int)) := hid (Want.yes ha)
          have HNO : Hid (allE L a k = false → Want (allE L) (leads (allE L) k) k (j + 1) zi) := hid (Want.no HW.out ha)
          have hglr : gl < wr.heap.size := Nat.lt_of_lt_of_le hgl HBX.out.size
          have TOG := hid (together_any p n cap L a k (by omega) hlk wr (HR.out.up HBW.out) (by omega))
          clear hcl ha
          go_wp2_with fail
          refine TOG.out.mono ?_
          rintro e w2 ⟨rfl, hb2⟩
          have HBX2 : Hid (Below wo.heap.size wo w2) := hid (HBX.out.trans (hb2.mono HBX.out.size))
          clear hb2 hcl2
          cases hall : allE L a k
          · have HN := hid (HNO.out hall)
            clear hall
            go_wp2_with fail
            go_roundw
            case rel => exact ⟨j + 1, zi, by omega, by go_num, rfl, HN, HBX2⟩
            case measure => simp [intOf]; omega
          · have HY := hid (HYES.out hall)
            clear hall
            go_wp2_with fail
            go_roundw
            case rel => exact ⟨j + 1, j, by omega, by go_num, rfl, HY, HBX2⟩
            case measure => simp [intOf]; omega
        · obtain rfl : j = (leads (allE L) k).length := by omega
          have OFC := hid (fun W hW => blkof_any g (num (allE L)) ls k hlk W hW)
          have hzr : w1.heap.size ≤ wr.heap.size := Nat.le_trans HL.out.2.size HBX.out.size
          rcases HW.out.ends HE.out with ⟨rfl, hnew, hnum⟩ | ⟨rfl, hold⟩
          · have HNEW := hid hnew
            have HNUM := hid hnum
            clear hnew hnum
            go_wp2_with (at_builtin; go_must (refine wpList_append_own_at _ rfl (.tmp 43) (.tmp 45) 26 rfl w1.heap.size 3 i0 (.int .i64 0) 1 8 Tryd.underlying26 hif hz0 hz1 hz2 rfl (by decide) (.slice pl (leads (allE L) k).length cl) (leads (allE L) k).length (nats (leads (allE L) k)) rfl (ownsAlloc (ownsBelow HL.out.1 HBX.out) _) ⟨_, 0, none⟩ 1 1 _ rfl rfl (cell_one_new _ _ _) (one_int _) (by unfold maxLen; omega) (by omega) (by simp; omega) ?_; intro v4 w4 ho hg4 _ _; have HLN : Hid (LeadRel w1 (allE L) (k + 1) v4 w4) := hid (LeadRel.new HL.out HNEW.out HBX.out ho hg4); clear ho hg4))
            refine (OFC.out _ (HX1.out.blk.below HLN.out.2 (Nat.le_refl _))).mono ?_
            rintro e w5 ⟨rfl, hw5⟩
            obtain rfl : w4 = w5 := hw5
            rw [HNUM.out]
            go_wp2_with fail
            go_roundw
            case rel => exact ⟨k + 1, by omega, by go_num, HLN⟩
            case measure => simp [intOf]; omega
          · have HOLD := hid hold
            have dn : decide (((num (allE L) k : Nat) : Int) < 0) = false := decide_eq_false (by omega)
            have HLN : Hid (LeadRel w1 (allE L) (k + 1) (.slice pl (leads (allE L) k).length cl) wr) := hid (LeadRel.old HL.out HOLD.out HBX.out)
            clear hold
            go_wp2_with fail
            refine (OFC.out _ (HX1.out.blk.below HLN.out.2 (Nat.le_refl _))).mono ?_
            rintro e w5 ⟨rfl, hw5⟩
            obtain rfl := hw5
            go_wp2_with fail
            go_roundw
            case rel => exact ⟨k + 1, by omega, by go_num, HLN⟩
            case measure => simp [intOf]; omega
    · obtain rfl : k = 256 := by omega
      obtain ⟨pl, cl, rfl, hcells⟩ := HL.out.at
      have HX := hid (HX1.out.below HL.out.2 (Nat.le_refl _))
      have HLEN := hid HX1.out.len
      have hsmall := leads_len' (allE L) 256
      have HBO := hid (HB1.out.trans (HL.out.2.mono hsz1))
      have hszo := HBO.out.size
      by_cases hin : inN i ls.length = true
      · obtain ⟨idx, rfl, hidx⟩ : ∃ idx : Nat, i = (idx : Int) ∧ idx < ls.length := by
          unfold inN at hin
          simp at hin
          exact ⟨i.toNat, by omega, by omega⟩
        clear hin
        obtain ⟨t, ht⟩ : ∃ t, ls[idx]? = some t := ⟨_, List.getElem?_eq_getElem hidx⟩
        obtain ⟨a, ha⟩ : ∃ a, (leads (allE L) 256)[idx]? = some a := ⟨_, List.getElem?_eq_getElem (by rw [← HLEN.out]; exact hidx)⟩
        have hal := leads_lt 256 a (List.mem_of_getElem? ha)
        obtain ⟨gl, rfl, hgl, hcl⟩ := hcells idx a ha
        have d1 : decide (idx < (leads (allE L) 256).length) = true := decide_eq_true (by rw [← HLEN.out]; exact hidx)
        have hau : ((a : Int) == (a : Int)) = true := by simp
        have hil : idx < (leads (allE L) 256).length := by rw [← HLEN.out]; exact hidx
        have LST : Hid (Calls Tryd.prog 15 #[.pointer (some ⟨g, 0, none⟩), .int .i64 (idx : Int)] wo fun e w' => e = .returned (.tuple #[.int .u8 (a : Int), .bool true]) ∧ Below wo.heap.size wo w') := hid
          ((least_any (some ⟨g, 0, none⟩) idx t (HX.out.blk.fit t (List.mem_of_getElem? ht)) wo (set_yes g _ ls idx t ht wo HX.out.blk) (fun w' hb' => HT.out _ (HBO.out.trans (hb'.mono hszo)))).mono (by
            rintro e w' ⟨v, rfl, hf, hb⟩
            exact ⟨by rw [first_lead HE.out ha (fun n hn => HX.out.mem idx t ht n hn) hf], hb⟩))
        have HTI := hid ht
        clear ht ha hcells
        go_wp2_with fail
        refine LST.out.mono ?_
        rintro e w3 ⟨rfl, hb3⟩
        have HB3 := hid (HBO.out.trans (hb3.mono hszo))
        have HX3 := hid (HX.out.below hb3 (Nat.le_refl _))
        have hcl3 := (hb3.cell (p := ⟨gl, idx, none⟩) hgl).trans hcl
        have hgl3 : gl < w3.heap.size := Nat.lt_of_lt_of_le hgl hb3.size
        have CNT : Hid (Calls Tryd.prog 16 #[.pointer (some ⟨g, 0, none⟩)] w3 fun e w' => e = .returned (.int .i64 (((leads (allE L) 256).length : Nat) : Int)) ∧ w3 = w') := hid (by
          have h := count_at g _ ls w3 HX3.out.blk
          rw [HLEN.out] at h
          exact h)
        clear hb3 hcl
        go_wp2_with fail
        refine CNT.out.mono ?_
        rintro e w4 ⟨rfl, hw4⟩
        obtain rfl := hw4
        go_wp2_with fail
        clear hmk CNT hcl3 hau
        go_loopw [14] (fun b wr => ∃ m : Nat, m ≤ 256 ∧ b = .int .i64 m ∧ Hid (OnRel w3 w3.heap.size (fun n => ((num (allE L) n : Nat) : Int) == (idx : Int)) m wr)) (fun b _ => 256 - (intOf b).toNat)
        case atStart => exact ⟨0, by omega, rfl, hid (OnRel.start _ _)⟩
        case round =>
          obtain ⟨m, hm, rfl, HON⟩ := hrel
          by_cases hml : m < 256
          · have hmu : IntKind.u8.wrap (m : Int) = (m : Int) := by simp [IntKind.wrap, IntKind.signed, IntKind.bits]; omega
            have OF := hid (blkof_any g (num (allE L)) ls m hml wr (HX3.out.blk.below (HON.out.cell hml).2.2.2 (Nat.le_refl _)))
            obtain ⟨⟨ov, q0⟩, f0, hgo, _hbo⟩ := HON.out.cell hml
            clear _hbo
            have HNX := hid (HON.out.next hml)
            have dm : decide ((m : Int) < 256) = true := decide_eq_true (by omega)
            go_wp2_with fail
            refine OF.out.mono ?_
            rintro e w4 ⟨rfl, hw4⟩
            obtain rfl := hw4
            go_wp2_with fail
            go_roundw
            case rel => exact ⟨m + 1, by omega, by go_num, HNX⟩
            case measure => simp [intOf]; omega
          · obtain rfl : m = 256 := by omega
            have HBA := hid HON.out.ends
            have HX4 := hid (HX3.out.below HON.out.2.2 (Nat.le_refl _))
            have HB4 := hid (HB3.out.trans (HON.out.2.2.mono HB3.out.size))
            have hsz4 := HB4.out.size
            go_wp2_with fail
            refine (set_yes g _ ls idx t HTI.out _ HX4.out.blk).mono ?_
            rintro e w5 ⟨rfl, hb5⟩
            have HB5 := hid (HB4.out.trans (hb5.mono hsz4))
            have hsz5 := HB5.out.size
            have HBA5 := hid (HBA.out.below hb5 HBA.out.1)
            have HFT := hid (HX4.out.blk.fit t (List.mem_of_getElem? HTI.out))
            clear hb5
            unfold W4.val
            go_wp2_with fail
            refine (make_known t.a t.b t.c t.d HBA5.out HFT.out.1 HFT.out.2.1 HFT.out.2.2.1 HFT.out.2.2.2 (fun n hn => (HX4.out.mem idx t HTI.out n hn).trans (by rw [Bool.eq_iff_iff]; simp; omega))).mono ?_
            rintro e w6 ⟨rfl, hb6⟩
            have HB6 := hid (HB5.out.trans (hb6.mono hsz5))
            have hsz6 := HB6.out.size
            clear hb6
            go_wp2_with fail
            refine (awakeB_any _ (fun w' hb' => HT.out _ (HB6.out.trans (hb'.mono hsz6)))).mono ?_
            rintro e w7 ⟨rfl, hb7⟩
            have HB7 := hid (HB6.out.trans (hb7.mono hsz6))
            clear hb7
            go_wp2_with fail
            go_ret
            exact ⟨rfl, HB7.out⟩
      · have hinf : inN i ls.length = false := by simpa using hin
        have LST : Hid (Calls Tryd.prog 15 #[.pointer (some ⟨g, 0, none⟩), .int .i64 i] wo fun e w' => e = .returned (.tuple #[.int .u8 0, .bool false]) ∧ Below wo.heap.size wo w') := hid
          ((least_any (some ⟨g, 0, none⟩) i noW noW_fit wo (set_out g _ ls i hinf wo HX.out.blk) (fun w' hb' => HT.out _ (HBO.out.trans (hb'.mono hszo)))).mono (by
            rintro e w' ⟨v, rfl, hf, hb⟩
            rcases hf with ⟨_, rfl⟩ | ⟨m, _, h, _, _⟩
            · exact ⟨rfl, hb⟩
            · rw [noW_mem] at h; cases h))
        have HIF := hid hinf
        have hcase : (decide (0 ≤ i) = false) ∨ (decide (0 ≤ i) = true ∧ decide (i < (((leads (allE L) 256).length : Nat) : Int)) = false) := by
          by_cases h0 : 0 ≤ i
          · right
            refine ⟨decide_eq_true h0, decide_eq_false ?_⟩
            have := HIF.out
            unfold inN at this
            rw [decide_eq_true h0, HLEN.out] at this
            simpa using this
          · exact .inl (decide_eq_false h0)
        clear hin hinf hcells
        rcases hcase with hi0 | ⟨hi0, hi1⟩
        all_goals
          go_wp2_with fail
          refine LST.out.mono ?_
          rintro e w3 ⟨rfl, hb3⟩
          have HB3 := hid (HBO.out.trans (hb3.mono hszo))
          have HX3 := hid (HX.out.below hb3 (Nat.le_refl _))
          have CNT : Hid (Calls Tryd.prog 16 #[.pointer (some ⟨g, 0, none⟩)] w3 fun e w' => e = .returned (.int .i64 (((leads (allE L) 256).length : Nat) : Int)) ∧ w3 = w') := hid (by
            have h := count_at g _ ls w3 HX3.out.blk
            rw [HLEN.out] at h
            exact h)
          clear hb3
          go_wp2_with fail
          refine CNT.out.mono ?_
          rintro e w4 ⟨rfl, hw4⟩
          obtain rfl := hw4
          go_wp2_with fail
          clear hmk CNT
          have HON := hid (OnRel.start w3 (fun _ => false))
          have HBA : Hid (BoolsAt (w3.alloc (.cells (bl fun _ => false) 4)) w3.heap.size (fun _ => false)) := hid (bools_of_block (heap_new _ _))
          have HX4 := hid (HX3.out.below HON.out.2.2 (Nat.le_refl _))
          have HB4 := hid (HB3.out.trans (HON.out.2.2.mono HB3.out.size))
          have hsz4 := HB4.out.size
          clear HON
          generalize w3.alloc (.cells (bl fun _ => false) 4) = w4 at *
          go_loopw [14] (fun b wr => b = .int .i64 0 ∧ wr = w4) (fun _ _ => 0)
          case atStart => exact ⟨rfl, rfl⟩
          case round =>
            obtain ⟨rfl, rfl⟩ := hrel
            go_wp2_with fail
            refine (set_out g _ ls i HIF.out _ HX4.out.blk).mono ?_
            rintro e w5 ⟨rfl, hb5⟩
            have HB5 := hid (HB4.out.trans (hb5.mono hsz4))
            have hsz5 := HB5.out.size
            have HBA5 := hid (HBA.out.below hb5 HBA.out.1)
            clear hb5
            unfold W4.val noW
            go_wp2_with fail
            refine (make_known 0 0 0 0 HBA5.out noW_fit.1 noW_fit.2.1 noW_fit.2.2.1 noW_fit.2.2.2 (fun n hn => memb_zero n)).mono ?_
            rintro e w6 ⟨rfl, hb6⟩
            have HB6 := hid (HB5.out.trans (hb6.mono hsz5))
            have hsz6 := HB6.out.size
            clear hb6
            go_wp2_with fail
            refine (awakeB_any _ (fun w' hb' => HT.out _ (HB6.out.trans (hb'.mono hsz6)))).mono ?_
            rintro e w7 ⟨rfl, hb7⟩
            have HB7 := hid (HB6.out.trans (hb7.mono hsz6))
            clear hb7
            go_wp2_with fail
            go_ret
            exact ⟨rfl, HB7.out⟩
theorem oflaw_all {v : Value} {w : World} (h : ∃ p n c L, v = .slice p n c ∧ SetsRow w p n L ∧ (p = none → c = 0)) (i : Int) (hT : ∀ w', Below w.heap.size w w' → Tab w') :
    Calls Tryd.prog 3 #[v, .int .i64 i] w fun e w' => e = .returned (.bool true) ∧ Below w.heap.size w w' := by
  obtain ⟨p, n, c, L, rfl, hR, hp⟩ := h
  by_cases hn : 20 < n
  · exact oflaw_big p n c i w hn hT
  · exact oflaw_small p n c L i w (by omega) hR hT
end Go.Proofs.YtkjbecdngjdkhaaDoor
