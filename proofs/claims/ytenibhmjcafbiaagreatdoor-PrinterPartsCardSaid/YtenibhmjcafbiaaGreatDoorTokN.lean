/- Contracts of token's reader: an escape. Contracts of token's reader: a byte, or an escape, of a class. -/
import Derived.Test.YtenibhmjcafbiaaGreatDoorTokL
namespace Go.Proofs.YtenibhmjcafbiaaGreatDoor
section
open Go Go.RowKit
attribute [local go_sem ↓] Go.wp_at_zero Go.wp_at_succ
attribute [local go_sem] eq4
abbrev refS : ByteArray := ⟨#[49, 50, 51, 52, 53, 54, 55, 56, 57, 98, 66, 65, 122, 90, 71, 81, 69, 107, 112, 80]⟩
def refB (b : Nat) : Bool := [49, 50, 51, 52, 53, 54, 55, 56, 57, 98, 66, 65, 122, 90, 71, 81, 69, 107, 112, 80].contains b
theorem ref_idx (b : Nat) (hb : b < 256) : decide (0 ≤ firstIdx refS (b : Int).toNat.toUInt8) = refB b := by
  have hall : ∀ n : Fin 256, decide (0 ≤ firstIdx refS ((n.val : Nat) : Int).toNat.toUInt8) = refB n.val := by decide +kernel
  exact hall ⟨b, hb⟩
/-- What comes of an escape. -/
def escR (s : ByteArray) (k : Nat) : W4 × Int × Nat :=
  if s.size ≤ k + 1 then (noW, 4, k + 1) else if refB (bAt s (k + 1)) then (noW, 6, k) else if bAt s (k + 1) = 120 then pairR s (k + 1 + 1)
  else if (meanR (bAt s (k + 1))).2 then ((meanR (bAt s (k + 1))).1, 0, k + 1 + 1) else (noW, 4, k + 1)
set_option maxRecDepth 100000 in
set_option maxHeartbeats 8000000 in
theorem tescape_any (g k : Nat) (s : ByteArray) (hk : k < s.size) (hs : s.size ≤ 1099511627776) (w : World) (h : RdAt w g s k) :
    Calls Tryz.prog 117 #[.pointer (some ⟨g, 0, none⟩)] w fun e w' => e = .returned (setAns (escR s k).1 (escR s k).2.1) ∧ Rd w w' g s (escR s k).2.2 := by
  have HH := qhid h
  have hlt := h.lt
  have HA := qhid (rd_alloc h setObj)
  have ST := qhid (tstep_any g 1 1 s k (by omega) _ HA.out rfl)
  obtain ⟨q, hq⟩ : ∃ q, q = k + 1 := ⟨_, rfl⟩
  have HESC : Hid (escR s k = if s.size ≤ q then (noW, 4, q) else if refB (bAt s q) then (noW, 6, k) else if bAt s q = 120 then pairR s (q + 1) else if (meanR (bAt s q)).2 then ((meanR (bAt s q)).1, 0, q + 1) else (noW, 4, q)) := qhid (by rw [hq]; rfl)
  have HQ := qhid hq
  have hqs : q ≤ s.size := by omega
  clear hq
  have HE := qhid (fun W (hW : RdAt W g s q) => tended_any g s q W hW)
  obtain ⟨r0, r1, rz, rl⟩ := HA.out
  unfold setObj at ST r0 r1 rz rl
  clear h
  by_cases hend : s.size ≤ q
  · have HF : Hid (escR s k = (noW, 4, q)) := qhid (by rw [HESC.out, if_pos hend])
    rw [decide_eq_true hend] at HE
    go_enter Tryz.func117, Tryz.ntmps117
    go_wp2_with fail
    refine ST.out.mono ?_
    rintro e w2 ⟨rfl, hw2⟩
    have HR2 : Hid (Rd (w.alloc setObj) w2 g s q) := qhid ((Rd.refl HA.out).put (by rw [hw2, HQ.out]; rfl))
    clear hw2 r0 r1 rz rl
    go_wp2_with fail
    refine (HE.out _ HR2.out.1).mono ?_
    rintro e w3 ⟨rfl, n3, hw3⟩
    have HR3 : Hid (Rd (w.alloc setObj) w3 g s q) := qhid (by rw [hw3]; exact HR2.out.drewN n3)
    clear hw3
    obtain ⟨⟨q0, q1, q2, q3⟩, ⟨f0, f1, f2, f3⟩, _hsz⟩ := set_cells (kept_first HH.out HR3.out)
    have HRw : Hid (Rd w w3 g s q) := qhid ⟨HR3.out.1, only_first HR3.out.2⟩
    go_wp2_with fail
    refine bodyPost_ret (v := setAns noW 4) (by simp [results, Tryz.results117, go_sem, setAns, noW, q0, q1, q2, q3]) rfl (finS HF.out ?_)
    exact HRw.out.set (Nat.le_refl _) hlt noW
  · rw [decide_eq_false hend] at HE
    have hin : q < s.size := by omega
    have hb : ((s[q]'hin).toNat) = bAt s q := (bAt_in hin).symm
    have hbl := bAt_lt hin
    have hri := ref_idx (bAt s q) hbl
    obtain ⟨v, hv⟩ : ∃ v, firstIdx refS ((bAt s q : Nat) : Int).toNat.toUInt8 = v := ⟨_, rfl⟩
    rw [hv] at hri
    have IX := qhid (fun W => tidx_any refS (bAt s q) v hv W)
    rw [← hb] at IX
    clear hv
    cases hr : refB (bAt s q)
    · rw [hr] at hri
      by_cases hx : bAt s q = 120
      · have SK := qhid (fun W (hW : RdAt W g s q) => skip_yes g s q 120 (by omega) W hW hx hs)
        have PR := qhid (fun W (hW : RdAt W g s (q + 1)) => tpair_any g (q + 1) s hs W hW)
        have HF : Hid (escR s k = pairR s (q + 1)) := qhid (by rw [HESC.out, if_neg hend, hr, if_neg (by decide), if_pos hx])
        obtain ⟨r, hrr⟩ : ∃ r, r = pairR s (q + 1) := ⟨_, rfl⟩
        rw [← hrr] at PR HF
        clear hrr hx hr hb hbl
        obtain ⟨t, c, j⟩ := r
        have PR' : Hid (∀ W, RdAt W g s (q + 1) → Calls Tryz.prog 131 #[.pointer (some ⟨g, 0, none⟩)] W fun e w' => e = .returned (setAns t c) ∧ Rd W w' g s j) := PR
        clear PR
        go_enter Tryz.func117, Tryz.ntmps117
        go_wp2_with fail
        refine ST.out.mono ?_
        rintro e w2 ⟨rfl, hw2⟩
        have HR2 : Hid (Rd (w.alloc setObj) w2 g s q) := qhid ((Rd.refl HA.out).put (by rw [hw2, HQ.out]; rfl))
        clear hw2 r0 r1 rz rl
        go_wp2_with fail
        refine (HE.out _ HR2.out.1).mono ?_
        rintro e w3 ⟨rfl, n3, hw3⟩
        have HR3 : Hid (Rd (w.alloc setObj) w3 g s q) := qhid (by rw [hw3]; exact HR2.out.drewN n3)
        clear hw3
        obtain ⟨y0, y1, yz, yl⟩ := HR3.out.1
        go_wp2_with fail
        go_quiet (fail)
        have HR4 : Hid (Rd (w.alloc setObj) (w3.drewN nq) g s q) := qhid (HR3.out.drewN nq)
        clear y0 y1 yz yl
        generalize w3.drewN nq = w4 at *
        go_wp2_with fail
        refine (IX.out _).mono ?_
        rintro e w5 ⟨rfl, hw5⟩
        obtain rfl : w4 = w5 := hw5.symm
        go_wp2_with fail
        refine (SK.out _ HR4.out.1).mono ?_
        rintro e w6 ⟨rfl, hr6⟩
        have HR6 := qhid (HR4.out.trans hr6)
        clear hr6
        go_wp2_with fail
        refine (PR'.out _ HR6.out.1).mono ?_
        rintro e w7 ⟨rfl, hr7⟩
        have HR7 := qhid (HR6.out.trans hr7)
        clear hr7
        unfold setAns
        obtain ⟨⟨q0, q1, q2, q3⟩, ⟨f0, f1, f2, f3⟩, _hsz⟩ := set_cells (kept_first HH.out HR7.out)
        have HRw : Hid (Rd w w7 g s j) := qhid ⟨HR7.out.1, only_first HR7.out.2⟩
        go_wp2_with fail
        refine bodyPost_ret (v := setAns t c) (by simp [results, Tryz.results117, go_sem, setAns, q0, q1, q2, q3]) rfl (finS HF.out ?_)
        exact HRw.out.set (Nat.le_refl _) hlt t
      · have SK := qhid (fun W (hW : RdAt W g s q) => skip_no g s q 120 (by omega) W hW hx)
        have ME := qhid (fun W => meaning_any (bAt s q) hbl W)
        have HF0 : Hid (escR s k = if (meanR (bAt s q)).2 then ((meanR (bAt s q)).1, 0, q + 1) else (noW, 4, q)) := qhid (by rw [HESC.out, if_neg hend, hr, if_neg (by decide), if_neg hx])
        rw [← hb] at ME HF0
        generalize meanR (s[q]'hin).toNat = r at *
        clear hx hr hb hbl
        obtain ⟨t, y⟩ := r
        unfold meanAns at ME
        cases y
        · have HF : Hid (escR s k = (noW, 4, q)) := qhid HF0.out
          go_enter Tryz.func117, Tryz.ntmps117
          go_wp2_with fail
          refine ST.out.mono ?_
          rintro e w2 ⟨rfl, hw2⟩
          have HR2 : Hid (Rd (w.alloc setObj) w2 g s q) := qhid ((Rd.refl HA.out).put (by rw [hw2, HQ.out]; rfl))
          clear hw2 r0 r1 rz rl
          go_wp2_with fail
          refine (HE.out _ HR2.out.1).mono ?_
          rintro e w3 ⟨rfl, n3, hw3⟩
          have HR3 : Hid (Rd (w.alloc setObj) w3 g s q) := qhid (by rw [hw3]; exact HR2.out.drewN n3)
          clear hw3
          obtain ⟨y0, y1, yz, yl⟩ := HR3.out.1
          go_wp2_with fail
          go_quiet (fail)
          have HR4 : Hid (Rd (w.alloc setObj) (w3.drewN nq) g s q) := qhid (HR3.out.drewN nq)
          clear y0 y1 yz yl
          generalize w3.drewN nq = w4 at *
          go_wp2_with fail
          refine (IX.out _).mono ?_
          rintro e w5 ⟨rfl, hw5⟩
          obtain rfl : w4 = w5 := hw5.symm
          go_wp2_with fail
          refine (SK.out _ HR4.out.1).mono ?_
          rintro e w6 ⟨rfl, n6, hw6⟩
          have HR6 : Hid (Rd (w.alloc setObj) w6 g s q) := qhid (by rw [hw6]; exact HR4.out.drewN n6)
          clear hw6
          go_wp2_with fail
          refine (ME.out _).mono ?_
          rintro e w7 ⟨rfl, hb7⟩
          have HR7 := qhid (HR6.out.below hb7)
          clear hb7
          obtain ⟨⟨q0, q1, q2, q3⟩, ⟨f0, f1, f2, f3⟩, hsz⟩ := set_cells (kept_first HH.out HR7.out)
          have HRw : Hid (Rd w w7 g s q) := qhid ⟨HR7.out.1, only_first HR7.out.2⟩
          go_wp2_with fail
          refine bodyPost_ret (v := setAns noW 4) (by simp [results, Tryz.results117, go_sem, setAns, noW, hsz, q0, q1, q2, q3]) rfl (finS HF.out ?_)
          exact (HRw.out.set (Nat.le_refl _) hlt noW).below (below1 _ _)
        · have HF : Hid (escR s k = (t, 0, q + 1)) := qhid HF0.out
          go_enter Tryz.func117, Tryz.ntmps117
          go_wp2_with fail
          refine ST.out.mono ?_
          rintro e w2 ⟨rfl, hw2⟩
          have HR2 : Hid (Rd (w.alloc setObj) w2 g s q) := qhid ((Rd.refl HA.out).put (by rw [hw2, HQ.out]; rfl))
          clear hw2 r0 r1 rz rl
          go_wp2_with fail
          refine (HE.out _ HR2.out.1).mono ?_
          rintro e w3 ⟨rfl, n3, hw3⟩
          have HR3 : Hid (Rd (w.alloc setObj) w3 g s q) := qhid (by rw [hw3]; exact HR2.out.drewN n3)
          clear hw3
          obtain ⟨y0, y1, yz, yl⟩ := HR3.out.1
          go_wp2_with fail
          go_quiet (fail)
          have HR4 : Hid (Rd (w.alloc setObj) (w3.drewN nq) g s q) := qhid (HR3.out.drewN nq)
          clear y0 y1 yz yl
          generalize w3.drewN nq = w4 at *
          go_wp2_with fail
          refine (IX.out _).mono ?_
          rintro e w5 ⟨rfl, hw5⟩
          obtain rfl : w4 = w5 := hw5.symm
          go_wp2_with fail
          refine (SK.out _ HR4.out.1).mono ?_
          rintro e w6 ⟨rfl, n6, hw6⟩
          have HR6 : Hid (Rd (w.alloc setObj) w6 g s q) := qhid (by rw [hw6]; exact HR4.out.drewN n6)
          clear hw6
          go_wp2_with fail
          refine (ME.out _).mono ?_
          rintro e w7 ⟨rfl, hb7⟩
          have HR7 := qhid (HR6.out.below hb7)
          clear hb7
          have ST2 := qhid (tstep_any g 1 1 s q (by omega) (w7.alloc (.cells #[.int .u64 t.a, .int .u64 t.b, .int .u64 t.c, .int .u64 t.d] 34)) (rd_alloc HR7.out.1 _) rfl)
          go_wp2_with fail
          refine ST2.out.mono ?_
          rintro e w8 ⟨rfl, hw8⟩
          have HR8 : Hid (Rd (w.alloc setObj) w8 g s (q + 1)) := qhid ((HR7.out.below (below1 w7 (.cells #[.int .u64 t.a, .int .u64 t.b, .int .u64 t.c, .int .u64 t.d] 34))).put (by rw [hw8]; rfl))
          have h6 : w8.heap[w7.heap.size]? = some (.cells #[.int .u64 t.a, .int .u64 t.b, .int .u64 t.c, .int .u64 t.d] 34) := kept_first HR7.out.1 ((Rd.refl (rd_alloc HR7.out.1 _)).put (j := q + 1) (by rw [hw8]; rfl))
          obtain ⟨⟨z0, z1, z2, z3⟩, hz⟩ := set_of_block h6
          clear hw8 h6
          obtain ⟨⟨q0, q1, q2, q3⟩, ⟨f0, f1, f2, f3⟩, _hsz⟩ := set_cells (kept_first HH.out HR8.out)
          have HRw : Hid (Rd w w8 g s (q + 1)) := qhid ⟨HR8.out.1, only_first HR8.out.2⟩
          go_wp2_with fail
          refine bodyPost_ret (v := setAns t 0) (by simp [results, Tryz.results117, go_sem, setAns, q0, q1, q2, q3]) rfl (finS HF.out ?_)
          exact HRw.out.set (Nat.le_refl _) hlt t
    · rw [hr] at hri
      have HF : Hid (escR s k = (noW, 6, k)) := qhid (by rw [HESC.out, if_neg hend, hr, if_pos rfl])
      clear hr hb hbl
      go_enter Tryz.func117, Tryz.ntmps117
      go_wp2_with fail
      refine ST.out.mono ?_
      rintro e w2 ⟨rfl, hw2⟩
      have HR2 : Hid (Rd (w.alloc setObj) w2 g s q) := qhid ((Rd.refl HA.out).put (by rw [hw2, HQ.out]; rfl))
      clear hw2 r0 r1 rz rl
      go_wp2_with fail
      refine (HE.out _ HR2.out.1).mono ?_
      rintro e w3 ⟨rfl, n3, hw3⟩
      have HR3 : Hid (Rd (w.alloc setObj) w3 g s q) := qhid (by rw [hw3]; exact HR2.out.drewN n3)
      clear hw3
      obtain ⟨y0, y1, yz, yl⟩ := HR3.out.1
      go_wp2_with fail
      go_quiet (fail)
      have HR4 : Hid (Rd (w.alloc setObj) (w3.drewN nq) g s q) := qhid (HR3.out.drewN nq)
      clear y0 y1 yz yl
      generalize w3.drewN nq = w4 at *
      go_wp2_with fail
      refine (IX.out _).mono ?_
      rintro e w5 ⟨rfl, hw5⟩
      obtain rfl : w4 = w5 := hw5.symm
      have TB := qhid (tback_any g k 6 s q w4 HR4.out.1)
      go_wp2_with fail
      refine TB.out.mono ?_
      rintro e w6 ⟨rfl, hw6⟩
      have HR6 : Hid (Rd (w.alloc setObj) w6 g s k) := qhid (HR4.out.put hw6)
      clear hw6
      obtain ⟨⟨q0, q1, q2, q3⟩, ⟨f0, f1, f2, f3⟩, _hsz⟩ := set_cells (kept_first HH.out HR6.out)
      have HRw : Hid (Rd w w6 g s k) := qhid ⟨HR6.out.1, only_first HR6.out.2⟩
      go_wp2_with fail
      refine bodyPost_ret (v := setAns noW 6) (by simp [results, Tryz.results117, go_sem, setAns, noW, q0, q1, q2, q3]) rfl (finS HF.out ?_)
      exact HRw.out.set (Nat.le_refl _) hlt noW
end
section
open Go Go.RowKit
attribute [local go_sem ↓] Go.wp_at_zero Go.wp_at_succ
attribute [local go_sem] eq4
/-- What comes of a part of a class. -/
def partR (s : ByteArray) (k : Nat) : W4 × Int × Nat :=
  if s.size ≤ k then (noW, 4, k) else if bAt s k = 92 then escR s k else if bAt s k = 91 ∨ bAt s k = 93 ∨ bAt s k = 94 ∨ bAt s k = 45 then (noW, 4, k) else (oneW (bAt s k), 0, k + 1)
set_option maxRecDepth 100000 in
set_option maxHeartbeats 8000000 in
theorem tpart_any (g k : Nat) (s : ByteArray) (hs : s.size ≤ 1099511627776) (w : World) (h : RdAt w g s k) :
    Calls Tryz.prog 134 #[.pointer (some ⟨g, 0, none⟩)] w fun e w' => e = .returned (setAns (partR s k).1 (partR s k).2.1) ∧ Rd w w' g s (partR s k).2.2 := by
  have HH := qhid h
  have hlt := h.lt
  have HA := qhid (rd_alloc h setObj)
  have HE := qhid (tended_any g s k _ HA.out)
  unfold setObj at HE
  clear h
  by_cases hend : s.size ≤ k
  · have HF : Hid (partR s k = (noW, 4, k)) := qhid (by unfold partR; rw [if_pos hend])
    rw [decide_eq_true hend] at HE
    go_enter Tryz.func134, Tryz.ntmps134
    go_wp2_with fail
    refine HE.out.mono ?_
    rintro e w3 ⟨rfl, n3, hw3⟩
    have HR3 : Hid (Rd (w.alloc setObj) w3 g s k) := qhid (by rw [hw3]; exact (Rd.refl HA.out).drewN n3)
    clear hw3
    obtain ⟨⟨q0, q1, q2, q3⟩, ⟨f0, f1, f2, f3⟩, _hsz⟩ := set_cells (kept_first HH.out HR3.out)
    have HRw : Hid (Rd w w3 g s k) := qhid ⟨HR3.out.1, only_first HR3.out.2⟩
    go_wp2_with fail
    refine bodyPost_ret (v := setAns noW 4) (by simp [results, Tryz.results134, go_sem, setAns, noW, q0, q1, q2, q3]) rfl (finS HF.out ?_)
    exact HRw.out.set (Nat.le_refl _) hlt noW
  · rw [decide_eq_false hend] at HE
    have hin : k < s.size := by omega
    have hb : ((s[k]'hin).toNat) = bAt s k := (bAt_in hin).symm
    by_cases h92 : bAt s k = 92
    · have HF0 : Hid (partR s k = escR s k) := qhid (by unfold partR; rw [if_neg hend, if_pos h92])
      have ES := qhid (fun W (hW : RdAt W g s k) => tescape_any g k s hin hs W hW)
      have g1 : (((s[k]'hin).toNat : Int) == 92) = true := by rw [hb, h92]; rfl
      obtain ⟨r, hrr⟩ : ∃ r, r = escR s k := ⟨_, rfl⟩
      rw [← hrr] at ES HF0
      clear hrr h92 hb
      obtain ⟨t, c, j⟩ := r
      have HF : Hid (partR s k = (t, c, j)) := HF0
      have ES' : Hid (∀ W, RdAt W g s k → Calls Tryz.prog 117 #[.pointer (some ⟨g, 0, none⟩)] W fun e w' => e = .returned (setAns t c) ∧ Rd W w' g s j) := ES
      clear ES HF0
      go_enter Tryz.func134, Tryz.ntmps134
      go_wp2_with fail
      refine HE.out.mono ?_
      rintro e w3 ⟨rfl, n3, hw3⟩
      have HR3 : Hid (Rd (w.alloc setObj) w3 g s k) := qhid (by rw [hw3]; exact (Rd.refl HA.out).drewN n3)
      clear hw3
      obtain ⟨y0, y1, yz, yl⟩ := HR3.out.1
      go_wp2_with fail
      go_quiet (fail)
      have HR4 : Hid (Rd (w.alloc setObj) (w3.drewN nq) g s k) := qhid (HR3.out.drewN nq)
      clear y0 y1 yz yl
      generalize w3.drewN nq = w4 at *
      go_wp2_with fail
      refine (ES'.out _ HR4.out.1).mono ?_
      rintro e w5 ⟨rfl, hr5⟩
      have HR5 := qhid (HR4.out.trans hr5)
      clear hr5
      unfold setAns
      obtain ⟨⟨q0, q1, q2, q3⟩, ⟨f0, f1, f2, f3⟩, _hsz⟩ := set_cells (kept_first HH.out HR5.out)
      have HRw : Hid (Rd w w5 g s j) := qhid ⟨HR5.out.1, only_first HR5.out.2⟩
      go_wp2_with fail
      refine bodyPost_ret (v := setAns t c) (by simp [results, Tryz.results134, go_sem, setAns, q0, q1, q2, q3]) rfl (finS HF.out ?_)
      exact HRw.out.set (Nat.le_refl _) hlt t
    · by_cases hsp : bAt s k = 91 ∨ bAt s k = 93 ∨ bAt s k = 94 ∨ bAt s k = 45
      · have HF : Hid (partR s k = (noW, 4, k)) := qhid (by unfold partR; rw [if_neg hend, if_neg h92, if_pos hsp])
        rcases hsp with hx | hx | hx | hx
        · have g92 : (((s[k]'hin).toNat : Int) == 92) = false := by rw [hb]; simp; omega
          have g91 : (((s[k]'hin).toNat : Int) == 91) = true := by rw [hb, hx]; rfl
          clear hx h92 hb
          go_enter Tryz.func134, Tryz.ntmps134
          go_wp2_with fail
          refine HE.out.mono ?_
          rintro e w3 ⟨rfl, n3, hw3⟩
          have HR3 : Hid (Rd (w.alloc setObj) w3 g s k) := qhid (by rw [hw3]; exact (Rd.refl HA.out).drewN n3)
          clear hw3
          obtain ⟨y0, y1, yz, yl⟩ := HR3.out.1
          go_wp2_with fail
          go_quiet (fail)
          have HR4 : Hid (Rd (w.alloc setObj) (w3.drewN nq) g s k) := qhid (HR3.out.drewN nq)
          clear y0 y1 yz yl
          generalize w3.drewN nq = w4 at *
          obtain ⟨⟨q0, q1, q2, q3⟩, ⟨f0, f1, f2, f3⟩, _hsz⟩ := set_cells (kept_first HH.out HR4.out)
          have HRw : Hid (Rd w w4 g s k) := qhid ⟨HR4.out.1, only_first HR4.out.2⟩
          go_wp2_with fail
          refine bodyPost_ret (v := setAns noW 4) (by simp [results, Tryz.results134, go_sem, setAns, noW, q0, q1, q2, q3]) rfl (finS HF.out ?_)
          exact HRw.out.set (Nat.le_refl _) hlt noW
        · have g92 : (((s[k]'hin).toNat : Int) == 92) = false := by rw [hb]; simp; omega
          have g91 : (((s[k]'hin).toNat : Int) == 91) = false := by rw [hb]; simp; omega
          have g93 : (((s[k]'hin).toNat : Int) == 93) = true := by rw [hb, hx]; rfl
          clear hx h92 hb
          go_enter Tryz.func134, Tryz.ntmps134
          go_wp2_with fail
          refine HE.out.mono ?_
          rintro e w3 ⟨rfl, n3, hw3⟩
          have HR3 : Hid (Rd (w.alloc setObj) w3 g s k) := qhid (by rw [hw3]; exact (Rd.refl HA.out).drewN n3)
          clear hw3
          obtain ⟨y0, y1, yz, yl⟩ := HR3.out.1
          go_wp2_with fail
          go_quiet (fail)
          have HR4 : Hid (Rd (w.alloc setObj) (w3.drewN nq) g s k) := qhid (HR3.out.drewN nq)
          clear y0 y1 yz yl
          generalize w3.drewN nq = w4 at *
          obtain ⟨⟨q0, q1, q2, q3⟩, ⟨f0, f1, f2, f3⟩, _hsz⟩ := set_cells (kept_first HH.out HR4.out)
          have HRw : Hid (Rd w w4 g s k) := qhid ⟨HR4.out.1, only_first HR4.out.2⟩
          go_wp2_with fail
          refine bodyPost_ret (v := setAns noW 4) (by simp [results, Tryz.results134, go_sem, setAns, noW, q0, q1, q2, q3]) rfl (finS HF.out ?_)
          exact HRw.out.set (Nat.le_refl _) hlt noW
        · have g92 : (((s[k]'hin).toNat : Int) == 92) = false := by rw [hb]; simp; omega
          have g91 : (((s[k]'hin).toNat : Int) == 91) = false := by rw [hb]; simp; omega
          have g93 : (((s[k]'hin).toNat : Int) == 93) = false := by rw [hb]; simp; omega
          have g94 : (((s[k]'hin).toNat : Int) == 94) = true := by rw [hb, hx]; rfl
          clear hx h92 hb
          go_enter Tryz.func134, Tryz.ntmps134
          go_wp2_with fail
          refine HE.out.mono ?_
          rintro e w3 ⟨rfl, n3, hw3⟩
          have HR3 : Hid (Rd (w.alloc setObj) w3 g s k) := qhid (by rw [hw3]; exact (Rd.refl HA.out).drewN n3)
          clear hw3
          obtain ⟨y0, y1, yz, yl⟩ := HR3.out.1
          go_wp2_with fail
          go_quiet (fail)
          have HR4 : Hid (Rd (w.alloc setObj) (w3.drewN nq) g s k) := qhid (HR3.out.drewN nq)
          clear y0 y1 yz yl
          generalize w3.drewN nq = w4 at *
          obtain ⟨⟨q0, q1, q2, q3⟩, ⟨f0, f1, f2, f3⟩, _hsz⟩ := set_cells (kept_first HH.out HR4.out)
          have HRw : Hid (Rd w w4 g s k) := qhid ⟨HR4.out.1, only_first HR4.out.2⟩
          go_wp2_with fail
          refine bodyPost_ret (v := setAns noW 4) (by simp [results, Tryz.results134, go_sem, setAns, noW, q0, q1, q2, q3]) rfl (finS HF.out ?_)
          exact HRw.out.set (Nat.le_refl _) hlt noW
        · have g92 : (((s[k]'hin).toNat : Int) == 92) = false := by rw [hb]; simp; omega
          have g91 : (((s[k]'hin).toNat : Int) == 91) = false := by rw [hb]; simp; omega
          have g93 : (((s[k]'hin).toNat : Int) == 93) = false := by rw [hb]; simp; omega
          have g94 : (((s[k]'hin).toNat : Int) == 94) = false := by rw [hb]; simp; omega
          have g45 : (((s[k]'hin).toNat : Int) == 45) = true := by rw [hb, hx]; rfl
          clear hx h92 hb
          go_enter Tryz.func134, Tryz.ntmps134
          go_wp2_with fail
          refine HE.out.mono ?_
          rintro e w3 ⟨rfl, n3, hw3⟩
          have HR3 : Hid (Rd (w.alloc setObj) w3 g s k) := qhid (by rw [hw3]; exact (Rd.refl HA.out).drewN n3)
          clear hw3
          obtain ⟨y0, y1, yz, yl⟩ := HR3.out.1
          go_wp2_with fail
          go_quiet (fail)
          have HR4 : Hid (Rd (w.alloc setObj) (w3.drewN nq) g s k) := qhid (HR3.out.drewN nq)
          clear y0 y1 yz yl
          generalize w3.drewN nq = w4 at *
          obtain ⟨⟨q0, q1, q2, q3⟩, ⟨f0, f1, f2, f3⟩, _hsz⟩ := set_cells (kept_first HH.out HR4.out)
          have HRw : Hid (Rd w w4 g s k) := qhid ⟨HR4.out.1, only_first HR4.out.2⟩
          go_wp2_with fail
          refine bodyPost_ret (v := setAns noW 4) (by simp [results, Tryz.results134, go_sem, setAns, noW, q0, q1, q2, q3]) rfl (finS HF.out ?_)
          exact HRw.out.set (Nat.le_refl _) hlt noW
      · have HF : Hid (partR s k = (oneW (bAt s k), 0, k + 1)) := qhid (by unfold partR; rw [if_neg hend, if_neg h92, if_neg hsp])
        have IT := qhid (fun W (hW : RdAt W g s k) => titself_any g k s hin hs W hW)
        have g92 : (((s[k]'hin).toNat : Int) == 92) = false := by rw [hb]; simp; omega
        have g91 : (((s[k]'hin).toNat : Int) == 91) = false := by rw [hb]; simp; omega
        have g93 : (((s[k]'hin).toNat : Int) == 93) = false := by rw [hb]; simp; omega
        have g94 : (((s[k]'hin).toNat : Int) == 94) = false := by rw [hb]; simp; omega
        have g45 : (((s[k]'hin).toNat : Int) == 45) = false := by rw [hb]; simp; omega
        generalize oneW (bAt s k) = t at *
        clear hsp h92 hb
        go_enter Tryz.func134, Tryz.ntmps134
        go_wp2_with fail
        refine HE.out.mono ?_
        rintro e w3 ⟨rfl, n3, hw3⟩
        have HR3 : Hid (Rd (w.alloc setObj) w3 g s k) := qhid (by rw [hw3]; exact (Rd.refl HA.out).drewN n3)
        clear hw3
        obtain ⟨y0, y1, yz, yl⟩ := HR3.out.1
        go_wp2_with fail
        go_quiet (fail)
        have HR4 : Hid (Rd (w.alloc setObj) (w3.drewN nq) g s k) := qhid (HR3.out.drewN nq)
        clear y0 y1 yz yl
        generalize w3.drewN nq = w4 at *
        go_wp2_with fail
        refine (IT.out _ HR4.out.1).mono ?_
        rintro e w5 ⟨rfl, hr5⟩
        have HR5 := qhid (HR4.out.trans hr5)
        clear hr5
        unfold setAns
        obtain ⟨⟨q0, q1, q2, q3⟩, ⟨f0, f1, f2, f3⟩, _hsz⟩ := set_cells (kept_first HH.out HR5.out)
        have HRw : Hid (Rd w w5 g s (k + 1)) := qhid ⟨HR5.out.1, only_first HR5.out.2⟩
        go_wp2_with fail
        refine bodyPost_ret (v := setAns t 0) (by simp [results, Tryz.results134, go_sem, setAns, q0, q1, q2, q3]) rfl (finS HF.out ?_)
        exact HRw.out.set (Nat.le_refl _) hlt t
end
end Go.Proofs.YtenibhmjcafbiaaGreatDoor
