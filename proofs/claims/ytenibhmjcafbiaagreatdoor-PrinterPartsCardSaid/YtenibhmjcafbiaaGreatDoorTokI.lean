/- Contracts of token's reader: sets of one byte, the point; what is refused. Contracts of token's reader: hex digits, and two of them. Contracts of token's reader: two hex digits. -/
import Derived.Test.YtenibhmjcafbiaaGreatDoorTokF
namespace Go.Proofs.YtenibhmjcafbiaaGreatDoor
section
open Go Go.RowKit
attribute [local go_sem ↓] Go.wp_at_zero Go.wp_at_succ
attribute [local go_sem] eq4
/-- What a set's rule answers. -/
def setAns (t : W4) (e : Int) : Value := .tuple #[.agg #[.int .u64 t.a, .int .u64 t.b, .int .u64 t.c, .int .u64 t.d], .int .i64 e]
def setObj : Obj := .cells #[.int .u64 0, .int .u64 0, .int .u64 0, .int .u64 0] 34
/-- The set of one byte. -/
def oneW (b : Nat) : W4 := ⟨oneB b 0, oneB b 1, oneB b 2, oneB b 3⟩
/-- The others. -/
def notW (t : W4) : W4 := ⟨nt t.a, nt t.b, nt t.c, nt t.d⟩
abbrev setPut (w : World) (b : Nat) (t : W4) : World :=
  (((w.setCell ⟨b, 0, none⟩ (.int .u64 t.a)).setCell ⟨b, 1, none⟩ (.int .u64 t.b)).setCell ⟨b, 2, none⟩ (.int .u64 t.c)).setCell ⟨b, 3, none⟩ (.int .u64 t.d)
theorem Rd.set {w w' : World} {g j b : Nat} {s : ByteArray} (h : Rd w w' g s j) (hb : w.heap.size ≤ b) (hg : g < w.heap.size) (t : W4) : Rd w (setPut w' b t) g s j :=
  (((h.store hb hg _).store hb hg _).store hb hg _).store hb hg _
theorem set_cells {W : World} {b : Nat} (h : W.heap[b]? = some setObj) :
    (W.cell? ⟨b, 0, none⟩ = some (.int .u64 0) ∧ W.cell? ⟨b, 1, none⟩ = some (.int .u64 0) ∧ W.cell? ⟨b, 2, none⟩ = some (.int .u64 0) ∧ W.cell? ⟨b, 3, none⟩ = some (.int .u64 0)) ∧
    (W.frozen? ⟨b, 0, none⟩ = false ∧ W.frozen? ⟨b, 1, none⟩ = false ∧ W.frozen? ⟨b, 2, none⟩ = false ∧ W.frozen? ⟨b, 3, none⟩ = false) ∧ b < W.heap.size :=
  ⟨⟨Joins.cell_of_block h 0, Joins.cell_of_block h 1, Joins.cell_of_block h 2, Joins.cell_of_block h 3⟩, ⟨Joins.unfrozen_of_block h 0, Joins.unfrozen_of_block h 1, Joins.unfrozen_of_block h 2, Joins.unfrozen_of_block h 3⟩, Reg.size_of_get h⟩
set_option maxRecDepth 100000 in
set_option maxHeartbeats 2000000 in
theorem tedge_any (g k : Nat) (s : ByteArray) (w : World) (h : RdAt w g s k) :
    Calls Tryz.prog 119 #[.pointer (some ⟨g, 0, none⟩)] w fun e w' => e = .returned (setAns noW 6) ∧ Rd w w' g s k := by
  have HH := qhid h
  have hlt := h.lt
  have HA := qhid (rd_alloc h setObj)
  have HR2 : Hid (Rd (w.alloc setObj) (w.alloc setObj) g s k) := qhid (Rd.refl HA.out)
  clear h
  go_enter Tryz.func119, Tryz.ntmps119
  go_wp2_with fail
  refine bodyPost_ret (v := setAns noW 6) (by simp [results, Tryz.results119, go_sem, setAns, noW]) rfl ⟨rfl, ?_⟩
  exact ⟨HR2.out.1, only_first HR2.out.2⟩
set_option maxRecDepth 100000 in
set_option maxHeartbeats 2000000 in
theorem tstray_any (g k : Nat) (s : ByteArray) (w : World) (h : RdAt w g s k) :
    Calls Tryz.prog 120 #[.pointer (some ⟨g, 0, none⟩)] w fun e w' => e = .returned (setAns noW 4) ∧ Rd w w' g s k := by
  have HH := qhid h
  have hlt := h.lt
  have HA := qhid (rd_alloc h setObj)
  have HR2 : Hid (Rd (w.alloc setObj) (w.alloc setObj) g s k) := qhid (Rd.refl HA.out)
  clear h
  go_enter Tryz.func120, Tryz.ntmps120
  go_wp2_with fail
  refine bodyPost_ret (v := setAns noW 4) (by simp [results, Tryz.results120, go_sem, setAns, noW]) rfl ⟨rfl, ?_⟩
  exact ⟨HR2.out.1, only_first HR2.out.2⟩
set_option maxRecDepth 100000 in
set_option maxHeartbeats 2000000 in
theorem titself_any (g k : Nat) (s : ByteArray) (hk : k < s.size) (hs : s.size ≤ 1099511627776) (w : World) (h : RdAt w g s k) :
    Calls Tryz.prog 121 #[.pointer (some ⟨g, 0, none⟩)] w fun e w' => e = .returned (setAns (oneW (bAt s k)) 0) ∧ Rd w w' g s (k + 1) := by
  have HH := qhid h
  have hlt := h.lt
  have HA := qhid (rd_alloc h setObj)
  have ST := qhid (fun n => tstep_any g 1 1 s k (by omega) ((w.alloc setObj).drewN n) (only_rd HA.out n) rfl)
  have hb : ((s[k]'hk).toNat) = bAt s k := (bAt_in hk).symm
  have hbl := bAt_lt hk
  have OF := qhid (fun W => of_blk (w := W.alloc (.cells #[.int .u8 ((bAt s k : Nat) : Int)] 5)) (g := W.heap.size) (k := bAt s k) hbl (heap_new W _))
  rw [← hb] at OF hbl
  have hb2 : oneW (bAt s k) = oneW (s[k]'hk).toNat := by rw [hb]
  rw [hb2]
  obtain ⟨r0, r1, rz, rl⟩ := HA.out
  unfold setObj at ST r0 r1 rz rl
  clear h hb hb2
  go_enter Tryz.func121, Tryz.ntmps121
  go_wp2_with fail
  go_quiet (fail)
  go_wp2_with fail
  refine (ST.out nq).mono ?_
  rintro e w2 ⟨rfl, hw2⟩
  have HR2 : Hid (Rd (w.alloc setObj) w2 g s (k + 1)) := qhid (((Rd.refl HA.out).drewN nq).put (by rw [hw2]; rfl))
  clear hw2 r0 r1 rz rl
  go_wp2_with fail
  refine (OF.out w2).mono ?_
  rintro e w3 ⟨rfl, hb3⟩
  have HR3 : Hid (Rd (w.alloc setObj) w3 g s (k + 1)) := qhid ((HR2.out.below (below1 w2 _)).below hb3)
  clear hb3
  obtain ⟨⟨q0, q1, q2, q3⟩, ⟨f0, f1, f2, f3⟩, _hsz⟩ := set_cells (kept_first HH.out HR3.out)
  have HRw : Hid (Rd w w3 g s (k + 1)) := qhid ⟨HR3.out.1, only_first HR3.out.2⟩
  go_wp2_with fail
  refine bodyPost_ret (v := setAns (oneW (s[k]'hk).toNat) 0) (by simp [results, Tryz.results121, go_sem, setAns, oneW, q0, q1, q2, q3]) rfl ⟨rfl, ?_⟩
  exact HRw.out.set (Nat.le_refl _) hlt (oneW (s[k]'hk).toNat)
set_option maxRecDepth 100000 in
set_option maxHeartbeats 2000000 in
theorem tpoint_any (g k : Nat) (s : ByteArray) (hk : k < s.size) (hs : s.size ≤ 1099511627776) (w : World) (h : RdAt w g s k) :
    Calls Tryz.prog 118 #[.pointer (some ⟨g, 0, none⟩)] w fun e w' => e = .returned (setAns (notW (oneW 10)) 0) ∧ Rd w w' g s (k + 1) := by
  have HH := qhid h
  have hlt := h.lt
  have HA := qhid (rd_alloc h setObj)
  have ST := qhid (tstep_any g 1 1 s k (by omega) (w.alloc setObj) HA.out rfl)
  have OF := qhid (fun W => of_blk (w := W.alloc (.cells #[.int .u8 ((10 : Nat) : Int)] 5)) (g := W.heap.size) (k := 10) (by omega) (heap_new W _))
  have NO := qhid (fun W => not_any (oneB 10 0) (oneB 10 1) (oneB 10 2) (oneB 10 3) W)
  obtain ⟨r0, r1, rz, rl⟩ := HA.out
  unfold setObj at ST r0 r1 rz rl
  clear h
  go_enter Tryz.func118, Tryz.ntmps118
  go_wp2_with fail
  refine ST.out.mono ?_
  rintro e w2 ⟨rfl, hw2⟩
  have HR2 : Hid (Rd (w.alloc setObj) w2 g s (k + 1)) := qhid ((Rd.refl HA.out).put (by rw [hw2]; rfl))
  clear hw2 r0 r1 rz rl
  go_wp2_with fail
  refine (OF.out w2).mono ?_
  rintro e w3 ⟨rfl, hb3⟩
  have HR3 : Hid (Rd (w.alloc setObj) w3 g s (k + 1)) := qhid ((HR2.out.below (below1 w2 _)).below hb3)
  clear hb3
  go_wp2_with fail
  refine (NO.out w3).mono ?_
  rintro e w4 ⟨rfl, hb4⟩
  have HR4 := qhid (HR3.out.below hb4)
  clear hb4
  obtain ⟨⟨q0, q1, q2, q3⟩, ⟨f0, f1, f2, f3⟩, _hsz⟩ := set_cells (kept_first HH.out HR4.out)
  have HRw : Hid (Rd w w4 g s (k + 1)) := qhid ⟨HR4.out.1, only_first HR4.out.2⟩
  go_wp2_with fail
  refine bodyPost_ret (v := setAns (notW (oneW 10)) 0) (by simp [results, Tryz.results118, go_sem, setAns, notW, oneW, q0, q1, q2, q3]) rfl ⟨rfl, ?_⟩
  exact HRw.out.set (Nat.le_refl _) hlt (notW (oneW 10))
end
section
open Go Go.RowKit
attribute [local go_sem ↓] Go.wp_at_zero Go.wp_at_succ
attribute [local go_sem] eq4
/-- A hex digit's value, and whether it is one. -/
def hexR (b : Nat) : Nat × Bool :=
  if digB b then (b - 48, true) else if 97 ≤ b ∧ b ≤ 102 then (b - 87, true) else if 65 ≤ b ∧ b ≤ 70 then (b - 55, true) else (0, false)
theorem hexR_le (b : Nat) : (hexR b).1 ≤ 15 := by
  unfold hexR
  split
  · rename_i h; unfold digB at h; simp at h; show b - 48 ≤ 15; omega
  · split
    · show b - 87 ≤ 15; omega
    · split
      · show b - 55 ≤ 15; omega
      · exact Nat.zero_le _
theorem fin2b {x : Nat} {y : Bool} {r : Nat × Bool} (h : r = (x, y)) : Ending.returned (.tuple #[.int .i64 (x : Int), .bool y]) = .returned (.tuple #[.int .i64 (r.1 : Int), .bool r.2]) := by subst h; rfl
set_option maxHeartbeats 1000000 in
theorem thex_any (b : Nat) (hb : b < 256) (w : World) :
    Calls Tryz.prog 136 #[.int .u8 (b : Int)] w fun e w' => e = .returned (.tuple #[.int .i64 ((hexR b).1 : Int), .bool (hexR b).2]) ∧ w' = w := by
  have HD := qhid (fun W => tdigit_any b hb W)
  by_cases hd : digB b = true
  · have HF : Hid (hexR b = (b - 48, true)) := qhid (by unfold hexR; rw [if_pos hd])
    rw [hd] at HD
    have h1 : 48 ≤ b ∧ b ≤ 57 := by unfold digB at hd; simpa using hd
    obtain ⟨y, hy⟩ : ∃ y, y = b - 48 := ⟨_, rfl⟩
    have e2 : IntKind.u8.wrap ((b : Int) - 48) = (y : Int) := by simp [IntKind.wrap, IntKind.signed, IntKind.bits]; omega
    have e4 : IntKind.i64.wrap (y : Int) = (y : Int) := by simp [IntKind.wrap, IntKind.signed, IntKind.bits]; omega
    rw [← hy] at HF
    clear hy hd
    go_enter Tryz.func136, Tryz.ntmps136
    go_wp2_with fail
    refine (HD.out _).mono ?_
    rintro e w1 ⟨rfl, hw1⟩
    obtain rfl : w = w1 := hw1.symm
    go_wp2_with fail
    go_ret2
    exact ⟨fin2b HF.out, rfl⟩
  · have hdf : digB b = false := by simpa using hd
    rw [hdf] at HD
    by_cases h1 : 97 ≤ b ∧ b ≤ 102
    · have HF : Hid (hexR b = (b - 87, true)) := qhid (by unfold hexR; rw [if_neg hd, if_pos h1])
      obtain ⟨y, hy⟩ : ∃ y, y = b - 97 := ⟨_, rfl⟩
      obtain ⟨z, hz⟩ : ∃ z, z = b - 87 := ⟨_, rfl⟩
      have d1 : decide ((97 : Int) ≤ (b : Int)) = true := decide_eq_true (by omega)
      have d2 : decide ((b : Int) ≤ 102) = true := decide_eq_true (by omega)
      have e2 : IntKind.u8.wrap ((b : Int) - 97) = (y : Int) := by simp [IntKind.wrap, IntKind.signed, IntKind.bits]; omega
      have e4 : IntKind.i64.wrap (y : Int) = (y : Int) := by simp [IntKind.wrap, IntKind.signed, IntKind.bits]; omega
      have e5 : IntKind.i64.wrap ((y : Int) + 10) = (z : Int) := by simp [IntKind.wrap, IntKind.signed, IntKind.bits]; omega
      rw [← hz] at HF
      clear hy hz hd hdf h1
      go_enter Tryz.func136, Tryz.ntmps136
      go_wp2_with fail
      refine (HD.out _).mono ?_
      rintro e w1 ⟨rfl, hw1⟩
      obtain rfl : w = w1 := hw1.symm
      go_wp2_with fail
      go_ret2
      exact ⟨fin2b HF.out, rfl⟩
    · by_cases h2 : 65 ≤ b ∧ b ≤ 70
      · have HF : Hid (hexR b = (b - 55, true)) := qhid (by unfold hexR; rw [if_neg hd, if_neg h1, if_pos h2])
        obtain ⟨y, hy⟩ : ∃ y, y = b - 65 := ⟨_, rfl⟩
        obtain ⟨z, hz⟩ : ∃ z, z = b - 55 := ⟨_, rfl⟩
        have d1 : decide ((97 : Int) ≤ (b : Int)) = false := decide_eq_false (by omega)
        have d3 : decide ((65 : Int) ≤ (b : Int)) = true := decide_eq_true (by omega)
        have d4 : decide ((b : Int) ≤ 70) = true := decide_eq_true (by omega)
        have e2 : IntKind.u8.wrap ((b : Int) - 65) = (y : Int) := by simp [IntKind.wrap, IntKind.signed, IntKind.bits]; omega
        have e4 : IntKind.i64.wrap (y : Int) = (y : Int) := by simp [IntKind.wrap, IntKind.signed, IntKind.bits]; omega
        have e5 : IntKind.i64.wrap ((y : Int) + 10) = (z : Int) := by simp [IntKind.wrap, IntKind.signed, IntKind.bits]; omega
        rw [← hz] at HF
        clear hy hz hd hdf h1 h2
        go_enter Tryz.func136, Tryz.ntmps136
        go_wp2_with fail
        refine (HD.out _).mono ?_
        rintro e w1 ⟨rfl, hw1⟩
        obtain rfl : w = w1 := hw1.symm
        go_wp2_with fail
        go_ret2
        exact ⟨fin2b HF.out, rfl⟩
      · have HF : Hid (hexR b = (0, false)) := qhid (by unfold hexR; rw [if_neg hd, if_neg h1, if_neg h2])
        have hcase : (decide ((97 : Int) ≤ (b : Int)) = false ∧ decide ((65 : Int) ≤ (b : Int)) = false) ∨ (decide ((97 : Int) ≤ (b : Int)) = false ∧ decide ((65 : Int) ≤ (b : Int)) = true ∧ decide ((b : Int) ≤ 70) = false) ∨ (decide ((97 : Int) ≤ (b : Int)) = true ∧ decide ((b : Int) ≤ 102) = false ∧ decide ((65 : Int) ≤ (b : Int)) = true ∧ decide ((b : Int) ≤ 70) = false) := by
          simp only [decide_eq_false_iff_not, decide_eq_true_iff]
          omega
        clear hd hdf h1 h2
        rcases hcase with ⟨d1, d3⟩ | ⟨d1, d3, d4⟩ | ⟨d1, d2, d3, d4⟩
        all_goals
          go_enter Tryz.func136, Tryz.ntmps136
          go_wp2_with fail
          refine (HD.out _).mono ?_
          rintro e w1 ⟨rfl, hw1⟩
          obtain rfl : w = w1 := hw1.symm
          go_wp2_with fail
          go_ret2
          exact ⟨fin2b HF.out, rfl⟩
end
section
open Go Go.RowKit
attribute [local go_sem ↓] Go.wp_at_zero Go.wp_at_succ
attribute [local go_sem] eq4
theorem hexR_end : hexR 256 = (0, false) := by decide
/-- The value of i hex digits. -/
def hexV (s : ByteArray) (j : Nat) : Nat → Nat
  | 0 => 0
  | i + 1 => 16 * hexV s j i + (hexR (bAt s (j + i))).1
theorem hexV_le (s : ByteArray) (j i : Nat) (h : i ≤ 2) : hexV s j i ≤ 255 ∧ (i ≤ 1 → hexV s j i ≤ 15) := by
  have h0 := hexR_le (bAt s (j + 0))
  have h1 := hexR_le (bAt s (j + 1))
  match i, h with
  | 0, _ => exact ⟨by simp [hexV], fun _ => by simp [hexV]⟩
  | 1, _ => exact ⟨by simp [hexV] at *; omega, fun _ => by simp [hexV] at *; omega⟩
  | 2, _ => exact ⟨by simp [hexV] at *; omega, fun h => by omega⟩
/-- What comes of two hex digits. -/
def pairR (s : ByteArray) (j : Nat) : W4 × Int × Nat :=
  if (hexR (bAt s j)).2 = false then (noW, 4, j) else if (hexR (bAt s (j + 1))).2 = false then (noW, 4, j + 1) else (oneW (hexV s j 2), 0, j + 2)
theorem pairR_at {s : ByteArray} {j i : Nat} (hi : i < 2) (hin : ∀ m, m < i → (hexR (bAt s (j + m))).2 = true) (hno : (hexR (bAt s (j + i))).2 = false) : pairR s j = (noW, 4, j + i) := by
  match i, hi with
  | 0, _ => unfold pairR; rw [if_pos (show (hexR (bAt s j)).2 = false from hno)]; rfl
  | 1, _ =>
    have h0 := hin 0 (by omega)
    unfold pairR
    rw [if_neg (by rw [show j + 0 = j from rfl] at h0; rw [h0]; decide), if_pos hno]
theorem pairR_ok {s : ByteArray} {j : Nat} (hin : ∀ m, m < 2 → (hexR (bAt s (j + m))).2 = true) : pairR s j = (oneW (hexV s j 2), 0, j + 2) := by
  have h0 := hin 0 (by omega)
  have h1 := hin 1 (by omega)
  unfold pairR
  rw [if_neg (by rw [show j + 0 = j from rfl] at h0; rw [h0]; decide), if_neg (by rw [h1]; decide)]
theorem finS {t : W4} {c : Int} {j : Nat} {r : W4 × Int × Nat} (h : r = (t, c, j)) {w w' : World} {g : Nat} {s : ByteArray} (hr : Rd w w' g s j) :
    Ending.returned (setAns t c) = .returned (setAns r.1 r.2.1) ∧ Rd w w' g s r.2.2 := by subst h; exact ⟨rfl, hr⟩
set_option maxRecDepth 100000 in
set_option maxHeartbeats 4000000 in
theorem tpair_any (g j : Nat) (s : ByteArray) (hs : s.size ≤ 1099511627776) (w : World) (h : RdAt w g s j) :
    Calls Tryz.prog 131 #[.pointer (some ⟨g, 0, none⟩)] w fun e w' => e = .returned (setAns (pairR s j).1 (pairR s j).2.1) ∧ Rd w w' g s (pairR s j).2.2 := by
  have HH := qhid h
  have hlt := h.lt
  have HA := qhid (rd_alloc h setObj)
  have HAT := qhid (fun i hi hin hno => pairR_at (s := s) (j := j) (i := i) hi hin hno)
  have HOK := qhid (fun hin => pairR_ok (s := s) (j := j) hin)
  clear h
  go_enter Tryz.func131, Tryz.ntmps131
  go_wp2_with fail
  go_loopg [4, 7] 2 (fun k v i wr => ∃ m : Nat, m + k = 2 ∧ v = .int .i64 ((hexV s j m : Nat) : Int) ∧ i = .int .i64 (m : Int) ∧ Hid (∀ n, n < m → (hexR (bAt s (j + n))).2 = true) ∧ Hid (Rd (w.alloc setObj) wr g s (j + m)))
  case atStart => exact ⟨0, by omega, rfl, rfl, qhid (fun n hn => by omega), qhid (Rd.refl HA.out)⟩
  case round =>
    obtain ⟨m, hm, rfl, rfl, HIN, HR⟩ := hrel
    by_cases hm2 : m < 2
    · obtain ⟨q, hq⟩ : ∃ q, q = j + m := ⟨_, rfl⟩
      have HQ := qhid hq
      have HAT2 : Hid ((hexR (bAt s q)).2 = false → pairR s j = (noW, 4, q)) := qhid (fun h => by rw [hq] at h ⊢; exact HAT.out m hm2 HIN.out h)
      have HV2 : Hid (hexV s j (m + 1) = 16 * hexV s j m + (hexR (bAt s q)).1) := qhid (by rw [hq]; rfl)
      rw [← hq] at HR
      clear hq
      have hvl := (hexV_le s j m (by omega)).2 (by omega)
      have HE := qhid (tended_any g s q wr HR.out.1)
      have dm : decide ((m : Int) < 2) = true := decide_eq_true (by omega)
      by_cases hin : q < s.size
      · rw [decide_eq_false (by omega : ¬ s.size ≤ q)] at HE
        have hb : ((s[q]'hin).toNat) = bAt s q := (bAt_in hin).symm
        have hbl := bAt_lt hin
        have HX := qhid (fun W => thex_any (bAt s q) hbl W)
        have hxl := hexR_le (bAt s q)
        have HNX : Hid ((hexR (bAt s q)).2 = true → ∀ n, n < m + 1 → (hexR (bAt s (j + n))).2 = true) := qhid (fun h n hn => by
          by_cases e : n = m
          · subst e; rw [← HQ.out]; exact h
          · exact HIN.out n (by omega))
        rw [← hb] at HX HV2 HNX HAT2 hxl
        generalize hexR (s[q]'hin).toNat = r at *
        obtain ⟨x, y⟩ := r
        have HX' : Hid (∀ W, Calls Tryz.prog 136 #[.int .u8 ((s[q]'hin).toNat : Int)] W fun e w' => e = .returned (.tuple #[.int .i64 (x : Int), .bool y]) ∧ w' = W) := HX
        have HV3 : Hid (hexV s j (m + 1) = 16 * hexV s j m + x) := HV2
        have hxl2 : x ≤ 15 := hxl
        clear HX HV2 hxl hb hbl
        go_wp2_with fail
        refine HE.out.mono ?_
        rintro e w1 ⟨rfl, n1, hw1⟩
        have HR1 : Hid (Rd (w.alloc setObj) w1 g s q) := qhid (by rw [hw1]; exact HR.out.drewN n1)
        obtain ⟨r0, r1, rz, rl⟩ := HR1.out.1
        clear hw1
        cases y
        · have HF : Hid (pairR s j = (noW, 4, q)) := qhid (HAT2.out rfl)
          go_wp2_with fail
          go_quiet ((go_at_call 136; exact Calls.quiet_of_same (HX'.out _)))
          have HR2 : Hid (Rd (w.alloc setObj) (w1.drewN nq) g s q) := qhid (HR1.out.drewN nq)
          clear r0 r1 rz rl
          generalize w1.drewN nq = w2 at *
          obtain ⟨⟨q0, q1, q2, q3⟩, ⟨f0, f1, f2, f3⟩, _hsz⟩ := set_cells (kept_first HH.out HR2.out)
          have HRw : Hid (Rd w w2 g s q) := qhid ⟨HR2.out.1, only_first HR2.out.2⟩
          go_wp2_with fail
          refine bodyPost_ret (v := setAns noW 4) (by simp [results, Tryz.results131, go_sem, setAns, noW, q0, q1, q2, q3]) rfl (finS HF.out ?_)
          exact HRw.out.set (Nat.le_refl _) hlt noW
        · have HN2 := qhid (HNX.out rfl)
          go_wp2_with fail
          go_quiet ((go_at_call 136; exact Calls.quiet_of_same (HX'.out _)))
          have HR2 : Hid (Rd (w.alloc setObj) (w1.drewN nq) g s q) := qhid (HR1.out.drewN nq)
          clear r0 r1 rz rl
          generalize w1.drewN nq = w2 at *
          have ST := qhid (tstep_any g 1 1 s q (by omega) w2 HR2.out.1 rfl)
          go_wp2_with fail
          refine ST.out.mono ?_
          rintro e w3 ⟨rfl, hw3⟩
          have HR3 : Hid (Rd (w.alloc setObj) w3 g s (j + (m + 1))) := qhid (by rw [show j + (m + 1) = q + 1 by rw [HQ.out]; rfl]; exact HR2.out.put (by rw [hw3]; rfl))
          clear hw3
          go_wp2_with fail
          go_roundg (2 - (m + 1))
          case measure => omega
          case rel => exact ⟨m + 1, by omega, by rw [HV3.out]; go_num, by go_num, HN2, HR3⟩
      · rw [decide_eq_true (by omega : s.size ≤ q)] at HE
        have HF : Hid (pairR s j = (noW, 4, q)) := qhid (HAT2.out (by rw [bAt_end (by omega), hexR_end]))
        go_wp2_with fail
        refine HE.out.mono ?_
        rintro e w1 ⟨rfl, n1, hw1⟩
        have HR2 : Hid (Rd (w.alloc setObj) w1 g s q) := qhid (by rw [hw1]; exact HR.out.drewN n1)
        clear hw1
        obtain ⟨⟨q0, q1, q2, q3⟩, ⟨f0, f1, f2, f3⟩, _hsz⟩ := set_cells (kept_first HH.out HR2.out)
        have HRw : Hid (Rd w w1 g s q) := qhid ⟨HR2.out.1, only_first HR2.out.2⟩
        go_wp2_with fail
        refine bodyPost_ret (v := setAns noW 4) (by simp [results, Tryz.results131, go_sem, setAns, noW, q0, q1, q2, q3]) rfl (finS HF.out ?_)
        exact HRw.out.set (Nat.le_refl _) hlt noW
    · obtain rfl : m = 2 := by omega
      have HF := qhid (HOK.out HIN.out)
      have hvl := (hexV_le s j 2 (by omega)).1
      have HRe := HR
      generalize hexV s j 2 = v at *
      have hvu : IntKind.u8.wrap (v : Int) = (v : Int) := by simp [IntKind.wrap, IntKind.signed, IntKind.bits]; omega
      have OF := qhid (fun W => of_blk (w := W.alloc (.cells #[.int .u8 ((v : Nat) : Int)] 5)) (g := W.heap.size) (k := v) (by omega) (heap_new W _))
      go_wp2_with fail
      refine (OF.out wr).mono ?_
      rintro e w3 ⟨rfl, hb3⟩
      have HR3 : Hid (Rd (w.alloc setObj) w3 g s (j + 2)) := qhid ((HRe.out.below (below1 wr _)).below hb3)
      clear hb3
      obtain ⟨⟨q0, q1, q2, q3⟩, ⟨f0, f1, f2, f3⟩, _hsz⟩ := set_cells (kept_first HH.out HR3.out)
      have HRw : Hid (Rd w w3 g s (j + 2)) := qhid ⟨HR3.out.1, only_first HR3.out.2⟩
      go_wp2_with fail
      refine bodyPost_ret (v := setAns (oneW v) 0) (by simp [results, Tryz.results131, go_sem, setAns, oneW, q0, q1, q2, q3]) rfl (finS HF.out ?_)
      exact HRw.out.set (Nat.le_refl _) hlt (oneW v)
end
end Go.Proofs.YtenibhmjcafbiaaGreatDoor
