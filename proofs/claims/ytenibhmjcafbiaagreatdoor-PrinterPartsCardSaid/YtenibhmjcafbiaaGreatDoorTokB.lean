/- Contracts of token's reader: where it stands; what the next byte is. Contracts of token's reader: digits, numbers, what may stand behind a count's numbers; a byte that stands for itself. -/
import Derived.Test.YtenibhmjcafbiaaGreatDoorRd
import Derived.Test.YtenibhmjcafbiaaGreatDoorBlkE
import Derived.Deep.LoopGhost
namespace Go.Proofs.YtenibhmjcafbiaaGreatDoor
section
open Go Go.RowKit
attribute [local go_sem ↓] Go.wp_at_zero Go.wp_at_succ
/-- The byte at a place; 256 behind the end. -/
def bAt (s : ByteArray) (k : Nat) : Nat := if h : k < s.size then (s[k]'h).toNat else 256
theorem bAt_in {s : ByteArray} {k : Nat} (h : k < s.size) : bAt s k = (s[k]'h).toNat := dif_pos h
theorem bAt_end {s : ByteArray} {k : Nat} (h : s.size ≤ k) : bAt s k = 256 := dif_neg (by omega)
theorem bAt_lt {s : ByteArray} {k : Nat} (h : k < s.size) : bAt s k < 256 := by rw [bAt_in h]; exact (s[k]'h).toNat_lt
theorem in_of_bAt {s : ByteArray} {k b : Nat} (h : bAt s k = b) (hb : b < 256) : k < s.size := by
  by_cases hk : k < s.size
  · exact hk
  · rw [bAt_end (by omega)] at h; omega
theorem tstep_any (g n : Nat) (m : Int) (s : ByteArray) (k : Nat) (hn : (k : Int) + n ≤ 9223372036854775807) (w : World) (h : RdAt w g s k) (hm : m = (n : Int)) :
    Calls Tryz.prog 98 #[.pointer (some ⟨g, 0, none⟩), .int .i64 m] w fun e w' => e = .returned (.tuple #[]) ∧ w' = w.setCell ⟨g, 0, none⟩ (.int .i64 ((k : Int) + (n : Int))) := by
  subst hm
  obtain ⟨c0, c1, fz, lt⟩ := h
  have hw : IntKind.i64.wrap ((k : Int) + (n : Int)) = (k : Int) + (n : Int) := by simp [IntKind.wrap, IntKind.signed, IntKind.bits]; omega
  go_enter Tryz.func98, Tryz.ntmps98
  go_wp2
  go_end0
  exact ⟨rfl, rfl⟩
theorem tback_any (g : Nat) (j c : Int) (s : ByteArray) (k : Nat) (w : World) (h : RdAt w g s k) :
    Calls Tryz.prog 100 #[.pointer (some ⟨g, 0, none⟩), .int .i64 j, .int .i64 c] w fun e w' => e = .returned (.int .i64 c) ∧ w' = w.setCell ⟨g, 0, none⟩ (.int .i64 j) := by
  obtain ⟨c0, c1, fz, lt⟩ := h
  go_enter Tryz.func100, Tryz.ntmps100
  go_wp2
  go_ret
  exact ⟨rfl, rfl⟩
theorem tended_any (g : Nat) (s : ByteArray) (k : Nat) (w : World) (h : RdAt w g s k) :
    Calls Tryz.prog 43 #[.pointer (some ⟨g, 0, none⟩)] w fun e w' => e = .returned (.bool (decide (s.size ≤ k))) ∧ ∃ n, w' = w.drewN n := by
  obtain ⟨c0, c1, fz, lt⟩ := h
  go_enter Tryz.func43, Tryz.ntmps43
  go_wp2_with fail
  go_quiet (fail)
  go_wp2
  go_ret
  exact ⟨by simp, nq, rfl⟩
theorem sees_any (g : Nat) (s : ByteArray) (k b : Nat) (hb : b < 256) (w : World) (h : RdAt w g s k) :
    Calls Tryz.prog 114 #[.pointer (some ⟨g, 0, none⟩), .int .u8 (b : Int)] w fun e w' => e = .returned (.bool (decide (bAt s k = b))) ∧ ∃ n, w' = w.drewN n := by
  have HE := qhid (fun n => tended_any g s k (w.drewN n) (only_rd h n))
  obtain ⟨c0, c1, fz, lt⟩ := h
  by_cases hk : k < s.size
  · have hd : decide (s.size ≤ k) = false := decide_eq_false (by omega)
    rw [hd] at HE
    have hv : decide (bAt s k = b) = (((s[k]'hk).toNat : Int) == (b : Int)) := by rw [bAt_in hk]; rw [Bool.eq_iff_iff]; simp; omega
    have HV := qhid hv
    clear hd hv
    go_enter Tryz.func114, Tryz.ntmps114
    go_wp2_with fail
    go_quiet ((go_at_call 43; exact Calls.quiet_of (HE.out _)))
    go_wp2
    go_ret
    exact ⟨by rw [HV.out]; rfl, nq, rfl⟩
  · have hd : decide (s.size ≤ k) = true := decide_eq_true (by omega)
    rw [hd] at HE
    have hv : decide (bAt s k = b) = false := by rw [bAt_end (by omega)]; exact decide_eq_false (by omega)
    have HV := qhid hv
    clear hd hv
    go_enter Tryz.func114, Tryz.ntmps114
    go_wp2_with fail
    go_quiet ((go_at_call 43; exact Calls.quiet_of (HE.out _)))
    go_wp2
    go_ret
    exact ⟨by rw [HV.out]; rfl, nq, rfl⟩
theorem skip_no (g : Nat) (s : ByteArray) (k b : Nat) (hb : b < 256) (w : World) (h : RdAt w g s k) (hk : bAt s k ≠ b) :
    Calls Tryz.prog 99 #[.pointer (some ⟨g, 0, none⟩), .int .u8 (b : Int)] w fun e w' => e = .returned (.bool false) ∧ ∃ n, w' = w.drewN n := by
  have HE := qhid (fun n => sees_any g s k b hb (w.drewN n) (only_rd h n))
  rw [decide_eq_false hk] at HE
  go_enter Tryz.func99, Tryz.ntmps99
  go_wp2_with fail
  refine (HE.out 0).mono ?_
  rintro e w1 ⟨rfl, n, hw⟩
  have HW := qhid hw
  clear hw
  go_wp2
  go_ret
  exact ⟨rfl, n, HW.out⟩
theorem skip_yes (g : Nat) (s : ByteArray) (k b : Nat) (hb : b < 256) (w : World) (h : RdAt w g s k) (hk : bAt s k = b) (hs : s.size ≤ 1099511627776) :
    Calls Tryz.prog 99 #[.pointer (some ⟨g, 0, none⟩), .int .u8 (b : Int)] w fun e w' => e = .returned (.bool true) ∧ Rd w w' g s (k + 1) := by
  have hin := in_of_bAt hk hb
  have HE := qhid (fun n => sees_any g s k b hb (w.drewN n) (only_rd h n))
  rw [decide_eq_true hk] at HE
  have HS := qhid (fun n => tstep_any g 1 1 s k (by omega) (w.drewN n) (only_rd h n) rfl)
  have HH := qhid h
  clear h hk
  go_enter Tryz.func99, Tryz.ntmps99
  go_wp2_with fail
  refine (HE.out 0).mono ?_
  rintro e w1 ⟨rfl, n, hw⟩
  obtain rfl : w1 = w.drewN n := hw
  go_wp2_with fail
  refine (HS.out n).mono ?_
  rintro e w2 ⟨rfl, hw2⟩
  have HW := qhid hw2
  clear hw2
  go_wp2
  go_ret
  exact ⟨rfl, Rd.of HH.out n HW.out⟩
end
section
open Go Go.RowKit
attribute [local go_sem ↓] Go.wp_at_zero Go.wp_at_succ
attribute [local go_sem] eq4
theorem only_more {a w w1 : World} {row : Option Nat} (h : a.grownBy w row) (hb : Below w.heap.size w w1) : a.grownBy w1 row :=
  ⟨hb.os.trans h.os, hb.tape.trans h.tape, hb.output.trans h.output, Nat.le_trans h.size hb.size, fun i hi hne => (hb.block i (Nat.lt_of_lt_of_le hi h.size)).trans (h.block i hi hne)⟩
theorem rd_below {w w1 : World} {g : Nat} {s : ByteArray} {k : Nat} (h : RdAt w g s k) (hb : Below w.heap.size w w1) : RdAt w1 g s k :=
  ⟨(hb.cell (p := ⟨g, 0, none⟩) h.lt).trans h.c0, (hb.cell (p := ⟨g, 1, none⟩) h.lt).trans h.c1, (hb.frozen (p := ⟨g, 0, none⟩) h.lt).trans h.fz, Nat.lt_of_lt_of_le h.lt hb.size⟩
theorem Rd.below {w w1 w2 : World} {g : Nat} {s : ByteArray} {k : Nat} (h : Rd w w1 g s k) (hb : Below w1.heap.size w1 w2) : Rd w w2 g s k := ⟨rd_below h.1 hb, only_more h.2 hb⟩
theorem Rd.drewN {w w1 : World} {g : Nat} {s : ByteArray} {k : Nat} (h : Rd w w1 g s k) (n : Nat) : Rd w (w1.drewN n) g s k := ⟨only_rd h.1 n, only_drewN h.2 n⟩
theorem Rd.trans {w w1 w2 : World} {g : Nat} {s : ByteArray} {k j : Nat} (h : Rd w w1 g s k) (h2 : Rd w1 w2 g s j) : Rd w w2 g s j := ⟨h2.1, only_trans h.2 h2.2⟩
theorem Rd.refl {w : World} {g : Nat} {s : ByteArray} {k : Nat} (h : RdAt w g s k) : Rd w w g s k := ⟨h, only_refl _ _⟩
/-- The reader is laid at a place. -/
theorem Rd.put {w w1 w2 : World} {g : Nat} {s : ByteArray} {k j : Nat} (h : Rd w w1 g s k) (e : w2 = w1.setCell ⟨g, 0, none⟩ (.int .i64 (j : Int))) : Rd w w2 g s j := by
  subst e
  have hlt := h.1.lt
  refine ⟨⟨?_, ?_, ?_, ?_⟩, only_setCell h.2 (.inl rfl) _⟩
  · rw [World.cell?_setCell_same _ _ _ h.1.c0]
  · rw [World.cell?_setCell_other _ _ _ _ (by simp)]; exact h.1.c1
  · rw [World.frozen?_setCell]; exact h.1.fz
  · simpa [World.setCell] using hlt
/-- Is a byte a digit? -/
def digB (b : Nat) : Bool := decide (48 ≤ b) && decide (b ≤ 57)
theorem tdigit_any (b : Nat) (hb : b < 256) (w : World) :
    Calls Tryz.prog 115 #[.int .u8 (b : Int)] w fun e w' => e = .returned (.bool (digB b)) ∧ w' = w := by
  by_cases h1 : 48 ≤ b
  · have d1 : decide ((48 : Int) ≤ (b : Int)) = true := decide_eq_true (by omega)
    have e : digB b = decide ((b : Int) ≤ 57) := by unfold digB; rw [decide_eq_true h1, Bool.true_and, Bool.eq_iff_iff]; simp; omega
    rw [e]
    clear e
    go_enter Tryz.func115, Tryz.ntmps115
    go_wp2
    go_ret
    exact ⟨rfl, rfl⟩
  · have d1 : decide ((48 : Int) ≤ (b : Int)) = false := decide_eq_false (by omega)
    have e : digB b = false := by unfold digB; rw [decide_eq_false h1]; rfl
    rw [e]
    clear e
    go_enter Tryz.func115, Tryz.ntmps115
    go_wp2
    go_ret
    exact ⟨rfl, rfl⟩
/-- How many digits stand from a place on, n at most. -/
def dlen (s : ByteArray) (a : Nat) : Nat → Nat
  | 0 => 0
  | n + 1 => if digB (bAt s a) then dlen s (a + 1) n + 1 else 0
theorem dlen_le (s : ByteArray) : ∀ n a, dlen s a n ≤ n := by
  intro n
  induction n with
  | zero => intro a; exact Nat.le_refl _
  | succ n ih => intro a; unfold dlen; split; have := ih (a + 1); omega; omega
theorem dlen_in (s : ByteArray) : ∀ n a i, i < dlen s a n → digB (bAt s (a + i)) = true := by
  intro n
  induction n with
  | zero => intro a i h; simp [dlen] at h
  | succ n ih =>
    intro a i h
    unfold dlen at h
    by_cases hd : digB (bAt s a) = true
    · rw [if_pos hd] at h
      cases i with
      | zero => exact hd
      | succ i => have := ih (a + 1) i (by omega); rw [show a + (i + 1) = a + 1 + i by omega]; exact this
    · rw [if_neg hd] at h; omega
theorem dlen_out (s : ByteArray) : ∀ n a, dlen s a n < n → digB (bAt s (a + dlen s a n)) = false := by
  intro n
  induction n with
  | zero => intro a h; omega
  | succ n ih =>
    intro a h
    by_cases hd : digB (bAt s a) = true
    · have e : dlen s a (n + 1) = dlen s (a + 1) n + 1 := by rw [dlen, if_pos hd]
      rw [e] at h ⊢
      have := ih (a + 1) (by omega)
      rw [show a + (dlen s (a + 1) n + 1) = a + 1 + dlen s (a + 1) n by omega]; exact this
    · have e : dlen s a (n + 1) = 0 := by rw [dlen, if_neg hd]
      rw [e]; simpa using hd
/-- The digits' number, the first i of them read. -/
def nval (s : ByteArray) (a : Nat) : Nat → Nat
  | 0 => 0
  | i + 1 => min (10 * nval s a i + (bAt s (a + i) - 48)) 1001
theorem nval_le (s : ByteArray) (a i : Nat) : nval s a i ≤ 1001 := by
  cases i with
  | zero => simp [nval]
  | succ i => exact Nat.min_le_right _ _
/-- All digits from a place on. -/
def dall (s : ByteArray) (a : Nat) : Nat := dlen s a (s.size - a)
theorem dall_in {s : ByteArray} {a i : Nat} (h : i < dall s a) : a + i < s.size ∧ digB (bAt s (a + i)) = true := by
  have h1 := dlen_in s (s.size - a) a i h
  have h2 := dlen_le s (s.size - a) a
  unfold dall at h
  exact ⟨by omega, h1⟩
theorem dall_out (s : ByteArray) (a : Nat) : (a + dall s a < s.size → digB (bAt s (a + dall s a)) = false) := by
  intro h
  exact dlen_out s (s.size - a) a (by unfold dall at h; omega)
/-- What comes of a number: its value, the error, where the reader stands. -/
def numR (s : ByteArray) (a : Nat) : Int × Int × Nat :=
  if dall s a = 0 then (0, 4, a) else if 1000 < nval s a (dall s a) then (0, 5, a) else ((nval s a (dall s a) : Nat), 0, a + dall s a)
theorem numR_none {s : ByteArray} {a : Nat} (h : dall s a = 0) : numR s a = (0, 4, a) := by unfold numR; rw [if_pos h]
theorem numR_big {s : ByteArray} {a : Nat} (h : dall s a ≠ 0) (hb : 1000 < nval s a (dall s a)) : numR s a = (0, 5, a) := by unfold numR; rw [if_neg h, if_pos hb]
theorem numR_ok {s : ByteArray} {a : Nat} (h : dall s a ≠ 0) (hb : ¬ 1000 < nval s a (dall s a)) : numR s a = (((nval s a (dall s a) : Nat) : Int), 0, a + dall s a) := by unfold numR; rw [if_neg h, if_neg hb]
theorem fin2 {x y : Int} {j : Nat} {r : Int × Int × Nat} (h : r = (x, y, j)) {w w' : World} {g : Nat} {s : ByteArray} (hr : Rd w w' g s j) :
    Ending.returned (.tuple #[.int .i64 x, .int .i64 y]) = .returned (.tuple #[.int .i64 r.1, .int .i64 r.2.1]) ∧ Rd w w' g s r.2.2 := by subst h; exact ⟨rfl, hr⟩
set_option maxRecDepth 100000 in
set_option maxHeartbeats 2000000 in
theorem tnumber_any (g a : Nat) (s : ByteArray) (ha : a ≤ s.size) (hs : s.size ≤ 1099511627776) (w : World) (h : RdAt w g s a) :
    Calls Tryz.prog 102 #[.pointer (some ⟨g, 0, none⟩)] w fun e w' => e = .returned (.tuple #[.int .i64 (numR s a).1, .int .i64 (numR s a).2.1]) ∧ Rd w w' g s (numR s a).2.2 := by
  have HH := qhid h
  obtain ⟨c0, c1, fz, lt⟩ := h
  go_enter Tryz.func102, Tryz.ntmps102
  go_wp2_with fail
  go_loopg [5] (dall s a) (fun k n wr => ∃ i : Nat, i + k = dall s a ∧ n = .int .i64 ((nval s a i : Nat) : Int) ∧ Hid (Rd w wr g s (a + i)))
  case atStart => exact ⟨0, by omega, rfl, qhid (Rd.refl HH.out)⟩
  case round =>
    obtain ⟨i, hi, rfl, HR⟩ := hrel
    by_cases hik : i < dall s a
    · obtain ⟨hin, hdg⟩ := dall_in hik
      have hnv := nval_le s a i
      have HNX : Hid (nval s a (i + 1) = min (10 * nval s a i + (bAt s (a + i) - 48)) 1001) := qhid rfl
      obtain ⟨q, hq⟩ : ∃ q, q = a + i := ⟨_, rfl⟩
      have HQ := qhid hq
      rw [← hq] at hin hdg HNX HR
      clear hq
      have HA := qhid HR.out.1
      obtain ⟨r0, r1, rz, rl⟩ := HR.out.1
      have hbl := bAt_lt hin
      have hbd : 48 ≤ bAt s q ∧ bAt s q ≤ 57 := by unfold digB at hdg; simpa using hdg
      have hbe : ((s[q]'hin).toNat) = bAt s q := (bAt_in hin).symm
      have HE := qhid (fun n => tended_any g s q (wr.drewN n) (only_rd HA.out n))
      rw [decide_eq_false (by omega : ¬ s.size ≤ q)] at HE
      have HD := qhid (fun n => tdigit_any (bAt s q) hbl (wr.drewN n))
      rw [hdg, ← hbe] at HD
      rw [← hbe] at hbd hbl HNX
      clear hdg hbe
      go_wp2_with fail
      go_quiet (first | (go_at_call 43; exact Calls.quiet_of (HE.out _)) | (go_at_call 115; exact Calls.quiet_of_same (HD.out _)))
      have HRq : Hid (Rd w (wr.drewN nq) g s q) := qhid (HR.out.drewN nq)
      clear r0 r1 rz rl HE HD
      generalize wr.drewN nq = wq at *
      obtain ⟨r0, r1, rz, rl⟩ := HRq.out.1
      have hST := qhid (fun n => tstep_any g 1 1 s q (by omega) (wq.drewN n) (only_rd HRq.out.1 n) rfl)
      obtain ⟨x, hx⟩ : ∃ x : Nat, x = 10 * nval s a i := ⟨_, rfl⟩
      obtain ⟨y, hy⟩ : ∃ y : Nat, y = (s[q]'hin).toNat - 48 := ⟨_, rfl⟩
      have e1 : IntKind.i64.wrap (10 * ((nval s a i : Nat) : Int)) = (x : Int) := by simp [IntKind.wrap, IntKind.signed, IntKind.bits]; omega
      have e2 : IntKind.u8.wrap (((s[q]'hin).toNat : Int) - 48) = (y : Int) := by simp [IntKind.wrap, IntKind.signed, IntKind.bits]; omega
      obtain ⟨z, hz⟩ : ∃ z : Nat, z = x + y := ⟨_, rfl⟩
      have e3 : IntKind.i64.wrap ((x : Int) + (y : Int)) = (z : Int) := by simp [IntKind.wrap, IntKind.signed, IntKind.bits]; omega
      have e4 : IntKind.i64.wrap (y : Int) = (y : Int) := by simp [IntKind.wrap, IntKind.signed, IntKind.bits]; omega
      have HXY : Hid (nval s a (i + 1) = min z 1001) := qhid (by rw [HNX.out, hz, hx, hy])
      clear hx hy hz
      by_cases hz1 : (z : Int) ≤ 1001
      · have HV : Hid (nval s a (i + 1) = z) := qhid (by rw [HXY.out]; omega)
        go_wp2_with fail
        go_quiet (fail)
        clear e1 e2 e3 e4
        go_wp2_with fail
        refine (hST.out nq).mono ?_
        rintro e w2 ⟨rfl, hw2⟩
        have HR2 : Hid (Rd w w2 g s (a + (i + 1))) := qhid (by rw [show a + (i + 1) = q + 1 by rw [HQ.out]; rfl]; exact (HRq.out.drewN nq).put (by rw [hw2]; rfl))
        clear hw2
        go_wp2_with fail
        go_roundg (dall s a - (i + 1))
        case measure => omega
        case rel => exact ⟨i + 1, by omega, by rw [HV.out], HR2⟩
      · have HV : Hid (nval s a (i + 1) = 1001) := qhid (by rw [HXY.out]; omega)
        go_wp2_with fail
        go_quiet (fail)
        clear e1 e2 e3 e4
        go_wp2_with fail
        refine (hST.out nq).mono ?_
        rintro e w2 ⟨rfl, hw2⟩
        have HR2 : Hid (Rd w w2 g s (a + (i + 1))) := qhid (by rw [show a + (i + 1) = q + 1 by rw [HQ.out]; rfl]; exact (HRq.out.drewN nq).put (by rw [hw2]; rfl))
        clear hw2
        go_wp2_with fail
        go_roundg (dall s a - (i + 1))
        case measure => omega
        case rel => exact ⟨i + 1, by omega, by rw [HV.out]; rfl, HR2⟩
    · obtain rfl : i = dall s a := by omega
      obtain ⟨d, hd⟩ : ∃ d, d = dall s a := ⟨_, rfl⟩
      obtain ⟨q, hq⟩ : ∃ q, q = a + d := ⟨_, rfl⟩
      obtain ⟨v, hv⟩ : ∃ v, v = nval s a d := ⟨_, rfl⟩
      have HOUT := qhid (dall_out s a)
      have HNO : Hid (d = 0 → numR s a = (0, 4, a)) := qhid (fun h => numR_none (by omega))
      have HBG : Hid (d ≠ 0 → 1000 < v → numR s a = (0, 5, a)) := qhid (fun h h2 => numR_big (by omega) (by rw [← hd, ← hv]; exact h2))
      have HOK : Hid (d ≠ 0 → ¬ 1000 < v → numR s a = (((v : Nat) : Int), 0, q)) := qhid (fun h h2 => by rw [numR_ok (by omega) (by rw [← hd, ← hv]; exact h2), ← hd, ← hv, ← hq])
      have hvl : v ≤ 1001 := by rw [hv]; exact nval_le _ _ _
      rw [← hd] at HOUT HR
      rw [← hq] at HOUT HR
      rw [← hd, ← hv]
      have hqa : a ≤ q := by omega
      have hqd : (q = a) ↔ (d = 0) := by omega
      have HQD := qhid hqd
      clear hv hq hd hqd hi
      have HA := qhid HR.out.1
      obtain ⟨r0, r1, rz, rl⟩ := HR.out.1
      have HE := qhid (fun n => tended_any g s q (wr.drewN n) (only_rd HA.out n))
      have HAFT : Hid (∀ W, Rd w W g s q → Rd w W g s q) := qhid (fun _ h => h)
      by_cases hin : q < s.size
      · rw [decide_eq_false (by omega : ¬ s.size ≤ q)] at HE
        have hbe : ((s[q]'hin).toNat) = bAt s q := (bAt_in hin).symm
        have hbl := bAt_lt hin
        have HD := qhid (fun n => tdigit_any (bAt s q) hbl (wr.drewN n))
        rw [HOUT.out hin, ← hbe] at HD
        clear hbe hbl
        go_wp2_with fail
        go_quiet (first | (go_at_call 43; exact Calls.quiet_of (HE.out _)) | (go_at_call 115; exact Calls.quiet_of_same (HD.out _)))
        have HRq : Hid (Rd w (wr.drewN nq) g s q) := qhid (HR.out.drewN nq)
        clear r0 r1 rz rl HE HD
        generalize wr.drewN nq = wq at *
        obtain ⟨r0, r1, rz, rl⟩ := HRq.out.1
        have TB := qhid (tback_any g a 5 s q wq HRq.out.1)
        by_cases d0 : d = 0
        · have eq1 : ((q : Int) == (a : Int)) = true := by have := HQD.out.2 d0; simp; omega
          have HF := qhid (HNO.out d0)
          have HRa : Hid (Rd w wq g s a) := qhid (by have e := HQD.out.2 d0; rw [← e]; exact HRq.out)
          clear TB d0
          go_wp2_with fail
          go_ret2
          exact fin2 HF.out HRa.out
        · have eq1 : ((q : Int) == (a : Int)) = false := by have hne : q ≠ a := fun h => d0 (HQD.out.1 h); simp; omega
          by_cases hb : 1000 < v
          · have dv : decide ((1000 : Int) < (v : Int)) = true := decide_eq_true (by omega)
            have HF := qhid (HBG.out d0 hb)
            clear d0
            go_wp2_with fail
            refine TB.out.mono ?_
            rintro e w2 ⟨rfl, hw2⟩
            have HR2 : Hid (Rd w w2 g s a) := qhid (HRq.out.put hw2)
            clear hw2
            go_wp2_with fail
            go_ret2
            exact fin2 HF.out HR2.out
          · have dv : decide ((1000 : Int) < (v : Int)) = false := decide_eq_false (by omega)
            have HF := qhid (HOK.out d0 hb)
            clear d0 TB
            go_wp2_with fail
            go_ret2
            exact fin2 HF.out HRq.out
      · rw [decide_eq_true (by omega : s.size ≤ q)] at HE
        go_wp2_with fail
        go_quiet ((go_at_call 43; exact Calls.quiet_of (HE.out _)))
        have HRq : Hid (Rd w (wr.drewN nq) g s q) := qhid (HR.out.drewN nq)
        clear r0 r1 rz rl HE
        generalize wr.drewN nq = wq at *
        obtain ⟨r0, r1, rz, rl⟩ := HRq.out.1
        have TB := qhid (tback_any g a 5 s q wq HRq.out.1)
        by_cases d0 : d = 0
        · have eq1 : ((q : Int) == (a : Int)) = true := by have := HQD.out.2 d0; simp; omega
          have HF := qhid (HNO.out d0)
          have HRa : Hid (Rd w wq g s a) := qhid (by have e := HQD.out.2 d0; rw [← e]; exact HRq.out)
          clear TB d0
          go_wp2_with fail
          go_ret2
          exact fin2 HF.out HRa.out
        · have eq1 : ((q : Int) == (a : Int)) = false := by have hne : q ≠ a := fun h => d0 (HQD.out.1 h); simp; omega
          by_cases hb : 1000 < v
          · have dv : decide ((1000 : Int) < (v : Int)) = true := decide_eq_true (by omega)
            have HF := qhid (HBG.out d0 hb)
            clear d0
            go_wp2_with fail
            refine TB.out.mono ?_
            rintro e w2 ⟨rfl, hw2⟩
            have HR2 : Hid (Rd w w2 g s a) := qhid (HRq.out.put hw2)
            clear hw2
            go_wp2_with fail
            go_ret2
            exact fin2 HF.out HR2.out
          · have dv : decide ((1000 : Int) < (v : Int)) = false := decide_eq_false (by omega)
            have HF := qhid (HOK.out d0 hb)
            clear d0 TB
            go_wp2_with fail
            go_ret2
            exact fin2 HF.out HRq.out
end
end Go.Proofs.YtenibhmjcafbiaaGreatDoor
