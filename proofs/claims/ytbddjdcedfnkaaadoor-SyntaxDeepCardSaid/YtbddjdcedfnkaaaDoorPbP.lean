/- The statement on groups within one another. -/
import Derived.Test.YtbddjdcedfnkaaaDoorPbO
namespace Go.Proofs.YtbddjdcedfnkaaaDoor
open Go Go.RowKit
attribute [local go_sem ↓] Go.wp_at_zero Go.wp_at_succ
attribute [local go_sem] eq4
structure PrefS (p : ByteArray) (free : Bool) (j : Nat) : Prop where
  size : p.size = opU free * j
  op : ∀ i, i < j → bAt p (opU free * i) = 40
  f1 : free = true → ∀ i, i < j → bAt p (3 * i + 1) = 63 ∧ bAt p (3 * i + 2) = 58
structure CloS (q : ByteArray) (j : Nat) : Prop where
  size : q.size = j
  cl : ∀ i, i < j → bAt q i = 41
theorem PrefS.add {p : ByteArray} {free : Bool} {j : Nat} (h : PrefS p free j) : PrefS (p ++ (if free then ⟨#[40, 63, 58]⟩ else ⟨#[40]⟩)) free (j + 1) := by
  have hs := h.size
  cases free with
  | true =>
    have hs : p.size = 3 * j := hs
    show PrefS (p ++ ⟨#[40, 63, 58]⟩) true (j + 1)
    refine ⟨by rw [ByteArray.size_append, hs]; show 3 * j + 3 = 3 * (j + 1); omega, fun i hi => ?_, fun _ i hi => ?_⟩
    · show bAt _ (3 * i) = 40
      rw [bAt_append, hs]
      by_cases hij : i < j
      · rw [if_pos (by omega)]; exact h.op i hij
      · obtain rfl : i = j := by omega
        rw [if_neg (by omega), Nat.sub_self]; rfl
    · rw [bAt_append, bAt_append, hs]
      by_cases hij : i < j
      · rw [if_pos (by omega), if_pos (by omega)]; exact h.f1 rfl i hij
      · obtain rfl : i = j := by omega
        rw [if_neg (by omega), if_neg (by omega), show 3 * i + 1 - 3 * i = 1 by omega, show 3 * i + 2 - 3 * i = 2 by omega]
        exact ⟨rfl, rfl⟩
  | false =>
    have hs : p.size = 1 * j := hs
    show PrefS (p ++ ⟨#[40]⟩) false (j + 1)
    refine ⟨by rw [ByteArray.size_append, hs]; show 1 * j + 1 = 1 * (j + 1); omega, fun i hi => ?_, fun e => by cases e⟩
    show bAt _ (1 * i) = 40
    rw [bAt_append, hs]
    by_cases hij : i < j
    · rw [if_pos (by omega)]; exact h.op i hij
    · obtain rfl : i = j := by omega
      rw [if_neg (by omega), Nat.sub_self]; rfl
theorem CloS.add {q : ByteArray} {j : Nat} (h : CloS q j) : CloS (q ++ ⟨#[41]⟩) (j + 1) := by
  have hs := h.size
  refine ⟨by rw [ByteArray.size_append, hs]; rfl, fun i hi => ?_⟩
  rw [bAt_append, hs]
  by_cases hij : i < j
  · rw [if_pos hij]; exact h.cl i hij
  · obtain rfl : i = j := by omega
    rw [if_neg (by omega), Nat.sub_self]; rfl
theorem nest_of {p q : ByteArray} {free : Bool} {n : Nat} (h : PrefS p free n) (hq : CloS q n) : NestS (p ++ ⟨#[97]⟩ ++ q) free n := by
  have hs := h.size
  have h1 : (⟨#[97]⟩ : ByteArray).size = 1 := rfl
  have hpa : (p ++ (⟨#[97]⟩ : ByteArray)).size = opU free * n + 1 := by rw [ByteArray.size_append, hs, h1]
  have low : ∀ k, k < opU free * n → bAt (p ++ ⟨#[97]⟩ ++ q) k = bAt p k := fun k hk => by
    rw [bAt_append, hpa, if_pos (by omega), bAt_append, hs, if_pos hk]
  have hmul : ∀ i, i < n → opU free * i + opU free ≤ opU free * n := fun i hi => by
    have := Nat.mul_le_mul_left (opU free) (show i + 1 ≤ n by omega)
    rw [Nat.mul_add, Nat.mul_one] at this; exact this
  have hpos : 1 ≤ opU free := by cases free <;> decide
  refine ⟨by rw [ByteArray.size_append, hpa, hq.size], fun i hi => ?_, fun hf i hi => ?_, ?_, fun i hi => ?_⟩
  · rw [low _ (by have := hmul i hi; omega)]; exact h.op i hi
  · subst hf
    have := hmul i hi
    have e : opU true = 3 := rfl
    rw [e] at this low
    rw [low _ (by omega), low _ (by omega)]; exact h.f1 rfl i hi
  · rw [bAt_append, hpa, if_pos (by omega), bAt_append, hs, if_neg (by omega), Nat.sub_self]; rfl
  · rw [bAt_append, hpa, if_neg (by omega), show opU free * n + 1 + i - (opU free * n + 1) = i by omega]
    exact hq.cl i hi
set_option maxRecDepth 100000 in
set_option maxHeartbeats 8000000 in
theorem deeplaw_any (m : Nat) (hm : m < 256) (free : Bool) (w : World) (hT : ∀ w', Below w.heap.size w w' → Tab w') :
    Calls Tryd.prog 4 #[.int .u8 (m : Int), .bool free] w fun e w' => e = .returned (.bool true) ∧ Below w.heap.size w w' := by
  have HT := qhid hT
  clear hT
  obtain ⟨n, hn⟩ : ∃ n : Nat, n = 195 + m % 10 := ⟨_, rfl⟩
  have en : (195 : Int) + (m : Int) % 10 = (n : Int) := by omega
  have hn1 : 195 ≤ n := by omega
  have hn2 : n ≤ 204 := by omega
  have HEN := qhid en
  clear en hn
  go_enter Tryd.func4, Tryd.ntmps4
  go_wp2_with fail
  rw [HEN.out]
  go_loopw [6, 7, 8] (fun pv qv i wr => ∃ (j : Nat) (p q : ByteArray), j ≤ n ∧ i = .int .i64 j ∧ pv = .string p ∧ qv = .string q ∧ Hid (PrefS p free j) ∧ Hid (CloS q j) ∧ wr = w) (fun _ _ i _ => n - (intOf i).toNat)
  case atStart => exact ⟨0, _, _, by omega, rfl, rfl, rfl, qhid ⟨by simp; rfl, fun i hi => absurd hi (by omega), fun _ i hi => absurd hi (by omega)⟩, qhid ⟨rfl, fun i hi => absurd hi (by omega)⟩, rfl⟩
  case round =>
    obtain ⟨j, p, q, hj, rfl, rfl, rfl, HP, HQ, hwr⟩ := hrel
    obtain rfl : w = wr := hwr.symm
    by_cases hlt : j < n
    · have HP2 := qhid HP.out.add
      have HQ2 := qhid HQ.out.add
      have hps : p.size ≤ 612 := by have := HP.out.size; have h3 : opU free ≤ 3 := by cases free <;> decide
                                    have := Nat.mul_le_mul h3 (show j ≤ 204 by omega); omega
      have hqs : q.size ≤ 204 := by have := HQ.out.size; omega
      cases free with
      | true =>
        go_wp2_with fail
        go_roundw
        case rel => exact ⟨j + 1, _, _, by omega, by go_num, rfl, rfl, HP2, HQ2, by first | rfl | trivial⟩
        case measure => simp [intOf]; omega
      | false =>
        go_wp2_with fail
        go_roundw
        case rel => exact ⟨j + 1, _, _, by omega, by go_num, rfl, rfl, HP2, HQ2, by first | rfl | trivial⟩
        case measure => simp [intOf]; omega
    · obtain rfl : j = n := by omega
      have HNS := qhid (nest_of HP.out HQ.out)
      have HPS := qhid HP.out.size
      obtain ⟨s, hs⟩ : ∃ s, s = p ++ ⟨#[97]⟩ ++ q := ⟨_, rfl⟩
      rw [← hs] at HNS
      have hsz : s.size ≤ 1048576 := by
        have := HNS.out.size
        have h3 : opU free ≤ 3 := by cases free <;> decide
        have := Nat.mul_le_mul h3 (show j ≤ 204 by omega)
        omega
      have pa := parse_any s hsz w (HT.out w (Below.refl _ _))
      have hps : p.size ≤ 612 := by
        have := HPS.out
        have h3 : opU free ≤ 3 := by cases free <;> decide
        have := Nat.mul_le_mul h3 (show j ≤ 204 by omega)
        omega
      have hqs : q.size ≤ 204 := by have := HQ.out.size; omega
      by_cases h200 : 200 < j
      · rw [nest_many HNS.out h200, hs] at pa
        have PA := qhid pa
        have h200i : (200 : Int) < (j : Int) := by omega
        clear HNS HP HQ pa hsz hs
        go_wp2_with fail
        refine PA.out.mono ?_
        rintro e w1 ⟨v, rfl, hv, hb⟩
        have hv : v = .pointer none := hv
        subst hv
        have HB := qhid hb
        have AW := qhid (syn_awake w1 (HT.out w1 hb))
        have hquo : 200 * (p.size : Int) / (j : Int) = (opU free : Int) * 200 := by
          rw [HPS.out, Int.natCast_mul, ← Int.mul_assoc, Int.mul_ediv_cancel _ (by omega), Int.mul_comm]
        clear hb PA
        go_wp2_with fail
        refine AW.out.mono ?_
        rintro e w2 ⟨rfl, h2⟩
        have H2 := qhid (HB.out.trans (h2.mono HB.out.size))
        clear h2 AW HB
        go_wp2_with fail
        exact bodyPost_ret (v := .bool true) (by simp [results, Tryd.results4, go_sem]) rfl ⟨rfl, H2.out⟩
      · obtain ⟨t, ht, hd, hts⟩ := nest_parse HNS.out (show j ≤ 200 by omega)
        rw [ht, hs] at pa
        have PA := qhid pa
        have HD := qhid hd
        have HTS := qhid hts
        have h200i : ¬ (200 : Int) < (j : Int) := by omega
        clear HNS HP HQ pa hsz hs ht hd hts
        go_wp2_with fail
        refine PA.out.mono ?_
        rintro e w1 ⟨v, rfl, hv, hb⟩
        have hv : NdAt w1 (fun b => w.heap.size ≤ b) t v := hv
        obtain ⟨qv, rfl⟩ := hv.pointer
        have HB := qhid hb
        have D1 := qhid (sdeep_any _ t qv w1 hv (by rw [HTS.out]; omega))
        rw [HD.out] at D1
        clear hb PA hv HD HTS
        go_wp2_with fail
        refine D1.out.mono ?_
        rintro e w2 ⟨rfl, h2⟩
        have H2 := qhid (HB.out.trans (h2.mono HB.out.size))
        have S2 := qhid (ssize_nil w2)
        clear h2 D1 HB
        go_wp2_with fail
        refine S2.out.mono ?_
        rintro e w3 ⟨rfl, h3⟩
        have H3 := qhid (H2.out.trans (h3.mono H2.out.size))
        have S3 := qhid (sgroups_nil w3)
        clear h3 S2 H2
        go_wp2_with fail
        refine S3.out.mono ?_
        rintro e w4 ⟨rfl, h4⟩
        have H4 := qhid (H3.out.trans (h4.mono H3.out.size))
        have S4 := qhid (sdeep_nil w4)
        clear h4 S3 H3
        go_wp2_with fail
        refine S4.out.mono ?_
        rintro e w5 ⟨rfl, h5⟩
        have H5 := qhid (H4.out.trans (h5.mono H4.out.size))
        have S5 := qhid (ssets_nil w5)
        clear h5 S4 H4
        go_wp2_with fail
        refine S5.out.mono ?_
        rintro e w6 ⟨rfl, h6⟩
        have H6 := qhid (H5.out.trans (h6.mono H5.out.size))
        have S6 := qhid (sright_nil w6)
        clear h6 S5 H5
        go_wp2_with fail
        refine S6.out.mono ?_
        rintro e w7 ⟨rfl, h7⟩
        have H7 := qhid (H6.out.trans (h7.mono H6.out.size))
        have S7 := qhid (ssame_nn w7)
        clear h7 S6 H6
        go_wp2_with fail
        refine S7.out.mono ?_
        rintro e w8 ⟨rfl, h8⟩
        have H8 := qhid (H7.out.trans (h8.mono H7.out.size))
        have S8 := qhid (ssame_xn qv w8)
        clear h8 S7 H7
        go_wp2_with fail
        refine S8.out.mono ?_
        rintro e w9 ⟨rfl, h9⟩
        have H9 := qhid (H8.out.trans (h9.mono H8.out.size))
        have AW := qhid (syn_awake w9 (HT.out w9 H9.out))
        clear h9 S8 H8
        go_wp2_with fail
        refine AW.out.mono ?_
        rintro e w10 ⟨rfl, h10⟩
        have H10 := qhid (H9.out.trans (h10.mono H9.out.size))
        clear h10 AW H9
        go_wp2_with fail
        exact bodyPost_ret (v := .bool true) (by simp [results, Tryd.results4, go_sem]) rfl ⟨rfl, H10.out⟩
end Go.Proofs.YtbddjdcedfnkaaaDoor
