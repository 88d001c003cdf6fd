/- The law QuoteNumbers, walked. -/
import Derived.Test.YtglbhmhkeegpdaaDoorNumA
import Derived.Test.YtglbhmhkeegpdaaDoorReadL
namespace Go.Proofs.YtglbhmhkeegpdaaDoor
open Go Go.RowKit
attribute [local go_sem ↓] Go.wp_at_zero Go.wp_at_succ
/-- A byte of a text. -/
theorem at_byte (s : ByteArray) (k : Nat) (h : k < s.size) : s.data.toList[k]? = some (s[k]'h) := by
  rw [Array.getElem?_toList]
  exact Array.getElem?_eq_getElem h
theorem ok_at (s : ByteArray) (k : Nat) (h : k < s.size) : okAt s.data.toList k = (isDig (s[k]'h) || (decide (k = 0) && decide ((s[k]'h).toNat = 45) && decide (1 < s.size))) := by
  unfold okAt
  rw [at_byte s k h]
  have e : s.data.toList.length = s.size := by rw [Array.length_toList]; rfl
  rw [e]
def digS (s : ByteArray) (k : Nat) : Bool := digsTo s.data.toList k
theorem digS_next (s : ByteArray) (k : Nat) (h : k < s.size) : digS s (k + 1) = (digS s k && (isDig (s[k]'h) || (decide (k = 0) && decide ((s[k]'h).toNat = 45) && decide (1 < s.size)))) := by
  show (digsTo _ k && okAt _ k) = _
  rw [ok_at s k h]; rfl
theorem digS_byte (s : ByteArray) (k : Nat) (h : k < s.size) : digS s (k + 1) = (digS s k && (decide (48 ≤ (s[k]'h).toNat ∧ (s[k]'h).toNat ≤ 57) || (decide (k = 0) && decide ((s[k]'h).toNat = 45) && decide (1 < s.size)))) := digS_next s k h
theorem digS_pos {s : ByteArray} (h : digS s s.size = true) : 0 < s.size := by
  by_cases h0 : s.size = 0
  · rw [h0] at h
    have h' : decide (0 < s.data.toList.length) = true := h
    rw [decide_eq_true_iff, Array.length_toList] at h'
    exact h'
  · omega
set_option maxRecDepth 100000 in
set_option maxHeartbeats 8000000 in
theorem numbers_walk (n : Int) (s : ByteArray) (w : World) (h0 : -9223372036854775808 ≤ n) (h1 : n ≤ 9223372036854775807) (hv : NumVars w) :
    Calls Tryd.prog 3 #[.int .i64 n, .string s] w fun e w' => e = .returned (.bool true) ∧ Below w.heap.size w w' := by
  by_cases h5 : (s.size : Int) > 100
  · clear h0 h1
    go_enter Tryd.func3, Tryd.ntmps3
    go_wp2_with fail
    refine (quote_awake _).mono ?_
    rintro e w1 ⟨rfl, hb⟩
    have HB := qhid hb
    clear hb
    go_wp2_with fail
    go_ret
    exact ⟨rfl, HB.out⟩
  · have hs : s.size ≤ 100 := by omega
    have HN := qhid (fun W hv => number_any n h0 h1 W hv)
    have HF := qhid (fun W => refnum_any n h0 h1 W)
    have hl := Lib.itoa_length_le n h0 h1
    have HP := fun W hv => parse_any (numS n) (by
      show (Lib.itoa n).toArray.size ≤ _
      rw [List.size_toArray]; omega) W hv
    rw [show (numS n).data.toList = Lib.itoa n from rfl, parse_itoa n h0 h1] at HP
    have HP := qhid HP
    have HQ := fun W hv => parse_any s (by omega) W hv
    have HR : Hid (∀ v, parseF s.data.toList = some v → -9223372036854775808 ≤ v ∧ v ≤ 9223372036854775807 ∧ numS v = s ∧ digS s s.size = true) := qhid (fun v hv => by
      obtain ⟨p1, p2⟩ := parse_some hv
      obtain ⟨b0, b1⟩ := Lib.atoiAll_bounds p1
      refine ⟨b0, b1, numS_eq.2 p2, ?_⟩
      have := digs_of hv
      rw [show s.data.toList.length = s.size from by rw [Array.length_toList]; rfl] at this
      exact this)
    have HT : Hid (digS s s.size = true → s.size < 18 → ∀ (h : 0 < s.size), 49 ≤ (s[0]'h).toNat → ∃ v, parseF s.data.toList = some v) := qhid (fun hd hl h hb => by
      have e : s.data.toList.length = s.size := by rw [Array.length_toList]; rfl
      have hne : s.data.toList ≠ [] := fun x => by rw [x] at e; simp at e; omega
      refine digs_tell (by rw [e]; exact hd) (by omega) hne ?_
      have h2 : s.data.toList.head hne = s[0]'h := by
        have := at_byte s 0 h
        rw [List.head_eq_getElem]
        rw [List.getElem?_eq_getElem (by omega)] at this
        exact Option.some.inj this
      rw [h2]; exact hb)
    have HV := qhid hv
    have hnn : (n == n) = true := beq_self_eq_true n
    generalize numS n = t at *
    clear h0 h1 hl hv
    have DIG0 : Hid (digS s 0 = decide (0 < s.size)) := qhid (by unfold digS digsTo; rw [Array.length_toList]; rfl)
    rcases hp : parseF s.data.toList with _ | v
    · rw [hp] at HQ
      have HQ := qhid HQ
      have HPN := qhid hp
      clear hp
      go_enter Tryd.func3, Tryd.ntmps3
      go_wp2_with fail
      refine (HN.out _ HV.out).mono ?_
      rintro e w1 ⟨rfl, hb⟩
      have HB1 := qhid hb
      clear hb
      go_wp2_with fail
      refine (HP.out _ (HV.out.below HB1.out)).mono ?_
      rintro e w2 ⟨rfl, hb⟩
      have HB2 := qhid (HB1.out.trans (hb.mono HB1.out.size))
      clear hb
      go_wp2_with fail
      refine (HQ.out _ (HV.out.below HB2.out)).mono ?_
      rintro e w3 ⟨rfl, hb⟩
      have HB3 := qhid (HB2.out.trans (hb.mono HB2.out.size))
      clear hb
      go_wp2_with fail
      go_loopw [10, 11] (fun d i wr => ∃ k : Nat, k ≤ s.size ∧ i = .int .i64 k ∧ d = .bool (digS s k) ∧ Below w.heap.size w wr) (fun _ i _ => s.size - (intOf i).toNat)
      case atStart => exact ⟨0, by omega, rfl, by rw [DIG0.out], HB3.out⟩
      case round =>
        obtain ⟨k, hk, rfl, rfl, hbe⟩ := hrel
        have HBE := qhid hbe
        clear hbe
        by_cases hlt : k < s.size
        · have hnx := digS_byte s k hlt
          generalize hbb : (s[k]'hlt).toNat = b at *
          cases hd : digS s k with
          | false =>
            have HNX : Hid (digS s (k + 1) = false) := qhid (by rw [hnx, hd]; rfl)
            clear hnx hd
            go_wp2_with fail
            exact ⟨⟨k + 1, by omega, by go_num, by rw [HNX.out], HBE.out⟩, by simp [intOf]; omega⟩
          | true =>
            rw [hd] at hnx
            by_cases c1 : 48 ≤ b
            · have e1 : decide ((48 : Int) ≤ (b : Int)) = true := by rw [decide_eq_true_iff]; omega
              by_cases c2 : b ≤ 57
              · have e2 : decide ((b : Int) ≤ 57) = true := by rw [decide_eq_true_iff]; omega
                have HNX : Hid (digS s (k + 1) = true) := qhid (by rw [hnx]; simp [c1, c2])
                clear hnx hd
                go_wp2_with fail
                exact ⟨⟨k + 1, by omega, by go_num, by rw [HNX.out], HBE.out⟩, by simp [intOf]; omega⟩
              · have e2 : decide ((b : Int) ≤ 57) = false := by rw [decide_eq_false_iff_not]; omega
                have e3 : ((b : Int) == 45) = false := beq_eq_false_iff_ne.2 (by omega)
                have HNX : Hid (digS s (k + 1) = false) := qhid (by
                  rw [hnx]
                  have : ¬ b = 45 := by omega
                  simp [c2, this])
                clear hnx hd
                by_cases c3 : k = 0
                · subst c3
                  go_wp2_with fail
                  exact ⟨⟨0 + 1, by omega, by go_num, by rw [HNX.out], HBE.out⟩, by simp [intOf]; omega⟩
                · have e4 : ((k : Int) == 0) = false := beq_eq_false_iff_ne.2 (by omega)
                  go_wp2_with fail
                  exact ⟨⟨k + 1, by omega, by go_num, by rw [HNX.out], HBE.out⟩, by simp [intOf]; omega⟩
            · have e1 : decide ((48 : Int) ≤ (b : Int)) = false := by rw [decide_eq_false_iff_not]; omega
              by_cases c3 : k = 0
              · subst c3
                by_cases c4 : b = 45
                · subst c4
                  by_cases c5 : 1 < s.size
                  · have e5 : decide ((1 : Int) < (s.size : Int)) = true := by rw [decide_eq_true_iff]; omega
                    have HNX : Hid (digS s (0 + 1) = true) := qhid (by rw [hnx]; simp [c5])
                    clear hnx hd
                    go_wp2_with fail
                    exact ⟨⟨0 + 1, by omega, by go_num, by rw [HNX.out], HBE.out⟩, by simp [intOf]; omega⟩
                  · have e5 : decide ((1 : Int) < (s.size : Int)) = false := by rw [decide_eq_false_iff_not]; omega
                    have HNX : Hid (digS s (0 + 1) = false) := qhid (by rw [hnx]; simp; omega)
                    clear hnx hd
                    go_wp2_with fail
                    exact ⟨⟨0 + 1, by omega, by go_num, by rw [HNX.out], HBE.out⟩, by simp [intOf]; omega⟩
                · have e3 : ((b : Int) == 45) = false := beq_eq_false_iff_ne.2 (by omega)
                  have HNX : Hid (digS s (0 + 1) = false) := qhid (by rw [hnx]; simp [c4, c1])
                  clear hnx hd
                  go_wp2_with fail
                  exact ⟨⟨0 + 1, by omega, by go_num, by rw [HNX.out], HBE.out⟩, by simp [intOf]; omega⟩
              · have e4 : ((k : Int) == 0) = false := beq_eq_false_iff_ne.2 (by omega)
                have HNX : Hid (digS s (k + 1) = false) := qhid (by rw [hnx]; simp [c1, c3])
                clear hnx hd
                go_wp2_with fail
                exact ⟨⟨k + 1, by omega, by go_num, by rw [HNX.out], HBE.out⟩, by simp [intOf]; omega⟩
        · have hks : k = s.size := by omega
          subst hks
          have HNo : Hid (¬ (digS s s.size = true ∧ s.size < 18 ∧ ∃ (h : 0 < s.size), 49 ≤ (s[0]'h).toNat)) := qhid (fun ⟨a1, a2, a3, a4⟩ => by
            obtain ⟨v, hv⟩ := HT.out a1 a2 a3 a4
            rw [HPN.out] at hv; cases hv)
          cases hd : digS s s.size with
          | false =>
            go_wp2_with fail
            refine (HF.out _).mono ?_
            rintro e w4 ⟨rfl, hb⟩
            have HB4 := qhid (HBE.out.trans (hb.mono HBE.out.size))
            clear hb
            go_wp2_with fail
            refine (quote_awake _).mono ?_
            rintro e w5 ⟨rfl, hb⟩
            have HB5 := qhid (HB4.out.trans (hb.mono HB4.out.size))
            clear hb
            go_wp2_with fail
            go_ret
            exact ⟨rfl, HB5.out⟩
          | true =>
            have hpos : 0 < s.size := digS_pos hd
            by_cases c1 : s.size < 18
            · have e1 : decide ((s.size : Int) < 18) = true := by rw [decide_eq_true_iff]; omega
              have hb0 : ¬ 49 ≤ (s[0]'hpos).toNat := fun h => HNo.out ⟨hd, c1, hpos, h⟩
              have e2 : decide ((49 : Int) ≤ ((s[0]'hpos).toNat : Int)) = false := by rw [decide_eq_false_iff_not]; omega
              clear hd
              go_wp2_with fail
              refine (HF.out _).mono ?_
              rintro e w4 ⟨rfl, hb⟩
              have HB4 := qhid (HBE.out.trans (hb.mono HBE.out.size))
              clear hb
              go_wp2_with fail
              refine (quote_awake _).mono ?_
              rintro e w5 ⟨rfl, hb⟩
              have HB5 := qhid (HB4.out.trans (hb.mono HB4.out.size))
              clear hb
              go_wp2_with fail
              go_ret
              exact ⟨rfl, HB5.out⟩
            · have e1 : decide ((s.size : Int) < 18) = false := by rw [decide_eq_false_iff_not]; omega
              clear hd
              go_wp2_with fail
              refine (HF.out _).mono ?_
              rintro e w4 ⟨rfl, hb⟩
              have HB4 := qhid (HBE.out.trans (hb.mono HBE.out.size))
              clear hb
              go_wp2_with fail
              refine (quote_awake _).mono ?_
              rintro e w5 ⟨rfl, hb⟩
              have HB5 := qhid (HB4.out.trans (hb.mono HB4.out.size))
              clear hb
              go_wp2_with fail
              go_ret
              exact ⟨rfl, HB5.out⟩
    · rw [hp] at HQ
      have HQ := qhid HQ
      obtain ⟨b0, b1, hvs, hds⟩ := HR.out v hp
      have HNV := fun W hv => number_any v b0 b1 W hv
      rw [hvs] at HNV
      have HNV := qhid HNV
      have HDS := qhid hds
      clear hp b0 b1 hvs hds
      go_enter Tryd.func3, Tryd.ntmps3
      go_wp2_with fail
      refine (HN.out _ HV.out).mono ?_
      rintro e w1 ⟨rfl, hb⟩
      have HB1 := qhid hb
      clear hb
      go_wp2_with fail
      refine (HP.out _ (HV.out.below HB1.out)).mono ?_
      rintro e w2 ⟨rfl, hb⟩
      have HB2 := qhid (HB1.out.trans (hb.mono HB1.out.size))
      clear hb
      go_wp2_with fail
      refine (HQ.out _ (HV.out.below HB2.out)).mono ?_
      rintro e w3' ⟨rfl, hb⟩
      have HB3' := qhid (HB2.out.trans (hb.mono HB2.out.size))
      clear hb
      go_wp2_with fail
      refine (HNV.out _ (HV.out.below HB3'.out)).mono ?_
      rintro e w3 ⟨rfl, hb⟩
      have HB3 := qhid (HB3'.out.trans (hb.mono HB3'.out.size))
      clear hb
      go_wp2_with fail
      go_loopw [10, 11] (fun d i wr => ∃ k : Nat, k ≤ s.size ∧ i = .int .i64 k ∧ d = .bool (digS s k) ∧ Below w.heap.size w wr) (fun _ i _ => s.size - (intOf i).toNat)
      case atStart => exact ⟨0, by omega, rfl, by rw [DIG0.out], HB3.out⟩
      case round =>
        obtain ⟨k, hk, rfl, rfl, hbe⟩ := hrel
        have HBE := qhid hbe
        clear hbe
        by_cases hlt : k < s.size
        · have hnx := digS_byte s k hlt
          generalize hbb : (s[k]'hlt).toNat = b at *
          cases hd : digS s k with
          | false =>
            have HNX : Hid (digS s (k + 1) = false) := qhid (by rw [hnx, hd]; rfl)
            clear hnx hd
            go_wp2_with fail
            exact ⟨⟨k + 1, by omega, by go_num, by rw [HNX.out], HBE.out⟩, by simp [intOf]; omega⟩
          | true =>
            rw [hd] at hnx
            by_cases c1 : 48 ≤ b
            · have e1 : decide ((48 : Int) ≤ (b : Int)) = true := by rw [decide_eq_true_iff]; omega
              by_cases c2 : b ≤ 57
              · have e2 : decide ((b : Int) ≤ 57) = true := by rw [decide_eq_true_iff]; omega
                have HNX : Hid (digS s (k + 1) = true) := qhid (by rw [hnx]; simp [c1, c2])
                clear hnx hd
                go_wp2_with fail
                exact ⟨⟨k + 1, by omega, by go_num, by rw [HNX.out], HBE.out⟩, by simp [intOf]; omega⟩
              · have e2 : decide ((b : Int) ≤ 57) = false := by rw [decide_eq_false_iff_not]; omega
                have e3 : ((b : Int) == 45) = false := beq_eq_false_iff_ne.2 (by omega)
                have HNX : Hid (digS s (k + 1) = false) := qhid (by
                  rw [hnx]
                  have : ¬ b = 45 := by omega
                  simp [c2, this])
                clear hnx hd
                by_cases c3 : k = 0
                · subst c3
                  go_wp2_with fail
                  exact ⟨⟨0 + 1, by omega, by go_num, by rw [HNX.out], HBE.out⟩, by simp [intOf]; omega⟩
                · have e4 : ((k : Int) == 0) = false := beq_eq_false_iff_ne.2 (by omega)
                  go_wp2_with fail
                  exact ⟨⟨k + 1, by omega, by go_num, by rw [HNX.out], HBE.out⟩, by simp [intOf]; omega⟩
            · have e1 : decide ((48 : Int) ≤ (b : Int)) = false := by rw [decide_eq_false_iff_not]; omega
              by_cases c3 : k = 0
              · subst c3
                by_cases c4 : b = 45
                · subst c4
                  by_cases c5 : 1 < s.size
                  · have e5 : decide ((1 : Int) < (s.size : Int)) = true := by rw [decide_eq_true_iff]; omega
                    have HNX : Hid (digS s (0 + 1) = true) := qhid (by rw [hnx]; simp [c5])
                    clear hnx hd
                    go_wp2_with fail
                    exact ⟨⟨0 + 1, by omega, by go_num, by rw [HNX.out], HBE.out⟩, by simp [intOf]; omega⟩
                  · have e5 : decide ((1 : Int) < (s.size : Int)) = false := by rw [decide_eq_false_iff_not]; omega
                    have HNX : Hid (digS s (0 + 1) = false) := qhid (by rw [hnx]; simp; omega)
                    clear hnx hd
                    go_wp2_with fail
                    exact ⟨⟨0 + 1, by omega, by go_num, by rw [HNX.out], HBE.out⟩, by simp [intOf]; omega⟩
                · have e3 : ((b : Int) == 45) = false := beq_eq_false_iff_ne.2 (by omega)
                  have HNX : Hid (digS s (0 + 1) = false) := qhid (by rw [hnx]; simp [c4, c1])
                  clear hnx hd
                  go_wp2_with fail
                  exact ⟨⟨0 + 1, by omega, by go_num, by rw [HNX.out], HBE.out⟩, by simp [intOf]; omega⟩
              · have e4 : ((k : Int) == 0) = false := beq_eq_false_iff_ne.2 (by omega)
                have HNX : Hid (digS s (k + 1) = false) := qhid (by rw [hnx]; simp [c1, c3])
                clear hnx hd
                go_wp2_with fail
                exact ⟨⟨k + 1, by omega, by go_num, by rw [HNX.out], HBE.out⟩, by simp [intOf]; omega⟩
        · have hks : k = s.size := by omega
          subst hks
          rw [HDS.out]
          have hpos : 0 < s.size := digS_pos HDS.out
          by_cases c1 : s.size < 18
          · have e1 : decide ((s.size : Int) < 18) = true := by rw [decide_eq_true_iff]; omega
            by_cases c2 : 49 ≤ (s[0]'hpos).toNat
            · have e2 : decide ((49 : Int) ≤ ((s[0]'hpos).toNat : Int)) = true := by rw [decide_eq_true_iff]; omega
              go_wp2_with fail
              refine (HF.out _).mono ?_
              rintro e w4 ⟨rfl, hb⟩
              have HB4 := qhid (HBE.out.trans (hb.mono HBE.out.size))
              clear hb
              go_wp2_with fail
              refine (quote_awake _).mono ?_
              rintro e w5 ⟨rfl, hb⟩
              have HB5 := qhid (HB4.out.trans (hb.mono HB4.out.size))
              clear hb
              go_wp2_with fail
              go_ret
              exact ⟨rfl, HB5.out⟩
            · have e2 : decide ((49 : Int) ≤ ((s[0]'hpos).toNat : Int)) = false := by rw [decide_eq_false_iff_not]; omega
              go_wp2_with fail
              refine (HF.out _).mono ?_
              rintro e w4 ⟨rfl, hb⟩
              have HB4 := qhid (HBE.out.trans (hb.mono HBE.out.size))
              clear hb
              go_wp2_with fail
              refine (quote_awake _).mono ?_
              rintro e w5 ⟨rfl, hb⟩
              have HB5 := qhid (HB4.out.trans (hb.mono HB4.out.size))
              clear hb
              go_wp2_with fail
              go_ret
              exact ⟨rfl, HB5.out⟩
          · have e1 : decide ((s.size : Int) < 18) = false := by rw [decide_eq_false_iff_not]; omega
            go_wp2_with fail
            refine (HF.out _).mono ?_
            rintro e w4 ⟨rfl, hb⟩
            have HB4 := qhid (HBE.out.trans (hb.mono HBE.out.size))
            clear hb
            go_wp2_with fail
            refine (quote_awake _).mono ?_
            rintro e w5 ⟨rfl, hb⟩
            have HB5 := qhid (HB4.out.trans (hb.mono HB4.out.size))
            clear hb
            go_wp2_with fail
            go_ret
            exact ⟨rfl, HB5.out⟩
end Go.Proofs.YtglbhmhkeegpdaaDoor
