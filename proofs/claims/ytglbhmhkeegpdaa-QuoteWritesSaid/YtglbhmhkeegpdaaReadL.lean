/- The laws QuoteWrites and QuoteReads, walked. -/
import Derived.Test.YtglbhmhkeegpdaaReadH
namespace Go.Proofs.Ytglbhmhkeegpdaa
open Go Go.RowKit
attribute [local go_sem ↓] Go.wp_at_zero Go.wp_at_succ
theorem quote_awake (w : World) :
    Calls Try.prog 5 #[] w fun e w' => e = .returned (.bool true) ∧ Below w.heap.size w w' := by
  have HR := read_any ⟨#[97, 92, 120, 50, 48, 92, 92]⟩ (by decide) w
  rw [show wordR (nums ⟨#[97, 92, 120, 50, 48, 92, 92]⟩) = (some [97, 32, 92], 7) from by decide +kernel] at HR
  have HW := fun W => write_all ⟨#[97, 32, 92]⟩ (by decide) W
  rw [show wordS ⟨#[97, 32, 92]⟩ = ⟨#[97, 92, 120, 50, 48, 92, 92]⟩ from by decide +kernel] at HW
  have HR := qhid HR
  have HW := qhid HW
  go_enter Try.func5, Try.ntmps5
  go_wp2_with fail
  refine HR.out.mono ?_
  rintro e w1 ⟨rfl, hb⟩
  rw [show strOfNums (ni [97, 32, 92]) = ⟨#[97, 32, 92]⟩ from rfl]
  have HB := qhid hb
  clear hb
  go_wp2_with fail
  refine (HW.out _).mono ?_
  rintro e w2 ⟨rfl, hb2⟩
  have HB2 := qhid (HB.out.trans (hb2.mono HB.out.size))
  clear hb2
  go_wp2_with fail
  go_ret
  exact ⟨by rfl, HB2.out⟩
theorem writes_walk (s : ByteArray) (w : World) :
    Calls Try.prog 3 #[.string s] w fun e w' => e = .returned (.bool true) ∧ Below w.heap.size w w' := by
  by_cases h5 : (s.size : Int) > 500
  · go_enter Try.func3, Try.ntmps3
    go_wp2_with fail
    refine (quote_awake _).mono ?_
    rintro e w1 ⟨rfl, hb⟩
    have HB := qhid hb
    clear hb
    go_wp2_with fail
    go_ret
    exact ⟨rfl, HB.out⟩
  · have hs : s.size ≤ 500 := by omega
    have hsz := size_wordS s
    obtain ⟨k, hk⟩ := there s
    have HR := fun W => read_any (wordS s) (by omega) W
    rw [hk] at HR
    have HR := qhid HR
    have HW := qhid (fun W => write_all s (by omega) W)
    have HF := qhid (fun W => refwrite_all s (by omega) W)
    have e1 := str_nums s
    have e2 : (nums s).length = s.size := nums_len s
    have E1 := qhid e1
    have E2 := qhid e2
    clear hk e1 e2
    generalize wordS s = t at *
    go_enter Try.func3, Try.ntmps3
    go_wp2_with fail
    refine (HW.out _).mono ?_
    rintro e w1 ⟨rfl, hb⟩
    have HB := qhid hb
    clear hb
    go_wp2_with fail
    refine (HR.out _).mono ?_
    rintro e w2 ⟨rfl, hb⟩
    rw [E1.out, E2.out]
    have HB2 := qhid (HB.out.trans (hb.mono HB.out.size))
    clear hb
    go_wp2_with fail
    refine (HF.out _).mono ?_
    rintro e w3 ⟨rfl, hb⟩
    have HB3 := qhid (HB2.out.trans (hb.mono HB2.out.size))
    clear hb
    go_wp2_with fail
    refine (quote_awake _).mono ?_
    rintro e w4 ⟨rfl, hb⟩
    have HB4 := qhid (HB3.out.trans (hb.mono HB3.out.size))
    clear hb
    go_wp2_with fail
    go_ret
    exact ⟨rfl, HB4.out⟩
theorem reads_walk (s : ByteArray) (w : World) :
    Calls Try.prog 4 #[.string s] w fun e w' => e = .returned (.bool true) ∧ Below w.heap.size w w' := by
  by_cases h5 : (s.size : Int) > 300
  · go_enter Try.func4, Try.ntmps4
    go_wp2_with fail
    refine (quote_awake _).mono ?_
    rintro e w1 ⟨rfl, hb⟩
    have HB := qhid hb
    clear hb
    go_wp2_with fail
    go_ret
    exact ⟨rfl, HB.out⟩
  · have hs : s.size ≤ 300 := by omega
    have HR := fun W => read_any s (by omega) W
    have HF := fun W => refread_all s (by omega) W
    rcases ho : wordR (nums s) with ⟨_ | l, k⟩
    · rw [ho] at HR HF
      have HR := qhid HR
      have HF := qhid HF
      clear ho
      go_enter Try.func4, Try.ntmps4
      go_wp2_with fail
      refine (HR.out _).mono ?_
      rintro e w2 ⟨rfl, hb⟩
      have HB2 := qhid hb
      clear hb
      go_wp2_with fail
      refine (HF.out _).mono ?_
      rintro e w3 ⟨rfl, hb⟩
      have HB3 := qhid (HB2.out.trans (hb.mono HB2.out.size))
      clear hb
      go_wp2_with fail
      refine (quote_awake _).mono ?_
      rintro e w4 ⟨rfl, hb⟩
      have HB4 := qhid (HB3.out.trans (hb.mono HB3.out.size))
      clear hb
      go_wp2_with fail
      go_ret
      exact ⟨rfl, HB4.out⟩
    · rw [ho] at HR HF
      obtain ⟨e1, e2⟩ := back_all ho
      have e3 : (strOfNums (ni l)).size = l.length := by rw [strOfNums_size, ni_len]
      have hll : l.length ≤ 300 := by
        have := congrArg ByteArray.size e1
        by_cases h0 : (strOfNums (ni l)).size = 0
        · omega
        · have h6 := congrArg List.length (nums_wordS h0)
          rw [nums_len, e2] at h6
          have := qnl_long l
          omega
      have HR := qhid HR
      have HF := qhid HF
      have HW := fun W => write_all (strOfNums (ni l)) (by omega) W
      rw [e1] at HW
      have HW := qhid HW
      clear ho e1 e2
      go_enter Try.func4, Try.ntmps4
      go_wp2_with fail
      refine (HR.out _).mono ?_
      rintro e w2 ⟨rfl, hb⟩
      have HB2 := qhid hb
      clear hb
      go_wp2_with fail
      refine (HF.out _).mono ?_
      rintro e w3 ⟨rfl, hb⟩
      have HB3 := qhid (HB2.out.trans (hb.mono HB2.out.size))
      clear hb
      go_wp2_with fail
      refine (HW.out _).mono ?_
      rintro e w3 ⟨rfl, hb⟩
      have HB5 := qhid (HB3.out.trans (hb.mono HB3.out.size))
      clear hb
      go_wp2_with fail
      refine (quote_awake _).mono ?_
      rintro e w4 ⟨rfl, hb⟩
      have HB4 := qhid (HB5.out.trans (hb.mono HB5.out.size))
      clear hb
      go_wp2_with fail
      go_ret
      exact ⟨rfl, HB4.out⟩
end Go.Proofs.Ytglbhmhkeegpdaa
