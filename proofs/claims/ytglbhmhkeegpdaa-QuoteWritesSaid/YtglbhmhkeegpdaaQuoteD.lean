/- Contracts of quote's reference: Write. -/
import Derived.Test.YtglbhmhkeegpdaaQuoteC
namespace Go.Proofs.Ytglbhmhkeegpdaa
open Go Go.RowKit
attribute [local go_sem ↓] Go.wp_at_zero Go.wp_at_succ
theorem refone_any (b : Nat) (h256 : b < 256) (w : World) :
    Calls Try.prog 12 #[.int .i64 (b : Int)] w fun e w' => e = .returned (.string (strOfNums (qw b))) ∧ Below w.heap.size w w' := by
  by_cases h : b < 33 ∨ 126 < b
  · exact refone_hid b h h256 w
  · by_cases h3 : b = 92
    · subst h3
      exact (refone_back w).mono fun e w' ⟨he, hw⟩ => ⟨he, hw ▸ Below.refl _ _⟩
    · exact refone_plain b (fun x => h (.inl x)) (fun x => h (.inr x)) h3 w
theorem str_app (xs ys : List Int) : strOfNums xs ++ strOfNums ys = strOfNums (xs ++ ys) := by
  apply ByteArray.ext
  simp [strOfNums]
set_option maxRecDepth 100000 in
set_option maxHeartbeats 2000000 in
theorem refwrite_any (s : ByteArray) (hn : s.size ≤ 1099511627776) (h0 : s.size ≠ 0) (w : World) :
    Calls Try.prog 8 #[.string s] w fun e w' => e = .returned (.string (strOfNums (qws (nums s)))) ∧ Below w.heap.size w w' := by
  have d0 : ((s.size : Int) == 0) = false := beq_eq_false_iff_ne.2 (by omega)
  go_enter Try.func8, Try.ntmps8
  go_wp2_with fail
  go_loopw [3, 4] (fun r i wr => ∃ k : Nat, k ≤ s.size ∧ i = .int .i64 k ∧ r = .string (strOfNums (qws ((nums s).take k))) ∧ Below w.heap.size w wr) (fun _ i _ => s.size - (intOf i).toNat)
  case atStart => exact ⟨0, by omega, rfl, rfl, Below.refl _ _⟩
  case round =>
    obtain ⟨k, hk, rfl, rfl, hg⟩ := hrel
    have HG := qhid hg
    clear hg
    by_cases hlt : k < s.size
    · have hat := nums_at s k hlt
      have h256 : (s[k]'hlt).toNat < 256 := (s[k]'hlt).toNat_lt
      have hsh := qws_le ((nums s).take k)
      have hsz := strOfNums_size (qws ((nums s).take k))
      have hl : ((nums s).take k).length ≤ k := by rw [List.length_take]; omega
      generalize hbb : (s[k]'hlt).toNat = b at *
      have e2 : strOfNums (qws ((nums s).take k)) ++ strOfNums (qw b) = strOfNums (qws ((nums s).take (k + 1))) := by
        rw [str_app, ← qws_snoc, List.take_add_one, hat]; rfl
      have hq4 := qw_le b
      have hsz2 := strOfNums_size (qw b)
      have E2 := qhid e2
      clear hat e2
      go_wp2_with fail
      refine (refone_any b h256 _).mono ?_
      rintro e w1 ⟨rfl, hb1⟩
      have HB := qhid (HG.out.trans (hb1.mono HG.out.size))
      clear hb1
      go_wp2_with fail
      exact ⟨⟨k + 1, by omega, by go_num, by rw [E2.out], HB.out⟩, by simp [intOf]; omega⟩
    · have e1 : k = s.size := by omega
      subst e1
      have hall : (nums s).take s.size = nums s := by rw [← nums_len]; exact List.take_length
      rw [hall]
      go_wp2
      go_ret
      exact ⟨rfl, HG.out⟩
theorem refwrite_none (s : ByteArray) (h0 : s.size = 0) (w : World) :
    Calls Try.prog 8 #[.string s] w fun e w' => e = .returned (.string ⟨#[92, 101]⟩) ∧ w = w' := by
  go_enter Try.func8, Try.ntmps8
  go_wp2
  go_ret
  exact ⟨rfl, rfl⟩
end Go.Proofs.Ytglbhmhkeegpdaa
