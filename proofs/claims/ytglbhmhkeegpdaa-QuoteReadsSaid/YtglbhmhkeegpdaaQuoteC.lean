/- Contracts of quote's reference: One. -/
import Derived.Test.YtglbhmhkeegpdaaQuoteB
namespace Go.Proofs.Ytglbhmhkeegpdaa
open Go Go.RowKit
attribute [local go_sem ↓] Go.wp_at_zero Go.wp_at_succ
theorem refone_back (w : World) :
    Calls Try.prog 12 #[.int .i64 92] w fun e w' => e = .returned (.string (strOfNums (qw 92))) ∧ w = w' := by
  go_enter Try.func12, Try.ntmps12
  go_wp2
  go_ret
  exact ⟨by rfl, rfl⟩
theorem bytes_new (w : World) (xs : List Int) (c : Nat) (t : TypeId) : BytesAt (w.alloc (.cells (vals xs).toArray t)) (.slice (some ⟨w.heap.size, 0, none⟩) xs.length c) xs := by
  refine .inr ⟨w.heap.size, c, rfl, by simp, fun i hi => ?_⟩
  have hn := news_new w (vals xs).toArray t i (.int .u8 (xs.getD i 0)) (by
    show (vals xs)[i]? = _
    unfold vals
    rw [List.getElem?_map, List.getElem?_eq_getElem hi]
    simp [List.getD_eq_getElem?_getD, hi])
  have e : (⟨w.heap.size, 0, none⟩ : Addr).add i = ⟨w.heap.size, i, none⟩ := by unfold Addr.add; split <;> simp_all
  rw [e] at hn
  exact hn
theorem refone_plain (b : Nat) (h1 : ¬ b < 33) (h2 : ¬ 126 < b) (h3 : b ≠ 92) (w : World) :
    Calls Try.prog 12 #[.int .i64 (b : Int)] w fun e w' => e = .returned (.string (strOfNums (qw b))) ∧ Below w.heap.size w w' := by
  have d92 : ((b : Int) == 92) = false := by simp; omega
  have d1 : decide ((32 : Int) < (b : Int)) = true := by simp; omega
  have d2 : decide ((b : Int) < 127) = true := by simp; omega
  have hw : qw b = [(b : Int)] := by unfold qw; rw [if_neg (by omega), if_neg h3]
  rw [hw]
  have hcv : (convert 30 9 (.slice (some ⟨w.heap.size, 0, none⟩) 1 1)).run Try.prog (w.alloc (.cells #[.int .u8 (b : Int)] 5)) = .ok (.string (strOfNums [(b : Int)])) (w.alloc (.cells #[.int .u8 (b : Int)] 5)) := conv_bytes (bytes_new w [(b : Int)] 1 5)
  have hbl := (Below.refl w.heap.size w).alloc (Nat.le_refl _) (.cells #[.int .u8 (b : Int)] 5)
  have hbl := qhid hbl
  go_enter Try.func12, Try.ntmps12
  go_wp2
  go_ret
  exact ⟨rfl, hbl.out⟩
theorem hex_app (x y : Int) : (⟨#[92, 120]⟩ : ByteArray) ++ strOfNums [x, y] = strOfNums [92, 120, x, y] := by
  rfl
set_option maxRecDepth 100000 in
theorem refone_hid (b : Nat) (h : b < 33 ∨ 126 < b) (h256 : b < 256) (w : World) :
    Calls Try.prog 12 #[.int .i64 (b : Int)] w fun e w' => e = .returned (.string (strOfNums (qw b))) ∧ Below w.heap.size w w' := by
  have d92 : ((b : Int) == 92) = false := by simp; omega
  have hw : qw b = [92, 120, digit (b / 16), digit (b % 16)] := by unfold qw; rw [if_pos h]
  rw [hw]
  have e16 : (b : Int).tdiv 16 = ((b / 16 : Nat) : Int) := rfl
  have e18 : (b : Int) / 16 = ((b / 16 : Nat) : Int) := rfl
  have e19 : (b : Int) % 16 = ((b % 16 : Nat) : Int) := rfl
  have e17 : (b : Int).tmod 16 = ((b % 16 : Nat) : Int) := rfl
  have hp : b / 16 < 16 := by omega
  have hq : b % 16 < 16 := by omega
  generalize b / 16 = p at *
  generalize b % 16 = q at *
  have hcs : (#[.int .u8 (((⟨#[48, 49, 50, 51, 52, 53, 54, 55, 56, 57, 97, 98, 99, 100, 101, 102]⟩ : ByteArray)[p]'hp).toNat : Int), .int .u8 (((⟨#[48, 49, 50, 51, 52, 53, 54, 55, 56, 57, 97, 98, 99, 100, 101, 102]⟩ : ByteArray)[q]'hq).toNat : Int)] : Array Value) = (vals [digit p, digit q]).toArray := by
    have e1 := hexs_at p hp
    have e2 := hexs_at q hq
    show (#[.int .u8 ((hexs[p]'hp).toNat : Int), .int .u8 ((hexs[q]'hq).toNat : Int)] : Array Value) = _
    rw [e1, e2]; rfl
  have hcv : (convert 30 9 (.slice (some ⟨w.heap.size, 0, none⟩) 2 2)).run Try.prog (w.alloc (.cells #[.int .u8 (((⟨#[48, 49, 50, 51, 52, 53, 54, 55, 56, 57, 97, 98, 99, 100, 101, 102]⟩ : ByteArray)[p]'hp).toNat : Int), .int .u8 (((⟨#[48, 49, 50, 51, 52, 53, 54, 55, 56, 57, 97, 98, 99, 100, 101, 102]⟩ : ByteArray)[q]'hq).toNat : Int)] 5)).drew = .ok (.string (strOfNums [digit p, digit q])) (w.alloc (.cells #[.int .u8 (((⟨#[48, 49, 50, 51, 52, 53, 54, 55, 56, 57, 97, 98, 99, 100, 101, 102]⟩ : ByteArray)[p]'hp).toNat : Int), .int .u8 (((⟨#[48, 49, 50, 51, 52, 53, 54, 55, 56, 57, 97, 98, 99, 100, 101, 102]⟩ : ByteArray)[q]'hq).toNat : Int)] 5)).drew := by
    rw [hcs]
    exact conv_bytes ((bytes_new w [digit p, digit q] 2 5).below (Below.refl _ _).drew (Nat.le_refl _))
  have hbl := qhid (((Below.refl w.heap.size w).alloc (Nat.le_refl _) (.cells #[.int .u8 (((⟨#[48, 49, 50, 51, 52, 53, 54, 55, 56, 57, 97, 98, 99, 100, 101, 102]⟩ : ByteArray)[p]'hp).toNat : Int), .int .u8 (((⟨#[48, 49, 50, 51, 52, 53, 54, 55, 56, 57, 97, 98, 99, 100, 101, 102]⟩ : ByteArray)[q]'hq).toNat : Int)] 5)).drew)
  clear hcs
  have hp2 : (p : Int) < 16 := by omega
  have hq2 : (q : Int) < 16 := by omega
  have hp3 : (0 : Int) ≤ (p : Int) := by omega
  have hq3 : (0 : Int) ≤ (q : Int) := by omega
  have hsz : (strOfNums [digit p, digit q]).size = 2 := strOfNums_size _
  have hwp : IntKind.i64.wrap (p : Int) = (p : Int) := by simp [IntKind.wrap, IntKind.signed, IntKind.bits]; omega
  by_cases h1 : b < 33
  · have d1 : decide ((32 : Int) < (b : Int)) = false := by simp; omega
    go_enter Try.func12, Try.ntmps12
    go_wp2_with fail
    go_region
    all_goals
      go_wp2
      go_ret
      exact ⟨congrArg (fun s => Ending.returned (Value.string s)) (hex_app _ _), hbl.out⟩
  · have d1 : decide ((32 : Int) < (b : Int)) = true := by simp; omega
    have d2 : decide ((b : Int) < 127) = false := by simp; omega
    go_enter Try.func12, Try.ntmps12
    go_wp2_with fail
    go_region
    all_goals
      go_wp2
      go_ret
      exact ⟨congrArg (fun s => Ending.returned (Value.string s)) (hex_app _ _), hbl.out⟩
end Go.Proofs.Ytglbhmhkeegpdaa
