/- Contracts of quote: which bytes are hidden; the word of bytes. -/
import Derived.Test.YtglbhmhkeegpdaaDoorRowU8
import Derived.WalkSpells
import Derived.WalkLawsBesides
import Derived.LoopTactic
import Derived.RegionTactic
import Derived.Deep.RegionHeld3
import Derived.Deep.DrawnRows
import Derived.Deep.AppendLies
namespace Go.Proofs.YtglbhmhkeegpdaaDoor
open Go Go.RowKit
attribute [local go_sem ↓] Go.wp_at_zero Go.wp_at_succ
theorem qhid {p : Prop} (h : p) : Hid p := h
/-- Is a byte told by its digits? -/
def hidd (b : Nat) : Bool := decide (b < 33 ∨ 126 < b)
def digit (n : Nat) : Int := if n < 10 then 48 + n else 87 + n
/-- The word of a byte. -/
def qw (b : Nat) : List Int := if b < 33 ∨ 126 < b then [92, 120, digit (b / 16), digit (b % 16)] else if b = 92 then [92, 92] else [(b : Int)]
def qws (l : List Nat) : List Int := l.flatMap qw
theorem qws_snoc (l : List Nat) (b : Nat) : qws (l ++ [b]) = qws l ++ qw b := by simp [qws]
theorem qw_le (b : Nat) : (qw b).length ≤ 4 := by unfold qw; split; · simp
                                                  split <;> simp
theorem qws_le (l : List Nat) : (qws l).length ≤ 4 * l.length := by
  induction l with
  | nil => simp [qws]
  | cons b l ih =>
    have h : qws (b :: l) = qw b ++ qws l := rfl
    have := qw_le b
    rw [h, List.length_append, List.length_cons]; omega
theorem hidden_yes (b : Nat) (h : b < 33 ∨ 126 < b) (w : World) :
    Calls Tryd.prog 47 #[.int .u8 (b : Int)] w fun e w' => e = .returned (.bool true) ∧ w = w' := by
  by_cases h1 : b < 33
  · go_enter Tryd.func47, Tryd.ntmps47
    go_wp2
    go_ret
    exact ⟨rfl, rfl⟩
  · have h2 : 126 < b := by omega
    have d1 : decide ((b : Int) < 33) = false := by simp; omega
    have d2 : decide ((126 : Int) < (b : Int)) = true := by simp; omega
    go_enter Tryd.func47, Tryd.ntmps47
    go_wp2
    go_ret
    refine ⟨?_, rfl⟩
    simp
theorem hidden_no (b : Nat) (h1 : ¬ b < 33) (h2 : ¬ 126 < b) (w : World) :
    Calls Tryd.prog 47 #[.int .u8 (b : Int)] w fun e w' => e = .returned (.bool false) ∧ w = w' := by
  have d1 : decide ((b : Int) < 33) = false := by simp; omega
  have d2 : decide ((126 : Int) < (b : Int)) = false := by simp; omega
  go_enter Tryd.func47, Tryd.ntmps47
  go_wp2
  go_ret
  refine ⟨?_, rfl⟩
  simp
end Go.Proofs.YtglbhmhkeegpdaaDoor
