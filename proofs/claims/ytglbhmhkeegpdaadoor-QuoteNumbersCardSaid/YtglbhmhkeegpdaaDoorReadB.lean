/- Contracts of quote's reader: which bytes may stand where; a digit. -/
import Derived.Test.YtglbhmhkeegpdaaDoorReadA
namespace Go.Proofs.YtglbhmhkeegpdaaDoor
open Go Go.RowKit
attribute [local go_sem ↓] Go.wp_at_zero Go.wp_at_succ
theorem cf_shown (args : Array Value) (W : World) : (callFunc 75 args).run Tryd.prog W = .ok (.enter 75 args) W := by
  simp [callFunc, Tryd.func75, mark, Sem.run]; rfl
theorem hidden_any (b : Nat) (w : World) :
    Calls Tryd.prog 47 #[.int .u8 (b : Int)] w fun e w' => e = .returned (.bool (hidd b)) ∧ w = w' := by
  by_cases h : b < 33 ∨ 126 < b
  · rw [(hidd_iff b).2 h]; exact hidden_yes b h w
  · have e : hidd b = false := by rw [← Bool.not_eq_true, hidd_iff]; exact h
    rw [e]; exact hidden_no b (fun x => h (.inl x)) (fun x => h (.inr x)) w
theorem shown_any (b : Nat) (w : World) :
    Calls Tryd.prog 75 #[.int .u8 (b : Int)] w fun e w' => e = .returned (.bool (shownB b)) ∧ w' = w := by
  go_enter Tryd.func75, Tryd.ntmps75
  go_wp2_with fail
  refine (hidden_any b _).mono ?_
  rintro e w1 ⟨rfl, rfl⟩
  go_wp2_with fail
  go_ret
  exact ⟨rfl, rfl⟩
theorem escape_any (b : Nat) (w : World) :
    Calls Tryd.prog 76 #[.int .u8 (b : Int)] w fun e w' => e = .returned (.bool (escB b)) ∧ w' = w := by
  by_cases h1 : b = 92
  · subst h1
    go_enter Tryd.func76, Tryd.ntmps76
    go_wp2
    go_ret
    exact ⟨rfl, rfl⟩
  · by_cases h2 : b = 120
    · subst h2
      go_enter Tryd.func76, Tryd.ntmps76
      go_wp2
      go_ret
      exact ⟨rfl, rfl⟩
    · have d1 : ((b : Int) == 92) = false := by simp; omega
      have d2 : ((b : Int) == 120) = false := by simp; omega
      have e : escB b = false := by unfold escB; simp; omega
      rw [e]
      go_enter Tryd.func76, Tryd.ntmps76
      go_wp2
      go_ret
      exact ⟨rfl, rfl⟩
def hxI (b : Nat) : Int := match hx b with
  | some v => v
  | none => -1
theorem first_hex (b : Nat) (h : b < 256) : firstIdx hexs (b : Int).toNat.toUInt8 = hxI b := by
  have hall : ∀ n : Fin 256, firstIdx hexs ((n.val : Nat) : Int).toNat.toUInt8 = hxI n.val := by decide +kernel
  exact hall ⟨b, h⟩
theorem idx_run (args : Array Value) (w : World) : (callFunc 109 args).run Tryd.prog w = ((Extern.BytealgIndexByte.indexByte args).run Tryd.prog w).andThen fun v w' => .ok (.value v) w' :=
  run_callFunc_extern Tryd.func109 (by kernel_rfl) (by kernel_rfl) (by kernel_rfl) (by rfl) args w
theorem idx_any (b : Nat) (hb : b < 256) (w : World) :
    Calls Tryd.prog 107 #[.string hexs, .int .u8 (b : Int)] w fun e w' => e = .returned (.int .i64 (hxI b)) ∧ w' = w := by
  have hx : ∀ W, (callFunc 109 #[.string hexs, .int .u8 (b : Int)]).run Tryd.prog W = .ok (.value (.int .i64 (hxI b))) W := fun W => by
    rw [idx_run, run_indexByte_string, first_hex b hb]; rfl
  go_enter Tryd.func107, Tryd.ntmps107
  go_wp2
  go_ret
  exact ⟨rfl, rfl⟩
end Go.Proofs.YtglbhmhkeegpdaaDoor
