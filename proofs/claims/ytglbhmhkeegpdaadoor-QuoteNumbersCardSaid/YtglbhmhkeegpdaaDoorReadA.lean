/- Contracts of quote's reader: where it stands; a byte taken, if it may stand there. -/
import Derived.Test.YtglbhmhkeegpdaaDoorReadM
import Derived.Laws.Externs
import Derived.Deep.QuietTactic
import Derived.BigQuiet
namespace Go.Proofs.YtglbhmhkeegpdaaDoor
open Go Go.RowKit
attribute [local go_sem ↓] Go.wp_at_zero Go.wp_at_succ
/-- Block g is a reader of s that stands at k. -/
structure RdAt (w : World) (g : Nat) (s : ByteArray) (k : Nat) : Prop where
  c0 : w.cell? ⟨g, 0, none⟩ = some (.int .i64 (k : Int))
  c1 : w.cell? ⟨g, 1, none⟩ = some (.string s)
  fz : w.frozen? ⟨g, 0, none⟩ = false
  lt : g < w.heap.size
theorem only_drewN {a w : World} {row : Option Nat} (h : a.grownBy w row) (n : Nat) : a.grownBy (w.drewN n) row := ⟨h.os, h.tape, h.output, h.size, h.block⟩
theorem only_alloc {a w : World} {row : Option Nat} (h : a.grownBy w row) (o : Obj) : a.grownBy (w.alloc o) row :=
  ⟨h.os, h.tape, h.output, Nat.le_trans h.size (by simp), fun i hi hne => (Below.heap_alloc w o i (Nat.lt_of_lt_of_le hi h.size)).trans (h.block i hi hne)⟩
theorem only_setCell {a w : World} {g : Nat} (h : a.grownBy w (some g)) {p : Addr} (hp : p.block = g ∨ a.heap.size ≤ p.block) (u : Value) : a.grownBy (w.setCell p u) (some g) :=
  ⟨h.os, h.tape, h.output, by simpa [World.setCell] using h.size, fun i hi hne => (Below.heap_setCell w p u i (by
    rintro rfl
    rcases hp with hp | hp
    · exact hne (by rw [hp])
    · omega)).trans (h.block i hi hne)⟩
theorem only_refl (a : World) (row : Option Nat) : a.grownBy a row := ⟨rfl, rfl, rfl, Nat.le_refl _, fun _ _ _ => rfl⟩
theorem only_trans {a b c : World} {row : Option Nat} (h : a.grownBy b row) (k : b.grownBy c row) : a.grownBy c row :=
  ⟨k.os.trans h.os, k.tape.trans h.tape, k.output.trans h.output, Nat.le_trans h.size k.size, fun i hi hne => (k.block i (Nat.lt_of_lt_of_le hi h.size) hne).trans (h.block i hi hne)⟩
/-- What a call of the reader's leaves: it stands at k; no other block that was there has turned. -/
def Rd (w w' : World) (g : Nat) (s : ByteArray) (k : Nat) : Prop := RdAt w' g s k ∧ w.grownBy w' (some g)
theorem step_any (g n : Nat) (m : Int) (s : ByteArray) (k : Nat) (hn : (k : Int) + n ≤ 9223372036854775807) (w : World) (h : RdAt w g s k) (hm : m = (n : Int)) :
    Calls Tryd.prog 59 #[.pointer (some ⟨g, 0, none⟩), .int .i64 m] w fun e w' => e = .returned (.tuple #[]) ∧ w' = w.setCell ⟨g, 0, none⟩ (.int .i64 ((k : Int) + (n : Int))) := by
  subst hm
  obtain ⟨c0, c1, fz, lt⟩ := h
  have hw : IntKind.i64.wrap ((k : Int) + (n : Int)) = (k : Int) + (n : Int) := by simp [IntKind.wrap, IntKind.signed, IntKind.bits]; omega
  go_enter Tryd.func59, Tryd.ntmps59
  go_wp2
  go_end0
  exact ⟨rfl, rfl⟩
theorem ended_no (g : Nat) (s : ByteArray) (k : Nat) (w : World) (h : RdAt w g s k) (hk : k ≠ s.size) :
    Calls Tryd.prog 60 #[.pointer (some ⟨g, 0, none⟩)] w fun e w' => e = .returned (.bool false) ∧ ∃ n, w' = w.drewN n := by
  obtain ⟨c0, c1, fz, lt⟩ := h
  have d : ((k : Int) == (s.size : Int)) = false := by simp; omega
  go_enter Tryd.func60, Tryd.ntmps60
  go_wp2_with fail
  go_quiet (fail)
  go_wp2
  go_ret
  exact ⟨rfl, nq, rfl⟩
theorem ended_yes (g : Nat) (s : ByteArray) (w : World) (h : RdAt w g s s.size) :
    Calls Tryd.prog 60 #[.pointer (some ⟨g, 0, none⟩)] w fun e w' => e = .returned (.bool true) ∧ ∃ n, w' = w.drewN n := by
  obtain ⟨c0, c1, fz, lt⟩ := h
  go_enter Tryd.func60, Tryd.ntmps60
  go_wp2_with fail
  go_quiet (fail)
  go_wp2
  go_ret
  exact ⟨by simp, nq, rfl⟩
theorem only_rd {w : World} {g : Nat} {s : ByteArray} {k : Nat} (h : RdAt w g s k) (n : Nat) : RdAt (w.drewN n) g s k := ⟨h.c0, h.c1, h.fz, h.lt⟩
def Fun (F : Nat) (caps : Array Value) : Value := .func (.func F) #[] caps
set_option maxHeartbeats 1000000 in
theorem take_no (g : Nat) (s : ByteArray) (k b F : Nat) (caps : Array Value) (w : World) (h : RdAt w g s k) (hk : k < s.size) (hb : (s[k]'hk).toNat = b)
    (hcf : ∀ args W, (callFunc F args).run Tryd.prog W = .ok (.enter F args) W)
    (hF : ∀ n, Calls Tryd.prog F (#[.int .u8 (b : Int)] ++ caps) (w.drewN n) fun e w' => e = .returned (.bool false) ∧ w' = w.drewN n) :
    Calls Tryd.prog 74 #[.pointer (some ⟨g, 0, none⟩), .func (.func F) #[] caps] w fun e w' => e = .returned (.tuple #[.int .u8 0, .bool false]) ∧ ∃ n, w' = w.drewN n := by
  have HE := qhid (fun n => ended_no g s k (w.drewN n) (only_rd h n) (by omega))
  have HF := qhid hF
  clear hF
  obtain ⟨c0, c1, fz, lt⟩ := h
  go_enter Tryd.func74, Tryd.ntmps74
  go_wp2_with fail
  go_quiet (first | (go_at_call 60; exact Calls.quiet_of (HE.out _)) | exact Calls.quiet_of_same (HF.out _))
  go_wp2
  go_ret2
  exact ⟨rfl, nq, rfl⟩
theorem take_end (g : Nat) (s : ByteArray) (w : World) (h : RdAt w g s s.size) (f : Value) :
    Calls Tryd.prog 74 #[.pointer (some ⟨g, 0, none⟩), f] w fun e w' => e = .returned (.tuple #[.int .u8 0, .bool false]) ∧ ∃ n, w' = w.drewN n := by
  have HE := qhid (fun n => ended_yes g s (w.drewN n) (only_rd h n))
  obtain ⟨c0, c1, fz, lt⟩ := h
  go_enter Tryd.func74, Tryd.ntmps74
  go_wp2_with fail
  go_quiet ((go_at_call 60; exact Calls.quiet_of (HE.out _)))
  go_wp2
  go_ret2
  exact ⟨rfl, nq, rfl⟩
set_option maxHeartbeats 1000000 in
theorem take_yes (g : Nat) (s : ByteArray) (k b F : Nat) (caps : Array Value) (w : World) (h : RdAt w g s k) (hk : k < s.size) (hb : (s[k]'hk).toNat = b) (hs : s.size ≤ 1099511627776)
    (hcf : ∀ args W, (callFunc F args).run Tryd.prog W = .ok (.enter F args) W)
    (hF : ∀ n, Calls Tryd.prog F (#[.int .u8 (b : Int)] ++ caps) (w.drewN n) fun e w' => e = .returned (.bool true) ∧ w' = w.drewN n) :
    Calls Tryd.prog 74 #[.pointer (some ⟨g, 0, none⟩), .func (.func F) #[] caps] w fun e w' => e = .returned (.tuple #[.int .u8 (b : Int), .bool true]) ∧ ∃ n, w' = (w.drewN n).setCell ⟨g, 0, none⟩ (.int .i64 ((k : Int) + (1 : Nat))) := by
  have HE := qhid (fun n => ended_no g s k (w.drewN n) (only_rd h n) (by omega))
  have HF := qhid hF
  have HS := qhid (fun n => step_any g 1 1 s k (by omega) (w.drewN n) (only_rd h n) rfl)
  clear hF
  obtain ⟨c0, c1, fz, lt⟩ := h
  have HB := qhid hb
  clear hb
  go_enter Tryd.func74, Tryd.ntmps74
  go_wp2_with fail
  go_quiet (first | (go_at_call 60; exact Calls.quiet_of (HE.out _)) | (rw [HB.out]; exact Calls.quiet_of_same (HF.out _)))
  go_wp2_with fail
  go_quiet (fail)
  go_wp2_with fail
  refine (HS.out _).mono ?_
  rintro e w1 ⟨rfl, hw1⟩
  have HW := qhid hw1
  clear hw1
  go_wp2
  go_ret2
  refine ⟨?_, _, HW.out⟩
  rw [HB.out]
  rfl
theorem Rd.of {w w' : World} {g : Nat} {s : ByteArray} {k j : Nat} (h : RdAt w g s k) (n : Nat) (e : w' = (w.drewN n).setCell ⟨g, 0, none⟩ (.int .i64 ((k : Int) + (j : Nat)))) : Rd w w' g s (k + j) := by
  subst e
  have hlt := h.lt
  refine ⟨⟨?_, ?_, ?_, ?_⟩, only_setCell (only_drewN (only_refl _ _) n) (.inl rfl) _⟩
  · rw [World.cell?_setCell_same _ _ _ (only_rd h n).c0, Int.natCast_add]
  · rw [World.cell?_setCell_other _ _ _ _ (by simp)]; exact (only_rd h n).c1
  · rw [World.frozen?_setCell]; exact (only_rd h n).fz
  · simpa [World.setCell] using hlt
end Go.Proofs.YtglbhmhkeegpdaaDoor
