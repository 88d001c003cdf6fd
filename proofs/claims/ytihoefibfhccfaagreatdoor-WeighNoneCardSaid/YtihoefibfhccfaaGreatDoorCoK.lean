/- Maps keyed by cores' pointers, nil among them. core.tally: its memory, its function enter. core.tally: why it tells the number that is made node by node. core.tally told. core.Size told. core's frames, told: frameOf, long; how long a core's text is. How long a core's text is: Text's tally. strings.Builder: its methods, at a builder in a block of its own. strings.Builder's WriteString, and what it leaves as it was. core.tell: its stack of pieces. core.tell told. core.Text told. core: Same and Sets of nil. The document's example of layer 8. The statement CoreNone, walked. -/
import Derived.Test.YtihoefibfhccfaaGreatDoorCoQ
import Derived.Maps.AppendAt
import Derived.Test.YtihoefibfhccfaaGreatDoorRegion
import Derived.Lib.MakeNoZero
namespace Go.Proofs.YtihoefibfhccfaaGreatDoor
section
section
open Go Go.RowKit
attribute [local go_sem ↓] Go.wp_at_zero Go.wp_at_succ
attribute [local go_sem] eq4
/-- A core's pointer. -/
abbrev kPtr (q : Option Nat) : Value := .pointer (q.map fun a => ⟨a, 0, none⟩)
/-- nil, or a block of cells. -/
def IsK (w : World) (q : Option Nat) : Prop := ∀ a, q = some a → ∃ c t, w.heap[a]? = some (.cells c t (0, 0))
theorem keq_ptr (q q' : Option Nat) (w : World) (h : IsK w q) (h' : IsK w q') : (Op.equal 26 (kPtr q) (kPtr q')).run Tryz.prog w = .ok (q == q') w := by
  have u3 := Tryz.underlying26
  unfold Op.equal
  rw [show Op.maxDepth = 9999 + 1 from rfl, Op.equalIn]
  simp only [Sem.run_bind, run_underlying Tryz.underlying26, Result.andThen_ok]
  have z3 := Tryz.sizeOf73
  cases q with
  | none =>
    cases q' with
    | none =>
      show Sem.run _ _ _ = _
      simp only [kPtr, Option.map_none]
      go_simp
    | some b =>
      simp only [kPtr, Option.map_none, Option.map_some]
      go_simp
  | some a =>
    cases q' with
    | none =>
      simp only [kPtr, Option.map_none, Option.map_some]
      go_simp
    | some b =>
      simp only [kPtr, Option.map_some]
      go_simp
      by_cases hq : a = b
      · subst hq
        rw [run_sameAddr_same]; simp
      · obtain ⟨c, t, hc⟩ := h a rfl
        obtain ⟨c', t', hc'⟩ := h' b rfl
        rw [run_sameAddr_other w (fun e => hq (congrArg Addr.block e)) hc hc']
        simp [hq]
theorem kcheckKey_ptr (q : Option Nat) (e : Bool) (w : World) : (Instr.checkKey e 10000 26 (kPtr q)).run Tryz.prog w = .ok () w := by
  rw [show (10000 : Nat) = 9999 + 1 from rfl]
  unfold Instr.checkKey
  simp only [Sem.run_bind, run_underlying Tryz.underlying26, Result.andThen]
  rfl
end
end
end Go.Proofs.YtihoefibfhccfaaGreatDoor
namespace Go.Proofs.YtihoefibfhccfaaGreatDoor
section
section
open Go Go.RowKit
attribute [local go_sem ↓] Go.wp_at_zero Go.wp_at_succ
attribute [local go_sem] eq4
end
end
end Go.Proofs.YtihoefibfhccfaaGreatDoor
namespace Go.Proofs.YtihoefibfhccfaaGreatDoor
section
section
open Go Go.RowKit
end
end
end Go.Proofs.YtihoefibfhccfaaGreatDoor
namespace Go.Proofs.YtihoefibfhccfaaGreatDoor
section
section
open Go Go.RowKit
attribute [local go_sem ↓] Go.wp_at_zero Go.wp_at_succ
attribute [local go_sem] eq4
end
end
end Go.Proofs.YtihoefibfhccfaaGreatDoor
namespace Go.Proofs.YtihoefibfhccfaaGreatDoor
section
section
section
open Go Go.RowKit
attribute [local go_sem ↓] Go.wp_at_zero Go.wp_at_succ
attribute [local go_sem] eq4
end
end
section
section
open Go Go.RowKit
attribute [local go_sem ↓] Go.wp_at_zero Go.wp_at_succ
attribute [local go_sem] eq4
end
end
section
section
open Go Go.RowKit
attribute [local go_sem ↓] Go.wp_at_zero Go.wp_at_succ
attribute [local go_sem] eq4
end
end
end
end Go.Proofs.YtihoefibfhccfaaGreatDoor
namespace Go.Proofs.YtihoefibfhccfaaGreatDoor
section
section
open Go Go.RowKit
attribute [local go_sem ↓] Go.wp_at_zero Go.wp_at_succ
end
end
end Go.Proofs.YtihoefibfhccfaaGreatDoor
namespace Go.Proofs.YtihoefibfhccfaaGreatDoor
section
section
section
open Go Go.RowKit
attribute [local go_sem ↓] Go.wp_at_zero Go.wp_at_succ
end
end
section
section
open Go Go.RowKit
end
end
end
end Go.Proofs.YtihoefibfhccfaaGreatDoor
namespace Go.Proofs.YtihoefibfhccfaaGreatDoor
section
section
open Go Go.RowKit
attribute [local go_sem ↓] Go.wp_at_zero Go.wp_at_succ
attribute [local go_sem] eq4
end
end
end Go.Proofs.YtihoefibfhccfaaGreatDoor
namespace Go.Proofs.YtihoefibfhccfaaGreatDoor
section
section
section
open Go Go.RowKit
attribute [local go_sem ↓] Go.wp_at_zero Go.wp_at_succ
attribute [local go_sem] eq4
end
end
section
section
open Go Go.RowKit
attribute [local go_sem ↓] Go.wp_at_zero Go.wp_at_succ
attribute [local go_sem] eq4
end
end
section
section
open Go Go.RowKit
attribute [local go_sem ↓] Go.wp_at_zero Go.wp_at_succ
attribute [local go_sem] eq4
end
end
section
section
open Go Go.RowKit
attribute [local go_sem ↓] Go.wp_at_zero Go.wp_at_succ
attribute [local go_sem] eq4
end
end
end
end Go.Proofs.YtihoefibfhccfaaGreatDoor
