/- A part of the proof. -/
import Derived.Test.YtnmalggmbeipaaaGreatDoorCoQ
import Derived.Maps.AppendAt
import Derived.Test.YtnmalggmbeipaaaGreatDoorRegion
import Derived.Lib.MakeNoZero
namespace Go.Proofs.YtnmalggmbeipaaaGreatDoor
section
section
open Go Go.RowKit
attribute [local go_sem ↓] Go.wp_at_zero Go.wp_at_succ
attribute [local go_sem] eq4
abbrev kPtr (q : Option Nat) : Value := .pointer (q.map fun a => ⟨a,0,none⟩)
def IsK (w : World) (q : Option Nat) : Prop := ∀ a,q = some a -> ∃ c t,w.heap[a]? = some (.cells c t (0,0))
theorem keq_ptr (q q' : Option Nat) (w : World) (h : IsK w q) (h' : IsK w q') : (Op.equal 23 (kPtr q) (kPtr q')).run Tryz.prog w = .ok (q == q') w := by
 have u3 := Tryz.underlying23;unfold Op.equal;rw [show Op.maxDepth = 9999 + 1 from rfl,Op.equalIn];simp only [Sem.run_bind,run_underlying Tryz.underlying23,Result.andThen_ok];have z3 := Tryz.sizeOf78
 cases q with
 | none =>
  cases q' with
  | none =>
   show Sem.run _ _ _ = _
   simp only [kPtr,Option.map_none]
   go_simp
  | some b =>
   simp only [kPtr,Option.map_none,Option.map_some]
   go_simp
 | some a =>
  cases q' with
  | none =>
   simp only [kPtr,Option.map_none,Option.map_some]
   go_simp
  | some b =>
   simp only [kPtr,Option.map_some]
   go_simp
   by_cases hq : a = b
   ·subst hq;rw [run_sameAddr_same];simp
   ·obtain ⟨c,t,hc⟩ := h a rfl;obtain ⟨c',t',hc'⟩ := h' b rfl;rw [run_sameAddr_other w (fun e => hq (congrArg Addr.block e)) hc hc'];simp [hq]
theorem kcheckKey_ptr (q : Option Nat) (e : Bool) (w : World) : (Instr.checkKey e 10000 23 (kPtr q)).run Tryz.prog w = .ok () w := by
 rw [show (10000 : Nat) = 9999 + 1 from rfl];unfold Instr.checkKey;simp only [Sem.run_bind,run_underlying Tryz.underlying23,Result.andThen];rfl
end
end
end Go.Proofs.YtnmalggmbeipaaaGreatDoor
namespace Go.Proofs.YtnmalggmbeipaaaGreatDoor
section
section
open Go Go.RowKit
attribute [local go_sem ↓] Go.wp_at_zero Go.wp_at_succ
attribute [local go_sem] eq4
end
end
end Go.Proofs.YtnmalggmbeipaaaGreatDoor
namespace Go.Proofs.YtnmalggmbeipaaaGreatDoor
section
section
open Go Go.RowKit
end
end
end Go.Proofs.YtnmalggmbeipaaaGreatDoor
namespace Go.Proofs.YtnmalggmbeipaaaGreatDoor
section
section
open Go Go.RowKit
attribute [local go_sem ↓] Go.wp_at_zero Go.wp_at_succ
attribute [local go_sem] eq4
end
end
end Go.Proofs.YtnmalggmbeipaaaGreatDoor
namespace Go.Proofs.YtnmalggmbeipaaaGreatDoor
section
section
section
open Go Go.RowKit
attribute [local go_sem ↓] Go.wp_at_zero Go.wp_at_succ
attribute [local go_sem] eq4
end
end
section
section
open Go Go.RowKit
attribute [local go_sem ↓] Go.wp_at_zero Go.wp_at_succ
attribute [local go_sem] eq4
end
end
section
section
open Go Go.RowKit
attribute [local go_sem ↓] Go.wp_at_zero Go.wp_at_succ
attribute [local go_sem] eq4
end
end
end
end Go.Proofs.YtnmalggmbeipaaaGreatDoor
namespace Go.Proofs.YtnmalggmbeipaaaGreatDoor
section
section
open Go Go.RowKit
attribute [local go_sem ↓] Go.wp_at_zero Go.wp_at_succ
end
end
end Go.Proofs.YtnmalggmbeipaaaGreatDoor
namespace Go.Proofs.YtnmalggmbeipaaaGreatDoor
section
section
section
open Go Go.RowKit
attribute [local go_sem ↓] Go.wp_at_zero Go.wp_at_succ
end
end
section
section
open Go Go.RowKit
end
end
end
end Go.Proofs.YtnmalggmbeipaaaGreatDoor
namespace Go.Proofs.YtnmalggmbeipaaaGreatDoor
section
section
open Go Go.RowKit
attribute [local go_sem ↓] Go.wp_at_zero Go.wp_at_succ
attribute [local go_sem] eq4
end
end
end Go.Proofs.YtnmalggmbeipaaaGreatDoor
namespace Go.Proofs.YtnmalggmbeipaaaGreatDoor
section
section
section
open Go Go.RowKit
attribute [local go_sem ↓] Go.wp_at_zero Go.wp_at_succ
attribute [local go_sem] eq4
end
end
section
section
open Go Go.RowKit
attribute [local go_sem ↓] Go.wp_at_zero Go.wp_at_succ
attribute [local go_sem] eq4
end
end
section
section
open Go Go.RowKit
attribute [local go_sem ↓] Go.wp_at_zero Go.wp_at_succ
attribute [local go_sem] eq4
end
end
section
section
open Go Go.RowKit
attribute [local go_sem ↓] Go.wp_at_zero Go.wp_at_succ
attribute [local go_sem] eq4
end
end
end
end Go.Proofs.YtnmalggmbeipaaaGreatDoor
