/- The law BlocksOf: each byte's block, numbered by least bytes; each block's bytes. -/
import Derived.Test.YtkjbecdngjdkhaaDoorBlkI
import Derived.Maps.AppendAt
namespace Go.Proofs.YtkjbecdngjdkhaaDoor
open Go Go.RowKit
attribute [local go_sem ↓] Go.wp_at_zero Go.wp_at_succ
attribute [local go_sem] eq4
/-- What holds at the head of round k: the leads of the first k bytes are listed. -/
def LeadRel (w : World) (E : Nat → Nat → Bool) (k : Nat) (v : Value) (wr : World) : Prop :=
  wr.ownsRow w.heap.size 3 1 v (leads E k).length (nats (leads E k)) ∧ Below w.heap.size w wr
theorem LeadRel.at {w wr : World} {E : Nat → Nat → Bool} {k : Nat} {v : Value} (h : LeadRel w E k v wr) : NatsAt wr v (leads E k) := nats_of_row rfl h.1
theorem LeadRel.old {w wr w1 : World} {E : Nat → Nat → Bool} {k : Nat} {v : Value} (h : LeadRel w E k v wr) (hl : leads E (k + 1) = leads E k) (hb : Below wr.heap.size wr w1) : LeadRel w E (k + 1) v w1 := by
  unfold LeadRel
  rw [hl]
  exact ⟨ownsBelow h.1 hb, h.2.trans (hb.mono h.2.size)⟩
theorem LeadRel.new {w wr w1 w2 : World} {o : Obj} {E : Nat → Nat → Bool} {k : Nat} {v v' : Value} (h : LeadRel w E k v wr) (hl : leads E (k + 1) = leads E k ++ [k]) (hb : Below wr.heap.size wr w1)
    (ho : w2.ownsRow w.heap.size 3 1 v' ((leads E k).length + 1) (nats (leads E k) ++ [.int .i64 (k : Int)])) (hg : (w1.alloc o).grownBy w2 v.ownBlock) : LeadRel w E (k + 1) v' w2 := by
  unfold LeadRel
  rw [hl, List.length_append, nats_snoc]
  exact ⟨ho, h.2.trans ((hb.mono h.2.size).trans (belowApp (ownsBelow h.1 hb) hg (Nat.le_trans h.2.size hb.size)))⟩
theorem LeadRel.start (w : World) (E : Nat → Nat → Bool) : LeadRel w E 0 (.slice none 0 0) w := ⟨⟨rfl, .inl ⟨rfl, rfl⟩⟩, Below.refl _ _⟩
/-- What holds at the head of round k of the last loop: a slice of bools is filled. -/
def OnRel (w : World) (go : Nat) (f : Nat → Bool) (k : Nat) (wr : World) : Prop :=
  wr.heap[go]? = some (.cells (bl fun j => decide (j < k) && f j) 4) ∧ w.heap.size ≤ go ∧ Below w.heap.size w wr
theorem OnRel.start (w : World) (f : Nat → Bool) : OnRel w w.heap.size f 0 (w.alloc (.cells (bl fun _ => false) 4)) := by
  refine ⟨?_, Nat.le_refl _, below1 _ _⟩
  have e : (bl fun j => decide (j < 0) && f j) = bl fun _ => false := bl_congr fun i _ => by simp
  rw [e]
  exact heap_new _ _
theorem OnRel.next {w wr : World} {go k : Nat} {f : Nat → Bool} (h : OnRel w go f k wr) (hk : k < 256) : OnRel w go f (k + 1) (wr.setCell ⟨go, k, none⟩ (.bool (f k))) := by
  refine ⟨?_, h.2.1, h.2.2.setCell (by show w.heap.size ≤ go; exact h.2.1) _⟩
  rw [Joins.block_setCell h.1, bl_set]
  congr 2
  refine bl_congr fun i hi => ?_
  by_cases hik : i = k
  · subst hik; simp
  · have : (decide (i < k + 1)) = decide (i < k) := by
      by_cases h : i < k
      · simp [h]; omega
      · simp [h]; omega
    simp [hik, this]
theorem OnRel.ends {w wr : World} {go : Nat} {f : Nat → Bool} (h : OnRel w go f 256 wr) : BoolsAt wr go f := by
  have e2 : (bl fun j => decide (j < 256) && f j) = bl f := bl_congr fun i hi => by simp [hi]
  have h1 := h.1
  rw [e2] at h1
  exact bools_of_block h1
set_option maxRecDepth 100000 in
set_option maxHeartbeats 4000000 in
theorem oflaw_big (p : Option Addr) (n cap : Nat) (i : Int) (w : World) (hn : 20 < n) (hT : ∀ w', Below w.heap.size w w' → Tab w') :
    Calls Tryd.prog 3 #[.slice p n cap, .int .i64 i] w fun e w' => e = .returned (.bool true) ∧ Below w.heap.size w w' := by
  have HT := hid hT
  have d20 : decide ((20 : Int) < (n : Int)) = true := decide_eq_true (by omega)
  clear hT
  go_enter Tryd.func3, Tryd.ntmps3
  go_wp2_with fail
  refine (awakeB_any w HT.out).mono ?_
  rintro e w5 ⟨rfl, hb5⟩
  have HB5 := hid hb5
  clear hb5
  go_wp2_with fail
  go_ret
  exact ⟨rfl, HB5.out⟩
end Go.Proofs.YtkjbecdngjdkhaaDoor
