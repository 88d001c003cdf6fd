/- Contracts of blocks: In. -/
import Derived.Test.YtkjbecdngjdkhaaDoorBlkR
namespace Go.Proofs.YtkjbecdngjdkhaaDoor
open Go Go.RowKit
attribute [local go_sem ↓] Go.wp_at_zero Go.wp_at_succ
attribute [local go_sem] eq4
/-- Has a set all of a block? -/
def inB (l : List W4) (s : W4) (i : Nat) : Bool := match l[i]? with | some t => eqW (t.meet s) t | none => false
theorem inB_at {l : List W4} {s t : W4} {i : Nat} (h : l[i]? = some t) : inB l s i = eqW (t.meet s) t := by unfold inB; rw [h]
/-- The blocks that a set has whole. -/
def inIdx (l : List W4) (s : W4) (k : Nat) : List Nat := (List.range k).filter (inB l s)
theorem inIdx_yes {l : List W4} {s : W4} {k : Nat} (h : inB l s k = true) : inIdx l s (k + 1) = inIdx l s k ++ [k] := by unfold inIdx; rw [List.range_succ, List.filter_append]; simp [h]
theorem inIdx_no {l : List W4} {s : W4} {k : Nat} (h : inB l s k = false) : inIdx l s (k + 1) = inIdx l s k := by unfold inIdx; rw [List.range_succ, List.filter_append]; simp [h]
theorem inIdx_len (l : List W4) (s : W4) (k : Nat) : (inIdx l s k).length ≤ k := by
  have := List.length_filter_le (inB l s) (List.range k)
  unfold inIdx
  simpa using this
/-- What holds while a list of numbers grows. -/
def GrowRel (w : World) (l : List Nat) (v : Value) (wr : World) : Prop :=
  wr.ownsRow w.heap.size 3 1 v l.length (nats l) ∧ Below w.heap.size w wr
theorem GrowRel.at {w wr : World} {l : List Nat} {v : Value} (h : GrowRel w l v wr) : NatsAt wr v l := nats_of_row rfl h.1
theorem GrowRel.start (w : World) : GrowRel w [] (.slice none 0 0) w := ⟨⟨rfl, .inl ⟨rfl, rfl⟩⟩, Below.refl _ _⟩
theorem GrowRel.keep {w wr w1 : World} {l : List Nat} {v : Value} (h : GrowRel w l v wr) (hb : Below wr.heap.size wr w1) : GrowRel w l v w1 := ⟨ownsBelow h.1 hb, h.2.trans (hb.mono h.2.size)⟩
theorem GrowRel.add {w wr w2 : World} {o : Obj} {l : List Nat} {n : Nat} {v v' : Value} (h : GrowRel w l v wr)
    (ho : w2.ownsRow w.heap.size 3 1 v' (l.length + 1) (nats l ++ [.int .i64 (n : Int)])) (hg : (wr.alloc o).grownBy w2 v.ownBlock) : GrowRel w (l ++ [n]) v' w2 := by
  unfold GrowRel
  rw [List.length_append, nats_snoc]
  exact ⟨ho, h.2.trans (belowApp h.1 hg h.2.size)⟩
theorem withinW (t s : W4) (w : World) :
    Calls Tryd.prog 45 #[.agg #[.int .u64 t.a, .int .u64 t.b, .int .u64 t.c, .int .u64 t.d], .agg #[.int .u64 s.a, .int .u64 s.b, .int .u64 s.c, .int .u64 s.d]] w fun e w' => e = .returned (.bool (eqW (t.meet s) t)) ∧ Below w.heap.size w w' := within_any _ _ _ _ _ _ _ _ w
set_option maxRecDepth 100000 in
set_option maxHeartbeats 4000000 in
theorem in_cut (g : Nat) (of : Nat → Nat) (l : List W4) (s : W4) (w : World) (h : BlkAt w g of l) (hc : l.any (cuts s) = true) :
    Calls Tryd.prog 20 #[.pointer (some ⟨g, 0, none⟩), .agg #[.int .u64 s.a, .int .u64 s.b, .int .u64 s.c, .int .u64 s.d]] w fun e w' => e = .returned (.tuple #[.slice none 0 0, .bool false]) ∧ Below w.heap.size w w' := by
  have HB0 := hid (below1 w (.cells #[.int .u64 s.a, .int .u64 s.b, .int .u64 s.c, .int .u64 s.d] 35))
  have H1 := hid (h.below HB0.out (Nat.le_refl _))
  have HC := hid hc
  have hlt := h.lt
  clear h hc
  go_enter Tryd.func20, Tryd.ntmps20
  go_wp2_with fail
  refine (cut_any g of l s _ H1.out).mono ?_
  rintro e w1 ⟨rfl, hb1⟩
  have HB1 := hid (HB0.out.trans (hb1.mono HB0.out.size))
  clear hb1
  rw [HC.out]
  go_wp2_with fail
  go_ret2
  exact ⟨rfl, HB1.out⟩
set_option maxRecDepth 100000 in
set_option maxHeartbeats 4000000 in
theorem in_uncut (g : Nat) (of : Nat → Nat) (l : List W4) (s : W4) (w : World) (h : BlkAt w g of l) (hc : l.any (cuts s) = false) :
    Calls Tryd.prog 20 #[.pointer (some ⟨g, 0, none⟩), .agg #[.int .u64 s.a, .int .u64 s.b, .int .u64 s.c, .int .u64 s.d]] w fun e w' => ∃ v, e = .returned (.tuple #[v, .bool true]) ∧ NatsAt w' v (inIdx l s l.length) ∧ Below w.heap.size w w' := by
  have HB0 := hid (below1 w (.cells #[.int .u64 s.a, .int .u64 s.b, .int .u64 s.c, .int .u64 s.d] 35))
  have HS0 : Hid (SetAt (w.alloc (.cells #[.int .u64 s.a, .int .u64 s.b, .int .u64 s.c, .int .u64 s.d] 35)) w.heap.size 0 s) := hid (by
    refine ⟨?_, ?_, ?_, ?_⟩ <;> simp [go_sem])
  have hz0 : w.heap.size + 1 ≤ (w.alloc (.cells #[.int .u64 s.a, .int .u64 s.b, .int .u64 s.c, .int .u64 s.d] 35)).heap.size := by simp
  have H1 := hid (h.below HB0.out (Nat.le_refl _))
  have HC := hid hc
  have hlt := h.lt
  have hsm := h.small
  obtain ⟨i0, hif, hy0, hy1, hy2⟩ := info_parts Tryd.infoInt
  clear h hc
  go_enter Tryd.func20, Tryd.ntmps20
  go_wp2_with fail
  generalize w.alloc (.cells #[.int .u64 s.a, .int .u64 s.b, .int .u64 s.c, .int .u64 s.d] 35) = w0 at *
  refine (cut_any g of l s _ H1.out).mono ?_
  rintro e w1 ⟨rfl, hb1⟩
  have HB1 := hid (HB0.out.trans (hb1.mono (by omega)))
  have HS1 := hid (HS0.out.below hb1 (by omega))
  have HX1 := hid (H1.out.below hb1 (Nat.le_refl _))
  have hz1 := hb1.size
  clear hb1
  rw [HC.out]
  obtain ⟨k0, cap, hr, hk0, hs⟩ := HX1.out.row
  have hg1 : g < w1.heap.size := HX1.out.lt
  have HS := hid hs
  clear hs
  go_wp2_with fail
  go_loopw [6, 21] (fun v i wr => ∃ k : Nat, k ≤ l.length ∧ i = .int .i64 k ∧ Hid (GrowRel w1 (inIdx l s k) v wr)) (fun _ i _ => l.length - (intOf i).toNat)
  case atStart => exact ⟨0, by omega, rfl, hid (GrowRel.start _)⟩
  case round =>
    obtain ⟨k, hk, rfl, HG⟩ := hrel
    by_cases hlk : k < l.length
    · obtain ⟨t, ht⟩ : ∃ t, l[k]? = some t := ⟨_, List.getElem?_eq_getElem hlk⟩
      obtain ⟨c0, c1, c2, c3⟩ := (HS.out k t ht).below HG.out.2 hk0
      obtain ⟨d0, d1, d2, d3⟩ := HS1.out.below HG.out.2 (by omega)
      have hkr : k0 < wr.heap.size := Nat.lt_of_lt_of_le hk0 HG.out.2.size
      have hwr : w.heap.size < wr.heap.size := by have := HG.out.2.size; omega
      have hil := inIdx_len l s k
      have HW := hid (fun W => withinW t s W)
      have HIN := hid (inB_at (s := s) ht)
      clear ht
      generalize eqW (t.meet s) t = x at *
      go_wp2_with fail
      refine (HW.out _).mono ?_
      rintro e w2 ⟨rfl, hb2⟩
      have HG2 : Hid (GrowRel w1 (inIdx l s k) u6 w2) := hid (HG.out.keep (((Below.refl _ wr).alloc (Nat.le_refl _) _).trans (hb2.mono (by simp))))
      have hz2 : w1.heap.size ≤ w2.heap.size := HG2.out.2.size
      clear hb2 c0 c1 c2 c3 d0 d1 d2 d3
      cases x
      · have HG3 : Hid (GrowRel w1 (inIdx l s (k + 1)) u6 w2) := hid (by rw [inIdx_no HIN.out]; exact HG2.out)
        go_wp2_with fail
        go_roundw
        case rel => exact ⟨k + 1, by omega, by go_num, HG3⟩
        case measure => simp [intOf]; omega
      · go_wp2_with (at_builtin; go_must (refine wpList_append_own_at _ rfl (.tmp 29) (.tmp 31) 26 rfl w1.heap.size 3 i0 (.int .i64 0) 1 8 Tryd.underlying26 hif hy0 hy1 hy2 rfl (by decide) u6 (inIdx l s k).length (nats (inIdx l s k)) rfl (ownsAlloc HG2.out.1 _) ⟨_, 0, none⟩ 1 1 _ rfl rfl (cell_one_new _ _ _) (one_int _) (by unfold maxLen; omega) (by omega) (by simp; omega) ?_; intro v4 w4 ho hg4 _ _; have HG4 : Hid (GrowRel w1 (inIdx l s (k + 1)) v4 w4) := hid (by rw [inIdx_yes HIN.out]; exact HG2.out.add ho hg4); clear ho hg4))
        go_roundw
        case rel => exact ⟨k + 1, by omega, by go_num, HG4⟩
        case measure => simp [intOf]; omega
    · obtain rfl : k = l.length := by omega
      go_wp2_with fail
      go_ret2
      exact ⟨_, rfl, HG.out.at, HB1.out.trans (HG.out.2.mono (by omega))⟩
end Go.Proofs.YtkjbecdngjdkhaaDoor
