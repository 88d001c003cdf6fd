/- The contract of From. -/
import Derived.Test.YtcpdobldconnaaaDoorRangesC
import Derived.LoopTactic
namespace Go.Proofs.YtcpdobldconnaaaDoor
open Go Go.RowKit
attribute [local go_sem ↓] Go.wp_at_zero Go.wp_at_succ
attribute [local go_sem] eq4
theorem union_at {a b c d x y z u : Int} {w : World} {g : Nat} (h : w.heap[g]? = some (.cells #[.int .u64 a, .int .u64 b, .int .u64 c, .int .u64 d, .int .u64 x, .int .u64 y, .int .u64 z, .int .u64 u] 27)) :
    Calls Tryd.prog 42 #[.slice (some ⟨g, 0, none⟩) 2 2] w fun e w' => e = .returned (.agg #[.int .u64 (orr (orr 0 a) x), .int .u64 (orr (orr 0 b) y), .int .u64 (orr (orr 0 c) z), .int .u64 (orr (orr 0 d) u)]) ∧ Below w.heap.size w w' :=
  union_two g a b c d x y z u w (Reg.size_of_get h) (Joins.cell_of_block h 0) (Joins.cell_of_block h 1) (Joins.cell_of_block h 2) (Joins.cell_of_block h 3) (Joins.cell_of_block h 4) (Joins.cell_of_block h 5) (Joins.cell_of_block h 6) (Joins.cell_of_block h 7)
/-- Word i of the first k ranges' bytes. -/
def fww (lo hi : Nat → Nat) : Nat → Nat → Int
  | 0, _ => 0
  | k + 1, i => orr (orr 0 (fww lo hi k i)) (rgw (lo k) (hi k) i)
/-- Is a byte in one of the first k? -/
def frm (lo hi : Nat → Nat) : Nat → Nat → Bool
  | 0, _ => false
  | k + 1, n => frm lo hi k n || decide (lo k ≤ n ∧ n ≤ hi k)
theorem fww_fit (lo hi : Nat → Nat) (k i : Nat) : Fit (fww lo hi k i) := by
  cases k with
  | zero => simp [fww, Fit]
  | succ k => exact orr_fit _ _
theorem memb_fww (lo hi : Nat → Nat) (hh : ∀ j, hi j < 256) (k n : Nat) (hn : n < 256) : memb (fww lo hi k 0) (fww lo hi k 1) (fww lo hi k 2) (fww lo hi k 3) n = frm lo hi k n := by
  induction k with
  | zero => simp [fww, frm, memb_zero]
  | succ k ih =>
    show memb (orr (orr 0 (fww lo hi k 0)) (rgw (lo k) (hi k) 0)) (orr (orr 0 (fww lo hi k 1)) (rgw (lo k) (hi k) 1)) (orr (orr 0 (fww lo hi k 2)) (rgw (lo k) (hi k) 2)) (orr (orr 0 (fww lo hi k 3)) (rgw (lo k) (hi k) 3)) n = _
    rw [memb_or, ih, memb_rgw _ _ n (hh k) hn]
    rfl
/-- A list of pairs of bytes. -/
def PairRow (W : World) (p : Option Addr) (n : Nat) (lo hi : Nat → Nat) : Prop :=
  n ≤ 9223372036854775807 ∧ (∀ j, lo j < 256) ∧ (∀ j, hi j < 256) ∧ (n = 0 ∨ ∃ g o, p = some ⟨g, o, none⟩ ∧ g < W.heap.size ∧ ∀ j, j < n → W.cell? ⟨g, o + j * 2, none⟩ = some (.int .u8 (lo j : Int)) ∧ W.cell? ⟨g, o + j * 2 + 1, none⟩ = some (.int .u8 (hi j : Int)))
theorem PairRow.below {B : Nat} {W W1 : World} {p : Option Addr} {n : Nat} {lo hi : Nat → Nat} (h : PairRow W p n lo hi) (hb : Below B W W1) (hB : W.heap.size ≤ B) : PairRow W1 p n lo hi :=
  ⟨h.1, h.2.1, h.2.2.1, h.2.2.2.imp_right fun ⟨g, o, hp, hg, hc⟩ => ⟨g, o, hp, Nat.lt_of_lt_of_le hg hb.size, fun j hj => ⟨(hb.cell (p := ⟨g, o + j * 2, none⟩) (Nat.lt_of_lt_of_le hg hB)).trans (hc j hj).1, (hb.cell (p := ⟨g, o + j * 2 + 1, none⟩) (Nat.lt_of_lt_of_le hg hB)).trans (hc j hj).2⟩⟩⟩
def frmTold (lo hi : Nat → Nat) (k gp : Nat) : Nat → Reg.Told
  | 0 => .inl (.agg #[.int .u64 (fww lo hi k 0), .int .u64 (fww lo hi k 1), .int .u64 (fww lo hi k 2), .int .u64 (fww lo hi k 3)])
  | 1 => .inl (.pointer (some ⟨gp, 0, none⟩))
  | 2 => .inl (.int .u8 ((lo k : Int)))
  | 3 => .inl (.pointer (some ⟨gp, 1, none⟩))
  | 4 => .inl (.int .u8 ((hi k : Int)))
  | 5 => .inl (.agg #[.int .u64 (rgw (lo k) (hi k) 0), .int .u64 (rgw (lo k) (hi k) 1), .int .u64 (rgw (lo k) (hi k) 2), .int .u64 (rgw (lo k) (hi k) 3)])
  | 6 => .inr ⟨fun g => .slice (some ⟨g, 0, none⟩) 2 2, 27, #[.int .u64 (fww lo hi k 0), .int .u64 (fww lo hi k 1), .int .u64 (fww lo hi k 2), .int .u64 (fww lo hi k 3), .int .u64 (rgw (lo k) (hi k) 0), .int .u64 (rgw (lo k) (hi k) 1), .int .u64 (rgw (lo k) (hi k) 2), .int .u64 (rgw (lo k) (hi k) 3)]⟩
  | 7 => .inl (.agg #[.int .u64 (orr (orr 0 (fww lo hi k 0)) (rgw (lo k) (hi k) 0)), .int .u64 (orr (orr 0 (fww lo hi k 1)) (rgw (lo k) (hi k) 1)), .int .u64 (orr (orr 0 (fww lo hi k 2)) (rgw (lo k) (hi k) 2)), .int .u64 (orr (orr 0 (fww lo hi k 3)) (rgw (lo k) (hi k) 3))])
  | _ => .inl undef
/-- What holds of memory in From's loop. -/
def FR (w : World) (lo hi : Nat → Nat) (k : Nat) (wr : World) : Prop :=
  wr.heap[w.heap.size + 1]? = some (.cells #[.int .u64 (fww lo hi k 0), .int .u64 (fww lo hi k 1), .int .u64 (fww lo hi k 2), .int .u64 (fww lo hi k 3)] 27) ∧
  wr.heap[w.heap.size]? = some (.cells #[.int .u64 0, .int .u64 0, .int .u64 0, .int .u64 0] 27) ∧ Below w.heap.size w wr
theorem FR.up {w wr w1 : World} {lo hi : Nat → Nat} {k : Nat} (h : FR w lo hi k wr) (hb : Below wr.heap.size wr w1) : FR w lo hi k w1 :=
  ⟨(hb.block _ (Reg.size_of_get h.1)).trans h.1, (hb.block _ (Reg.size_of_get h.2.1)).trans h.2.1, h.2.2.trans (hb.mono h.2.2.size)⟩
theorem FR.held {w wr : World} {lo hi : Nat → Nat} {k : Nat} (h : FR w lo hi k wr) : HeldS wr (w.heap.size + 1) (fww lo hi k 0) (fww lo hi k 1) (fww lo hi k 2) (fww lo hi k 3) wr :=
  ⟨⟨Joins.cell_of_block h.1 0, Joins.cell_of_block h.1 1, Joins.cell_of_block h.1 2, Joins.cell_of_block h.1 3⟩, Reg.size_of_get h.1, Below.refl _ _⟩
theorem FR.store {w wr : World} {lo hi : Nat → Nat} {k : Nat} (h : FR w lo hi k wr) :
    FR w lo hi (k + 1) ((((wr.setCell ⟨w.heap.size + 1, 0, none⟩ (.int .u64 (orr (orr 0 (fww lo hi k 0)) (rgw (lo k) (hi k) 0)))).setCell ⟨w.heap.size + 1, 1, none⟩ (.int .u64 (orr (orr 0 (fww lo hi k 1)) (rgw (lo k) (hi k) 1)))).setCell ⟨w.heap.size + 1, 2, none⟩ (.int .u64 (orr (orr 0 (fww lo hi k 2)) (rgw (lo k) (hi k) 2)))).setCell ⟨w.heap.size + 1, 3, none⟩ (.int .u64 (orr (orr 0 (fww lo hi k 3)) (rgw (lo k) (hi k) 3)))) := by
  have hne : w.heap.size ≠ w.heap.size + 1 := by omega
  refine ⟨Joins.block_setCell (Joins.block_setCell (Joins.block_setCell (Joins.block_setCell h.1 _) _) _) _, ?_, below_set4 h.2.2 (by omega) _ _ _ _⟩
  rw [Below.heap_setCell _ _ _ _ hne, Below.heap_setCell _ _ _ _ hne, Below.heap_setCell _ _ _ _ hne, Below.heap_setCell _ _ _ _ hne]
  exact h.2.1
set_option maxRecDepth 100000 in
set_option maxHeartbeats 8000000 in
theorem rangesof_any (p : Option Addr) (n cap : Nat) (lo hi : Nat → Nat) (w : World) (hl : PairRow w p n lo hi) :
    Calls Tryd.prog 18 #[.slice p n cap] w fun e w' => e = .returned (.agg #[.int .u64 (fww lo hi n 0), .int .u64 (fww lo hi n 1), .int .u64 (fww lo hi n 2), .int .u64 (fww lo hi n 3)]) ∧ Below w.heap.size w w' := by
  have HL := hid hl
  have hn63 := hl.1
  clear hl
  go_enter Tryd.func18, Tryd.ntmps18
  go_wp2_with fail
  have hF : FR w lo hi 0 ((w.alloc (.cells #[.int .u64 0, .int .u64 0, .int .u64 0, .int .u64 0] 27)).alloc (.cells #[.int .u64 0, .int .u64 0, .int .u64 0, .int .u64 0] 27)) := by
    refine ⟨?_, ?_, below2 _ _ _⟩
    · have h := heap_new (w.alloc (.cells #[.int .u64 0, .int .u64 0, .int .u64 0, .int .u64 0] 27)) (.cells #[.int .u64 0, .int .u64 0, .int .u64 0, .int .u64 0] 27)
      rw [World.size_alloc] at h
      exact h
    · rw [Below.heap_alloc _ _ _ (by simp)]; exact heap_new _ _
  generalize (w.alloc (.cells #[.int .u64 0, .int .u64 0, .int .u64 0, .int .u64 0] 27)).alloc (.cells #[.int .u64 0, .int .u64 0, .int .u64 0, .int .u64 0] 27) = W at hF ⊢
  have HF := hid hF
  clear hF
  go_loopw [8] (fun i wr => ∃ k : Nat, k ≤ n ∧ i = .int .i64 k ∧ FR w lo hi k wr) (fun i _ => n - (intOf i).toNat)
  case atStart => exact ⟨0, by omega, rfl, HF.out⟩
  case round =>
    clear HF
    obtain ⟨k, hk, rfl, hf⟩ := hrel
    have HF := hid hf
    clear hf
    by_cases hlt : k < n
    · obtain ⟨g, o, rfl, hg, hc⟩ := HL.out.2.2.2.resolve_left (by omega)
      have hc0 := (HF.out.2.2.cell (p := ⟨g, o + k * 2, none⟩) hg).trans (hc k hlt).1
      have hc1 := (HF.out.2.2.cell (p := ⟨g, o + k * 2 + 1, none⟩) hg).trans (hc k hlt).2
      have hlk := HL.out.2.1 k
      have hhk := HL.out.2.2.1 k
      have hkI : (k : Int) < n := by omega
      have hk0 : (0 : Int) ≤ (k : Int) := by omega
      clear hc
      go_wp2_with fail
      generalize hws : wr.alloc _ = ws
      have HP : Hid (ws.cell? ⟨wr.heap.size, 0, none⟩ = some (.int .u8 (lo k : Int)) ∧ ws.cell? ⟨wr.heap.size, 1, none⟩ = some (.int .u8 (hi k : Int)) ∧ wr.heap.size < ws.heap.size) := by
        subst hws
        exact ⟨by simp [go_sem], by simp [go_sem], by simp⟩
      have HF1 : Hid (FR w lo hi k ws) := by subst hws; exact HF.out.up (below1 _ _)
      clear hws hc0 hc1 HF
      have HW := heldS_below (Below.refl _ ws).drew HF1.out.held
      generalize wr.heap.size = gp at HP ⊢
      refine Reg.wp_region_toldY 8 _ (frmTold lo hi k gp) [0, 1, 2, 3, 4, 5, 6, 7, 8] (by kernel_rfl) (by rfl) (by rfl) (by kernel_rfl) (by kernel_rfl) (by kernel_rfl) ?_ ?_
      focus
        refine ⟨Reg.opOK_plain (by rfl) fun G listed A wv hI hall => .inl ⟨Reg.wanted_none rfl, ?_⟩, ?_⟩
        focus
          have H := heldS_below hI.base HW
          have e3 := hI.evo (d := 3) (by kernel_rfl) rfl
          clear hI hall HW
          unfold Reg.Yields
          go_simp
          exact Reg.good_val (by rfl) (by rfl) (Below.refl _ _)
        refine ⟨Reg.opOK_plain (by rfl) fun G listed A wv hI hall => .inl ⟨Reg.wanted_none rfl, ?_⟩, ?_⟩
        focus
          have e5 := hI.evo (d := 5) (by kernel_rfl) rfl
          clear hI hall HW
          unfold Reg.Yields
          go_simp
          exact Reg.good_val (by rfl) (by rfl) (Below.refl _ _)
        refine ⟨Reg.opOK_plain (by rfl) fun G listed A wv hI hall => .inl ⟨Reg.wanted_none rfl, ?_⟩, ?_⟩
        focus
          have H := (hI.base.cell (p := ⟨gp, 0, none⟩) HP.out.2.2).trans HP.out.1
          have e13 := hI.ev (i := 1) (d := 13) (by rfl) (by rfl) (hall ⟨1, .data⟩ (by simp) rfl)
          clear hI hall HW
          unfold Reg.Yields
          go_simp
          exact Reg.good_val (by rfl) (by rfl) (Below.refl _ _)
        refine ⟨Reg.opOK_plain (by rfl) fun G listed A wv hI hall => .inl ⟨Reg.wanted_none rfl, ?_⟩, ?_⟩
        focus
          have e5 := hI.evo (d := 5) (by kernel_rfl) rfl
          clear hI hall HW
          unfold Reg.Yields
          go_simp
          exact Reg.good_val (by rfl) (by rfl) (Below.refl _ _)
        refine ⟨Reg.opOK_plain (by rfl) fun G listed A wv hI hall => .inl ⟨Reg.wanted_none rfl, ?_⟩, ?_⟩
        focus
          have H := (hI.base.cell (p := ⟨gp, 1, none⟩) HP.out.2.2).trans HP.out.2.1
          have e15 := hI.ev (i := 3) (d := 15) (by rfl) (by rfl) (hall ⟨3, .data⟩ (by simp) rfl)
          clear hI hall HW
          unfold Reg.Yields
          go_simp
          exact Reg.good_val (by rfl) (by rfl) (Below.refl _ _)
        refine ⟨Reg.opOK_plain (by rfl) fun G listed A wv hI hall => .inl ⟨Reg.wanted_none rfl, ?_⟩, ?_⟩
        focus
          have e14 := hI.ev (i := 2) (d := 14) (by rfl) (by rfl) (hall ⟨2, .data⟩ (by simp) rfl)
          have e16 := hI.ev (i := 4) (d := 16) (by rfl) (by rfl) (hall ⟨4, .data⟩ (by simp) rfl)
          clear hI hall HW
          unfold Reg.Yields
          go_simp
          exact (range_any (lo k) (hi k) hlk hhk _).mono fun e w'' ⟨he, hb⟩ => ⟨_, he, Reg.good_val (by rfl) (by rfl) hb⟩
        refine ⟨Reg.opOK_plain (by rfl) fun G listed A wv hI hall => .inl ⟨Reg.wanted_none rfl, ?_⟩, ?_⟩
        focus
          have e12 := hI.ev (i := 0) (d := 12) (by rfl) (by rfl) (hall ⟨0, .data⟩ (by simp) rfl)
          have e17 := hI.ev (i := 5) (d := 17) (by rfl) (by rfl) (hall ⟨5, .data⟩ (by simp) rfl)
          clear hI hall HW
          unfold Reg.Yields
          go_simp
          exact Reg.good_new (by rfl) (by rfl) (by rfl)
        refine ⟨Reg.opOK_plain (by rfl) fun G listed A wv hI hall => .inl ⟨Reg.wanted_none rfl, ?_⟩, ?_⟩
        focus
          obtain ⟨e18, _, b18⟩ := hI.evm (i := 6) (d := 18) (by rfl) (by rfl) (hall ⟨6, .data⟩ (by simp) rfl)
          clear hI hall HW
          unfold Reg.Yields
          go_simp
          exact (union_at b18).mono fun e w'' ⟨he, hb⟩ => ⟨_, he, Reg.good_val (by rfl) (by rfl) hb⟩
        trivial
      intro G w4 hI
      have Hh := heldS_below hI.base HW
      have HF4 := hid (HF1.out.up (Below.trans (Below.refl _ ws).drew hI.base))
      have z0 := Joins.unfrozen_of_block HF4.out.1 0
      have z1 := Joins.unfrozen_of_block HF4.out.1 1
      have z2 := Joins.unfrozen_of_block HF4.out.1 2
      have z3 := Joins.unfrozen_of_block HF4.out.1 3
      obtain ⟨⟨q0, q1, q2, q3⟩, hgl, _⟩ := Hh
      clear hI HW
      refine ⟨by unfold Region.wanted; rfl, ?_⟩
      simp [Reg.finalTmps, Reg.dstAt, Reg.valOf, frmTold]
      unfold Reg.Yields
      go_simp
      have HF5 := hid HF4.out.store
      clear z0 z1 z2 z3 q0 q1 q2 q3 hgl HF4 HF1 HP
      go_wp2_with fail
      exact ⟨⟨k + 1, by omega, by go_num, HF5.out⟩, by simp [intOf]; omega⟩
    · have e1 : k = n := by omega
      subst e1
      have q0 := Joins.cell_of_block HF.out.1 0
      have q1 := Joins.cell_of_block HF.out.1 1
      have q2 := Joins.cell_of_block HF.out.1 2
      have q3 := Joins.cell_of_block HF.out.1 3
      have y0 := Joins.cell_of_block HF.out.2.1 0
      have y1 := Joins.cell_of_block HF.out.2.1 1
      have y2 := Joins.cell_of_block HF.out.2.1 2
      have y3 := Joins.cell_of_block HF.out.2.1 3
      have z0 := Joins.unfrozen_of_block HF.out.2.1 0
      have z1 := Joins.unfrozen_of_block HF.out.2.1 1
      have z2 := Joins.unfrozen_of_block HF.out.2.1 2
      have z3 := Joins.unfrozen_of_block HF.out.2.1 3
      go_wp2_with fail
      refine bodyPost_ret (v := .agg #[.int .u64 (fww lo hi k 0), .int .u64 (fww lo hi k 1), .int .u64 (fww lo hi k 2), .int .u64 (fww lo hi k 3)]) (by simp [results, Tryd.results18, go_sem, q0, q1, q2, q3, y0, y1, y2, y3]) rfl ⟨rfl, ?_⟩
      exact below_set4 HF.out.2.2 (Nat.le_refl _) _ _ _ _
end Go.Proofs.YtcpdobldconnaaaDoor
