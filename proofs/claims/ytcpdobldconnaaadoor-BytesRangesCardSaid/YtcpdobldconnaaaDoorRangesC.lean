/- The contract of Ranges. -/
import Derived.Test.YtcpdobldconnaaaDoorRangesB
import Derived.LoopTactic
namespace Go.Proofs.YtcpdobldconnaaaDoor
open Go Go.RowKit
attribute [local go_sem ↓] Go.wp_at_zero Go.wp_at_succ
attribute [local go_sem] eq4
def pairVals (rs : List (Nat × Nat)) : List Value := rs.flatMap fun p => [.int .u8 (p.1 : Int), .int .u8 (p.2 : Int)]
theorem pairVals_snoc (rs : List (Nat × Nat)) (lo hi : Nat) : pairVals (rs ++ [(lo, hi)]) = pairVals rs ++ [.int .u8 (lo : Int), .int .u8 (hi : Int)] := by simp [pairVals]
theorem Tryd.infoPair : (Tryd.prog.info? 40).map (fun i => (i.zero, i.size, i.bytes)) = some (some (.agg #[.int .u8 0, .int .u8 0]), 2, 2) := by kernel_rfl
def lenOf : Value → Nat
  | .slice _ n _ => n
  | _ => 0
theorem len_own {w : World} {B n sz : Nat} {e : TypeId} {v : Value} {xs : List Value} (h : w.ownsRow B e sz v n xs) : lenOf v = n := by
  rcases h.2 with ⟨rfl, rfl⟩ | ⟨g, cap, cur, rfl, _⟩ <;> rfl
theorem cell_two_new (w : World) (x y : Value) (t : TypeId) : ∀ j u, [x, y][j]? = some u → (w.alloc (.cells #[x, y] t)).cell? ((⟨w.heap.size, 0, none⟩ : Addr).add j) = some u := by
  intro j u hj
  match j, hj with
  | 0, hj => simp at hj; subst hj; simp [Addr.add]
  | 1, hj => simp at hj; subst hj; simp [Addr.add]
theorem two_u8 (x y : Int) : ∀ u ∈ [Value.int .u8 x, Value.int .u8 y], u.oneCell' = true := by
  intro u hu
  have : u = .int .u8 x ∨ u = .int .u8 y := by simpa using hu
  rcases this with rfl | rfl <;> rfl
/-- What holds of memory in Ranges' loop. -/
def GR (w : World) (rs : List (Nat × Nat)) (c0 c1 c2 c3 : Int) (vl : Value) (wr : World) : Prop :=
  wr.heap[w.heap.size]? = some (.cells #[.int .u64 c0, .int .u64 c1, .int .u64 c2, .int .u64 c3] 27) ∧ wr.ownsRow (w.heap.size + 1) 40 2 vl rs.length (pairVals rs) ∧ Below w.heap.size w wr ∧ w.heap.size + 1 ≤ wr.heap.size
theorem GR.up {w wr w1 : World} {rs : List (Nat × Nat)} {c0 c1 c2 c3 : Int} {vl : Value} (h : GR w rs c0 c1 c2 c3 vl wr) (hb : Below wr.heap.size wr w1) : GR w rs c0 c1 c2 c3 vl w1 :=
  ⟨(hb.block _ (sizeOfGet h.1)).trans h.1, ownsBelow h.2.1 hb, h.2.2.1.trans (hb.mono h.2.2.1.size), Nat.le_trans h.2.2.2 hb.size⟩
theorem GR.add {w w1 w2 : World} {rs : List (Nat × Nat)} {c0 c1 c2 c3 : Int} {vl v' : Value} {o : Obj} {lo hi : Nat} (h : GR w rs c0 c1 c2 c3 vl w1) (ho : w2.ownsRow (w.heap.size + 1) 40 2 v' (rs.length + 1) (pairVals rs ++ [.int .u8 (lo : Int), .int .u8 (hi : Int)])) (hg : (w1.alloc o).grownBy w2 vl.ownBlock) :
    GR w (rs ++ [(lo, hi)]) c0 c1 c2 c3 v' w2 := by
  have hb := belowApp h.2.1 hg h.2.2.2
  refine ⟨(hb.block _ (by omega)).trans h.1, ?_, h.2.2.1.trans (hb.mono (by omega)), Nat.le_trans h.2.2.2 hb.size⟩
  rw [pairVals_snoc, List.length_append]
  exact ho
theorem GR.held {w wr : World} {rs : List (Nat × Nat)} {c0 c1 c2 c3 : Int} {vl : Value} (h : GR w rs c0 c1 c2 c3 vl wr) : HeldS wr w.heap.size c0 c1 c2 c3 wr :=
  ⟨⟨Joins.cell_of_block h.1 0, Joins.cell_of_block h.1 1, Joins.cell_of_block h.1 2, Joins.cell_of_block h.1 3⟩, sizeOfGet h.1, Below.refl _ _⟩
theorem GR.store {w wr : World} {rs : List (Nat × Nat)} {c0 c1 c2 c3 d0 d1 d2 d3 : Int} {vl : Value} (h : GR w rs c0 c1 c2 c3 vl wr) :
    GR w rs d0 d1 d2 d3 vl ((((wr.setCell ⟨w.heap.size, 0, none⟩ (.int .u64 d0)).setCell ⟨w.heap.size, 1, none⟩ (.int .u64 d1)).setCell ⟨w.heap.size, 2, none⟩ (.int .u64 d2)).setCell ⟨w.heap.size, 3, none⟩ (.int .u64 d3)) := by
  have hs : ∀ {X : World} {n : Nat} {xs : List Value} {v : Value} (o : Nat) (u : Value), X.ownsRow (w.heap.size + 1) 40 2 v n xs → (X.setCell ⟨w.heap.size, o, none⟩ u).ownsRow (w.heap.size + 1) 40 2 v n xs := by
    intro X n xs v o u h
    refine ⟨h.1, ?_⟩
    rcases h.2 with h2 | ⟨b, cap, cur, rfl, hb', hh, r⟩
    · exact .inl h2
    · exact .inr ⟨b, cap, cur, rfl, hb', (Below.heap_setCell _ _ _ _ (by show b ≠ w.heap.size; omega)).trans hh, r⟩
  exact ⟨Joins.block_setCell (Joins.block_setCell (Joins.block_setCell (Joins.block_setCell h.1 _) _) _) _, hs _ _ (hs _ _ (hs _ _ (hs _ _ h.2.1))), below_set4 h.2.2.1 (Nat.le_refl _) _ _ _ _, by rw [size_set, size_set, size_set, size_set]; exact h.2.2.2⟩
/-- What is known of the current set: f's bytes from H on. -/
def Cur (f : Nat → Bool) (H : Nat) (c0 c1 c2 c3 : Int) : Prop := Fit c0 ∧ Fit c1 ∧ Fit c2 ∧ Fit c3 ∧ ∀ n, n < 256 → memb c0 c1 c2 c3 n = (f n && decide (H ≤ n))
theorem Cur.next {f : Nat → Bool} {H lo hi : Nat} {c0 c1 c2 c3 : Int} (h : Cur f H c0 c1 c2 c3) (hhi : hi < 256) (hno : ∀ n, H ≤ n → n < lo → f n = false) (hH : H ≤ lo) (hle : lo ≤ hi) : Cur f (hi + 1) (an c0 (nt (rgw lo hi 0))) (an c1 (nt (rgw lo hi 1))) (an c2 (nt (rgw lo hi 2))) (an c3 (nt (rgw lo hi 3))) := by
  refine ⟨an_fit _ _, an_fit _ _, an_fit _ _, an_fit _ _, fun n hn => ?_⟩
  rw [memb_an, memb_nt, memb_rgw lo hi n hhi hn, h.2.2.2.2 n hn]
  by_cases c1 : H ≤ n
  · by_cases c2 : n < lo
    · rw [hno n c1 c2]; simp
    · by_cases c3 : n ≤ hi
      · have c4 : lo ≤ n := by omega
        have c5 : ¬ hi + 1 ≤ n := by omega
        simp [c3, c4, c5]
      · have c5 : hi + 1 ≤ n := by omega
        simp [c1, c3, c5]
  · have c5 : ¬ hi + 1 ≤ n := by omega
    simp [c1, c5]
def rngTold (lo hi : Nat) (c0 c1 c2 c3 : Int) : Nat → Reg.Told
  | 0 => .inl (.agg #[.int .u64 c0, .int .u64 c1, .int .u64 c2, .int .u64 c3])
  | 1 => .inl (.int .u8 ((lo : Int)))
  | 2 => .inl (.int .u8 ((hi : Int)))
  | 3 => .inl (.agg #[.int .u64 (rgw lo hi 0), .int .u64 (rgw lo hi 1), .int .u64 (rgw lo hi 2), .int .u64 (rgw lo hi 3)])
  | 4 => .inl (.agg #[.int .u64 (an c0 (nt (rgw lo hi 0))), .int .u64 (an c1 (nt (rgw lo hi 1))), .int .u64 (an c2 (nt (rgw lo hi 2))), .int .u64 (an c3 (nt (rgw lo hi 3)))])
  | _ => .inl undef
/-- The relation at the head of the loop. -/
def RR (w : World) (f : Nat → Bool) (vl vlo vok : Value) (wr : World) : Prop :=
  ∃ rs H c0 c1 c2 c3, FirstIs (memb c0 c1 c2 c3) (.tuple #[vlo, vok]) ∧ RsOK f rs H ∧ Cur f H c0 c1 c2 c3 ∧ GR w rs c0 c1 c2 c3 vl wr
set_option maxRecDepth 100000 in
set_option maxHeartbeats 8000000 in
theorem ranges_any (a b c d : Int) (w : World) (fa : Fit a) (fb : Fit b) (fc : Fit c) (fd : Fit d) (hT : Tab w) :
    Calls Tryd.prog 17 #[.agg #[.int .u64 a, .int .u64 b, .int .u64 c, .int .u64 d]] w fun e w' => ∃ rs v, e = .returned v ∧ Rise rs ∧ rs.length ≤ 256 ∧ (∀ n, n < 256 → inRs rs n = memb a b c d n) ∧ w'.ownsRow (w.heap.size + 1) 40 2 v rs.length (pairVals rs) ∧ Below w.heap.size w w' := by
  obtain ⟨i0, hif, hz0, hz1, hz2⟩ := info_parts Tryd.infoPair
  have HT := hid hT
  clear hT
  go_enter Tryd.func17, Tryd.ntmps17
  go_wp2_with fail
  have hG : GR w [] a b c d (.slice none 0 0) (w.alloc (.cells #[.int .u64 a, .int .u64 b, .int .u64 c, .int .u64 d] 27)) := ⟨heap_new _ _, World.ownsRow_nil _ _ _ _, below1 _ _, by simp⟩
  have hC : Cur (memb a b c d) 0 a b c d := ⟨fa, fb, fc, fd, fun n _ => by simp⟩
  generalize w.alloc (.cells #[.int .u64 a, .int .u64 b, .int .u64 c, .int .u64 d] 27) = W at *
  have HG := hid hG
  have HC := hid hC
  clear hG hC
  refine (first_any a b c d _ fa fb fc fd (HT.out.up HG.out.2.2.1)).mono ?_
  rintro e w1 ⟨v, rfl, hv, hb1⟩
  have HV := hid hv
  have HG1 := hid (HG.out.up hb1)
  clear hb1 HG
  have hvv : v = .tuple #[.int .u8 0, .bool false] ∨ ∃ n : Nat, n < 256 ∧ v = .tuple #[.int .u8 n, .bool true] := by
    rcases hv with ⟨_, hv⟩ | ⟨n, hn, _, _, hv⟩
    · exact .inl hv
    · exact .inr ⟨n, hn, hv⟩
  clear hv
  rcases hvv with hv | ⟨nf, hnf, hv⟩
  all_goals
    subst hv
    go_wp2_with fail
    go_loopw [3, 4, 5] (fun vl vlo vok wr => RR w (memb a b c d) vl vlo vok wr) (fun vl _ _ _ => 257 - lenOf vl)
    case atStart => exact ⟨[], 0, a, b, c, d, HV.out, rsOK_nil _, HC.out, HG1.out⟩
    case round =>
      clear HV HC HG1
      obtain ⟨rs, H, c0, c1, c2, c3, hF, hR, hC, hG⟩ := hrel
      have HR := hid hR
      have HC := hid hC
      have HG := hid hG
      have hl := len_own hG.2.1
      have HL := hid hl
      have hlen := hR.2.1
      have hH := hR.2.2.1
      clear hR hC hG hl
      rcases hF with ⟨hno, hv⟩ | ⟨lo, hlo, hf, hlow, hv⟩
      · have h2 : u4 = .int .u8 0 ∧ u5 = .bool false := by simpa using hv
        obtain ⟨rfl, rfl⟩ := h2
        clear hv
        have HF : Hid (∀ n, n < 256 → inRs rs n = memb a b c d n) := fun n hn => by
          have h1 := HC.out.2.2.2.2 n hn
          rw [hno n hn] at h1
          rw [HR.out.2.2.2.2 n hn]
          by_cases c1 : n < H
          · simp [c1]
          · have c2 : H ≤ n := by omega
            simp [c2] at h1
            simp [h1]
        clear hno
        go_wp2_with fail
        go_ret
        exact ⟨rs, u3, rfl, HR.out.1, by omega, HF.out, HG.out.2.1, HG.out.2.2.1⟩
      · have h2 : u4 = .int .u8 lo ∧ u5 = .bool true := by simpa using hv
        obtain ⟨rfl, rfl⟩ := h2
        clear hv
        have h3 := HC.out.2.2.2.2 lo hlo
        rw [hf] at h3
        have h4 : memb a b c d lo = true ∧ H ≤ lo := by simpa using h3.symm
        obtain ⟨hfl, hHl⟩ := h4
        have hno : ∀ n, H ≤ n → n < lo → memb a b c d n = false := fun n h5 h6 => by
          have h7 := HC.out.2.2.2.2 n (by omega)
          rw [hlow n h6] at h7
          simpa [h5] using h7.symm
        obtain ⟨hi, hle, hhi, hall, hmax⟩ := top_of (memb a b c d) lo hlo hfl
        have HRn := hid (rsOK_snoc HR.out hHl hfl hlo hle hhi hno hall hmax)
        have HCn := hid (HC.out.next hhi hno hHl hle)
        have HALL : Hid (∀ n, lo ≤ n → n ≤ hi → memb c0 c1 c2 c3 n = true) := fun n h5 h6 => by
          rw [HC.out.2.2.2.2 n (by omega), hall n h5 h6]; simp; omega
        have HMAX : Hid (hi = 255 ∨ memb c0 c1 c2 c3 (hi + 1) = false) := by
          rcases hmax with h | h
          · exact .inl h
          · by_cases h9 : hi = 255
            · exact .inl h9
            · exact .inr (by rw [HC.out.2.2.2.2 _ (by omega), h]; simp)
        have hh := HG.out.held
        obtain ⟨⟨q0, q1, q2, q3⟩, hgl, _⟩ := hh
        have HTr := hid (HT.out.up HG.out.2.2.1)
        clear h3 hno hall hmax hf hlow hfl
        go_wp2_with fail
        refine (end_any hle hhi HALL.out HMAX.out HTr.out).mono ?_
        rintro e w2 ⟨rfl, hb2⟩
        have HG2 := hid (HG.out.up hb2)
        have hs2 := hb2.size
        have hs3 := HG.out.2.2.2
        have hs4 : w.heap.size + 1 ≤ w2.heap.size := by omega
        clear hb2 q0 q1 q2 q3 hgl
        go_wp2_with (at_builtin; go_must (refine wpList_append_own_at _ rfl (.tmp 21) (.tmp 25) 37 rfl (w.heap.size + 1) 40 i0 (.agg #[.int .u8 0, .int .u8 0]) 2 2 Tryd.underlying37 hif hz0 hz1 hz2 rfl (by decide) _ _ _ rfl (ownsAlloc HG2.out.2.1 _) ⟨_, 0, none⟩ 1 1 _ rfl rfl (cell_two_new _ _ _ _) (two_u8 _ _) (by unfold maxLen; omega) (by omega) (by simp; omega) ?_); intro v1 w1a ho hgr _ hat; have HG3 := hid (HG2.out.add ho hgr); have HLn := hid (len_own ho); clear ho hgr hat)
        have HW := heldS_below (Below.refl _ w1a).drew HG3.out.held
        have hs5 := HG3.out.2.2.2
        refine Reg.wp_region_toldY 5 _ (rngTold lo hi c0 c1 c2 c3) [0, 1, 2, 3, 4, 5] (by kernel_rfl) (by rfl) (by rfl) (by kernel_rfl) (by kernel_rfl) (by kernel_rfl) ?_ ?_
        focus
          refine ⟨Reg.opOK_plain (by rfl) fun G listed A wv hI hall => .inl ⟨Reg.wanted_none rfl, ?_⟩, ?_⟩
          focus
            have H := heldS_below hI.base HW
            have e1 := hI.evo (d := 1) (by kernel_rfl) rfl
            clear hI hall HW
            unfold Reg.Yields
            go_simp
            exact Reg.good_val (by rfl) (by rfl) (Below.refl _ _)
          refine ⟨Reg.opOK_plain (by rfl) fun G listed A wv hI hall => .inl ⟨Reg.wanted_none rfl, ?_⟩, ?_⟩
          focus
            have e4 := hI.evo (d := 4) (by kernel_rfl) rfl
            clear hI hall HW
            unfold Reg.Yields
            go_simp
            exact Reg.good_val (by rfl) (by rfl) (Below.refl _ _)
          refine ⟨Reg.opOK_plain (by rfl) fun G listed A wv hI hall => .inl ⟨Reg.wanted_none rfl, ?_⟩, ?_⟩
          focus
            have e6 := hI.evo (d := 6) (by kernel_rfl) rfl
            clear hI hall HW
            unfold Reg.Yields
            go_simp
            exact Reg.good_val (by rfl) (by rfl) (Below.refl _ _)
          refine ⟨Reg.opOK_plain (by rfl) fun G listed A wv hI hall => .inl ⟨Reg.wanted_none rfl, ?_⟩, ?_⟩
          focus
            have e28 := hI.ev (i := 1) (d := 28) (by rfl) (by rfl) (hall ⟨1, .data⟩ (by simp) rfl)
            have e29 := hI.ev (i := 2) (d := 29) (by rfl) (by rfl) (hall ⟨2, .data⟩ (by simp) rfl)
            clear hI hall HW
            unfold Reg.Yields
            go_simp
            exact (range_any lo hi hlo hhi _).mono fun e w'' ⟨he, hb⟩ => ⟨_, he, Reg.good_val (by rfl) (by rfl) hb⟩
          refine ⟨Reg.opOK_plain (by rfl) fun G listed A wv hI hall => .inl ⟨Reg.wanted_none rfl, ?_⟩, ?_⟩
          focus
            have e27 := hI.ev (i := 0) (d := 27) (by rfl) (by rfl) (hall ⟨0, .data⟩ (by simp) rfl)
            have e30 := hI.ev (i := 3) (d := 30) (by rfl) (by rfl) (hall ⟨3, .data⟩ (by simp) rfl)
            clear hI hall HW
            unfold Reg.Yields
            go_simp
            exact (minus_any _ _ _ _ _ _ _ _ _).mono fun e w'' ⟨he, hb⟩ => ⟨_, he, Reg.good_val (by rfl) (by rfl) hb⟩
          trivial
        intro G w4 hI
        have Hh := heldS_below hI.base HW
        have hu : w4.heap[w.heap.size]? = some (.cells #[.int .u64 c0, .int .u64 c1, .int .u64 c2, .int .u64 c3] 27) := (hI.base.block _ (sizeOfGet HG3.out.1)).trans HG3.out.1
        have HG4 := hid (HG3.out.up (Below.trans (Below.refl _ w1a).drew hI.base))
        have z0 := Joins.unfrozen_of_block hu 0
        have z1 := Joins.unfrozen_of_block hu 1
        have z2 := Joins.unfrozen_of_block hu 2
        have z3 := Joins.unfrozen_of_block hu 3
        obtain ⟨⟨q0, q1, q2, q3⟩, hgl, _⟩ := Hh
        clear hI HW hu
        refine ⟨by unfold Region.wanted; rfl, ?_⟩
        simp [Reg.finalTmps, Reg.dstAt, Reg.valOf, rngTold]
        unfold Reg.Yields
        go_simp
        have HG5 := hid (HG4.out.store (d0 := an c0 (nt (rgw lo hi 0))) (d1 := an c1 (nt (rgw lo hi 1))) (d2 := an c2 (nt (rgw lo hi 2))) (d3 := an c3 (nt (rgw lo hi 3))))
        obtain ⟨W5, hW5⟩ : ∃ W5, W5 = ((((w4.setCell ⟨w.heap.size, 0, none⟩ (.int .u64 (an c0 (nt (rgw lo hi 0))))).setCell ⟨w.heap.size, 1, none⟩ (.int .u64 (an c1 (nt (rgw lo hi 1))))).setCell ⟨w.heap.size, 2, none⟩ (.int .u64 (an c2 (nt (rgw lo hi 2))))).setCell ⟨w.heap.size, 3, none⟩ (.int .u64 (an c3 (nt (rgw lo hi 3))))) := ⟨_, rfl⟩
        rw [← hW5] at HG5 ⊢
        clear hW5 z0 z1 z2 z3 q0 q1 q2 q3 hgl HG4 HG3 HG2 HG
        obtain ⟨⟨q0, q1, q2, q3⟩, hgl, _⟩ := HG5.out.held
        go_wp2_with fail
        refine (first_any _ _ _ _ _ HCn.out.1 HCn.out.2.1 HCn.out.2.2.1 HCn.out.2.2.2.1 (HT.out.up HG5.out.2.2.1)).mono ?_
        rintro e w6 ⟨v, rfl, hv, hb6⟩
        have HV6 := hid hv
        have HG6 := hid (HG5.out.up hb6)
        clear hb6 HG5 q0 q1 q2 q3 hgl
        have hvv : v = .tuple #[.int .u8 0, .bool false] ∨ ∃ n : Nat, n < 256 ∧ v = .tuple #[.int .u8 n, .bool true] := by
          rcases hv with ⟨_, hv⟩ | ⟨n, hn, _, _, hv⟩
          · exact .inl hv
          · exact .inr ⟨n, hn, hv⟩
        clear hv
        rcases hvv with hv | ⟨nf2, hnf2, hv⟩
        all_goals
          subst hv
          go_wp2_with fail
          exact ⟨⟨_, _, _, _, _, _, HV6.out, HRn.out, HCn.out, HG6.out⟩, by rw [HLn.out, HL.out]; omega⟩
end Go.Proofs.YtcpdobldconnaaaDoor
