/- Contracts of the document's own answers on sets, continued: Make. -/
import Derived.Test.YtcicdiooifjcbaaDoorRefB
namespace Go.Proofs.YtcicdiooifjcbaaDoor
open Go Go.RowKit
attribute [local go_sem ↓] Go.wp_at_zero Go.wp_at_succ
attribute [local go_sem] eq4
/-- The word in which bit k alone is set. -/
def bitn (k : Nat) : Int := IntKind.u64.wrap (2 ^ (k % 64))
theorem bitn_eq (k : Nat) : bitn k = ((1#64 <<< (k % 64)).toNat : Int) := by
  unfold bitn
  have h : k % 64 < 64 := by omega
  have e : ((2 : Int) ^ (k % 64)) = ((2 ^ (k % 64) : Nat) : Int) := by simp
  have l : 2 ^ (k % 64) < 18446744073709551616 := Nat.lt_of_lt_of_le (Nat.pow_lt_pow_right (by decide) h) (by decide)
  rw [e, Pop.wrap64u _ l, BitVec.toNat_shiftLeft, Nat.shiftLeft_eq]
  simp only [BitVec.toNat_ofNat]
  omega
theorem V_bitn (k i : Nat) (hi : i < 64) : (V (bitn k)).getLsbD i = decide (i = k % 64) := by
  rw [bitn_eq, V_nat]
  simp only [BitVec.getLsbD_shiftLeft, BitVec.getLsbD_one]
  by_cases h : i = k % 64
  · subst h; simp [hi]
  · by_cases h2 : i < k % 64
    · simp [h2, h]
    · have : ¬ i - k % 64 = 0 := by omega
      simp [h, this]
theorem orr_bit (r : Int) (k i : Nat) (hi : i < 64) : (V (orr r (bitn k))).getLsbD i = ((V r).getLsbD i || decide (i = k % 64)) := by
  rw [V_orr, BitVec.getLsbD_or, V_bitn k i hi]
theorem memb_up (r0 r1 r2 r3 : Int) (k n : Nat) (hk : k < 256) (hn : n < 256) :
    (k / 64 = 0 → memb (orr r0 (bitn k)) r1 r2 r3 n = (memb r0 r1 r2 r3 n || decide (n = k))) ∧
    (k / 64 = 1 → memb r0 (orr r1 (bitn k)) r2 r3 n = (memb r0 r1 r2 r3 n || decide (n = k))) ∧
    (k / 64 = 2 → memb r0 r1 (orr r2 (bitn k)) r3 n = (memb r0 r1 r2 r3 n || decide (n = k))) ∧
    (k / 64 = 3 → memb r0 r1 r2 (orr r3 (bitn k)) n = (memb r0 r1 r2 r3 n || decide (n = k))) := by
  have hm : n % 64 < 64 := by omega
  have key : ∀ j, k / 64 = j → (n / 64 = j → decide (n % 64 = k % 64) = decide (n = k)) ∧ (n / 64 ≠ j → decide (n = k) = false) := by
    intro j hj
    refine ⟨fun h => ?_, fun h => ?_⟩
    · by_cases e : n = k
      · subst e; simp
      · have : ¬ n % 64 = k % 64 := by omega
        simp [e, this]
    · have : ¬ n = k := by intro e; subst e; exact h hj
      simp [this]
  unfold memb
  refine ⟨fun h => ?_, fun h => ?_, fun h => ?_, fun h => ?_⟩
  all_goals
    obtain ⟨k1, k2⟩ := key _ h
    have hq : n / 64 = 0 ∨ n / 64 = 1 ∨ n / 64 = 2 ∨ n / 64 = 3 := by omega
    rcases hq with hq | hq | hq | hq
    all_goals
      simp only [hq] at k1 k2 ⊢
      simp [orr_bit _ k _ hm] at k1 k2 ⊢
      first | (rw [k2]; simp) | (rw [k1]) | simp [k1] | simp [k2]
/-- A set that has of the first 256 bytes just those of f. -/
def IsMade (w : World) (f : Nat → Bool) (e : Ending) (w' : World) : Prop :=
  ∃ r0 r1 r2 r3, e = .returned (.agg #[.int .u64 r0, .int .u64 r1, .int .u64 r2, .int .u64 r3]) ∧ Fit r0 ∧ Fit r1 ∧ Fit r2 ∧ Fit r3 ∧ (∀ n, n < 256 → memb r0 r1 r2 r3 n = f n) ∧ Below w.heap.size w w'
/-- What holds at the head of round k of Make. -/
def MRel (w : World) (f : Nat → Bool) (k : Nat) (wr : World) : Prop :=
  ∃ r0 r1 r2 r3, Fit r0 ∧ Fit r1 ∧ Fit r2 ∧ Fit r3 ∧ (∀ n, n < 256 → memb r0 r1 r2 r3 n = (decide (n < k) && f n)) ∧
    wr.heap[w.heap.size + 1]? = some (.cells #[.int .u64 r0, .int .u64 r1, .int .u64 r2, .int .u64 r3] 32) ∧ wr.heap[w.heap.size]? = some (.cells #[.int .u64 0, .int .u64 0, .int .u64 0, .int .u64 0] 32) ∧ Below w.heap.size w wr
theorem memb_zero (n : Nat) : memb 0 0 0 0 n = false := by
  unfold memb; simp [V0]
theorem bound_lt (k : Nat) (_ : k < 256) : ((k : Int) / 64) = ((k / 64 : Nat) : Int) := by omega
theorem upto_step (f : Nat → Bool) (n k : Nat) (hf : f k = true) : (decide (n < k) && f n || decide (n = k)) = (decide (n < k + 1) && f n) := by
  by_cases e : n = k
  · subst e; simp [hf]
  · have : decide (n < k + 1) = decide (n < k) := by
      by_cases h : n < k
      · simp [h]; omega
      · simp [h]; omega
    rw [this]; simp [e]
set_option maxRecDepth 100000 in
set_option maxHeartbeats 4000000 in
theorem make_any (g cap : Nat) (f : Nat → Bool) (w : World) (hg : g < w.heap.size) (hc : ∀ j, j < 256 → w.cell? ⟨g, j, none⟩ = some (.bool (f j))) :
    Calls Tryd.prog 21 #[.slice (some ⟨g, 0, none⟩) 256 cap] w (IsMade w f) := by
  have HC := hid hc
  clear hc
  go_enter Tryd.func21, Tryd.ntmps21
  go_wp2_with fail
  go_loopw [4] (fun i wr => ∃ k : Nat, k ≤ 256 ∧ i = .int .i64 k ∧ MRel w f k wr) (fun i _ => 256 - (intOf i).toNat)
  case atStart =>
    refine ⟨0, by omega, rfl, 0, 0, 0, 0, fit0, fit0, fit0, fit0, fun n _ => by rw [memb_zero]; simp, ?_, ?_, below2 _ _ _⟩
    · have h := heap_new (w.alloc (.cells #[.int .u64 0, .int .u64 0, .int .u64 0, .int .u64 0] 32)) (.cells #[.int .u64 0, .int .u64 0, .int .u64 0, .int .u64 0] 32)
      rw [World.size_alloc] at h
      exact h
    · exact ((below1 (w.alloc _) _).block w.heap.size (by simp)).trans (heap_new w _)
  case round =>
    obtain ⟨k, hk, rfl, r0, r1, r2, r3, z0, z1, z2, z3, hm, h1, h0, hb⟩ := hrel
    have HM := hid hm
    clear hm
    by_cases hlt : k < 256
    · have hcell := (hb.cell (p := ⟨g, k, none⟩) hg).trans (HC.out k hlt)
      have HB := hid hb
      have H1 := hid h1
      have H0 := hid h0
      obtain ⟨c0, c1, c2, c3, f0, f1, f2, f3⟩ := Reg.cells4 h1
      clear hb h1 h0
      have hkq := bound_lt k hlt
      cases hf : f k with
      | false =>
        rw [hf] at hcell
        have HF := hid hf
        clear hf
        go_wp2
        go_roundw
        case rel =>
          refine ⟨k + 1, by omega, by go_num, r0, r1, r2, r3, z0, z1, z2, z3, fun n hn => ?_, H1.out, H0.out, HB.out⟩
          rw [HM.out n hn]
          by_cases e : n = k
          · subst e; simp [HF.out]
          · have : decide (n < k + 1) = decide (n < k) := by
              by_cases h : n < k
              · simp [h]; omega
              · simp [h]; omega
            rw [this]
        case measure => simp [intOf]; omega
      | true =>
        rw [hf] at hcell
        have HF := hid hf
        clear hf
        have hq : k / 64 = 0 ∨ k / 64 = 1 ∨ k / 64 = 2 ∨ k / 64 = 3 := by omega
        rcases hq with hq | hq | hq | hq
        · rw [hq] at hkq
          have HQ := hid hq
          clear hq
          go_wp2
          go_region
          go_wp2
          go_roundw
          case rel =>
            refine ⟨k + 1, by omega, by go_num, orr r0 (bitn k), r1, r2, r3, orr_fit _ _, z1, z2, z3, fun n hn => ?_, ?_, ?_, (HB.out.setCell (by simp) _).drew⟩
            · rw [(memb_up r0 r1 r2 r3 k n hlt hn).1 HQ.out, HM.out n hn]
              exact upto_step _ n k HF.out
            · exact Joins.block_setCell H1.out _
            · exact (Below.heap_setCell _ _ _ _ (by simp)).trans H0.out
          case measure => simp [intOf]; omega
        · rw [hq] at hkq
          have HQ := hid hq
          clear hq
          go_wp2
          go_region
          go_wp2
          go_roundw
          case rel =>
            refine ⟨k + 1, by omega, by go_num, r0, orr r1 (bitn k), r2, r3, z0, orr_fit _ _, z2, z3, fun n hn => ?_, ?_, ?_, (HB.out.setCell (by simp) _).drew⟩
            · rw [(memb_up r0 r1 r2 r3 k n hlt hn).2.1 HQ.out, HM.out n hn]
              exact upto_step _ n k HF.out
            · exact Joins.block_setCell H1.out _
            · exact (Below.heap_setCell _ _ _ _ (by simp)).trans H0.out
          case measure => simp [intOf]; omega
        · rw [hq] at hkq
          have HQ := hid hq
          clear hq
          go_wp2
          go_region
          go_wp2
          go_roundw
          case rel =>
            refine ⟨k + 1, by omega, by go_num, r0, r1, orr r2 (bitn k), r3, z0, z1, orr_fit _ _, z3, fun n hn => ?_, ?_, ?_, (HB.out.setCell (by simp) _).drew⟩
            · rw [(memb_up r0 r1 r2 r3 k n hlt hn).2.2.1 HQ.out, HM.out n hn]
              exact upto_step _ n k HF.out
            · exact Joins.block_setCell H1.out _
            · exact (Below.heap_setCell _ _ _ _ (by simp)).trans H0.out
          case measure => simp [intOf]; omega
        · rw [hq] at hkq
          have HQ := hid hq
          clear hq
          go_wp2
          go_region
          go_wp2
          go_roundw
          case rel =>
            refine ⟨k + 1, by omega, by go_num, r0, r1, r2, orr r3 (bitn k), z0, z1, z2, orr_fit _ _, fun n hn => ?_, ?_, ?_, (HB.out.setCell (by simp) _).drew⟩
            · rw [(memb_up r0 r1 r2 r3 k n hlt hn).2.2.2 HQ.out, HM.out n hn]
              exact upto_step _ n k HF.out
            · exact Joins.block_setCell H1.out _
            · exact (Below.heap_setCell _ _ _ _ (by simp)).trans H0.out
          case measure => simp [intOf]; omega
    · have e : k = 256 := by omega
      subst e
      have HB := hid hb
      have H1 := hid h1
      have H0 := hid h0
      obtain ⟨c0, c1, c2, c3, _, _, _, _⟩ := Reg.cells4 h1
      obtain ⟨d0, d1, d2, d3, e0, e1, e2, e3⟩ := Reg.cells4 h0
      clear hb h1 h0
      go_wp2
      refine bodyPost_ret (v := .agg #[.int .u64 r0, .int .u64 r1, .int .u64 r2, .int .u64 r3]) (by simp [results, Tryd.results21, go_sem, d0, d1, d2, d3]) rfl ⟨r0, r1, r2, r3, rfl, z0, z1, z2, z3, fun n hn => ?_, below_set4 HB.out (Nat.le_refl _) _ _ _ _⟩
      rw [HM.out n hn]
      simp [hn]
end Go.Proofs.YtcicdiooifjcbaaDoor
