/- Rows of numbers, and the contract of Dot. -/
import Derived.Test.YtcpdobldconnaaaNatB
import Derived.Test.YtcpdobldconnaaaOpenInts
namespace Go.Proofs.Ytcpdobldconnaaa
open Go Go.RowKit
/-- A row of n numbers that begins at p. -/
def RowAt (W : World) (p : Option Addr) (n : Nat) (z : Nat → Int) : Prop :=
  n ≤ 9223372036854775807 ∧ (n = 0 ∨ ∃ g o, p = some ⟨g, o, none⟩ ∧ g < W.heap.size ∧ ∀ j, j < n → W.cell? ⟨g, o + j, none⟩ = some (.int .i64 (z j)) ∧ z j ≤ top)
/-- A list of n rows that begins at p. -/
def RowsAt (W : World) (p : Option Addr) (n : Nat) (A : Nat → Option Addr) (L C : Nat → Nat) (Z : Nat → Nat → Int) : Prop :=
  n ≤ 9223372036854775807 ∧ (n = 0 ∨ ∃ g o, p = some ⟨g, o, none⟩ ∧ g < W.heap.size ∧ ∀ r, r < n → W.cell? ⟨g, o + r, none⟩ = some (.slice (A r) (L r) (C r)) ∧ RowAt W (A r) (L r) (Z r))
theorem RowAt.drewN {W : World} {p : Option Addr} {n : Nat} {z : Nat → Int} (h : RowAt W p n z) (k : Nat) : RowAt (W.drewN k) p n z := h
theorem RowAt.below {B : Nat} {W W1 : World} {p : Option Addr} {n : Nat} {z : Nat → Int} (h : RowAt W p n z) (hb : Below B W W1) (hB : W.heap.size ≤ B) : RowAt W1 p n z := by
  refine ⟨h.1, h.2.imp_right fun ⟨g, o, hp, hg, hc⟩ => ⟨g, o, hp, Nat.lt_of_lt_of_le hg hb.size, fun j hj => ⟨(hb.cell (p := ⟨g, o + j, none⟩) (by show g < B; omega)).trans (hc j hj).1, (hc j hj).2⟩⟩⟩
theorem RowsAt.below {B : Nat} {W W1 : World} {p : Option Addr} {n : Nat} {A : Nat → Option Addr} {L C : Nat → Nat} {Z : Nat → Nat → Int} (h : RowsAt W p n A L C Z) (hb : Below B W W1) (hB : W.heap.size ≤ B) : RowsAt W1 p n A L C Z := by
  refine ⟨h.1, h.2.imp_right fun ⟨g, o, hp, hg, hc⟩ => ⟨g, o, hp, Nat.lt_of_lt_of_le hg hb.size, fun j hj => ⟨(hb.cell (p := ⟨g, o + j, none⟩) (by show g < B; omega)).trans (hc j hj).1, (hc j hj).2.below hb hB⟩⟩⟩
theorem times_q (a b : Int) (w : World) (ha : a ≤ top) (hb : b ≤ top) :
    Calls Try.prog 47 #[.int .i64 a, .int .i64 b] w fun e w' => e = .returned (.int .i64 (ti a b)) ∧ w' = w := (times_any a b w ha hb).mono fun _ _ ⟨he, hw⟩ => ⟨he, hw.symm⟩
/-- The sum of the first k products. -/
def dotf (x y : Nat → Int) : Nat → Int
  | 0 => 0
  | k + 1 => pl (dotf x y k) (ti (x k) (y k))
theorem dotf_le (x y : Nat → Int) (k : Nat) : dotf x y k ≤ top := by
  cases k with
  | zero => simp [dotf, top]
  | succ k => exact pl_le _ _
theorem drewN_more {w wr : World} (h : ∃ j, wr = w.drewN j) (n : Nat) : ∃ j, wr.drewN n = w.drewN j := by
  obtain ⟨j, rfl⟩ := h
  exact ⟨j + n, by simp [World.drewN_drewN]⟩
theorem drewN_drewN' (w : World) (a b : Nat) : ∃ c, (w.drewN a).drewN b = w.drewN c := ⟨a + b, by simp [World.drewN]; try omega⟩
set_option maxHeartbeats 1000000 in
theorem dot_any (p q : Option Addr) (n m c c' : Nat) (x y : Nat → Int) (w : World) (hx : RowAt w p n x) (hy : RowAt w q m y) :
    Calls Try.prog 36 #[.slice p n c, .slice q m c'] w fun e w' => e = .returned (.int .i64 (dotf x y (min n m))) ∧ ∃ k, w' = w.drewN k := by
  obtain ⟨hn, hx⟩ := hx
  obtain ⟨hm, hy⟩ := hy
  have HX := nhid hx
  have HY := nhid hy
  clear hx hy
  obtain ⟨N, hN⟩ : ∃ N, min n m = N := ⟨_, rfl⟩
  have hNn : N ≤ n := by omega
  have hNm : N ≤ m := by omega
  rw [hN]
  have hc : (m < n ∧ N = m) ∨ (¬ m < n ∧ N = n) := by omega
  clear hN
  rcases hc with ⟨hc, hN⟩ | ⟨hc, hN⟩
  all_goals
    have HN := nhid hN
    clear hN
    go_enter Try.func36, Try.ntmps36
    go_wp2_with fail
    go_loopw [5, 12] (fun t i wr => ∃ k : Nat, k ≤ N ∧ i = .int .i64 k ∧ t = .int .i64 (dotf x y k) ∧ ∃ j, wr = w.drewN j) (fun _ i _ => N - (intOf i).toNat)
    case atStart => exact ⟨0, by omega, rfl, rfl, 0, rfl⟩
    case round =>
      obtain ⟨k, hk, rfl, rfl, hw⟩ := hrel
      have HW := nhid hw
      clear hw
      by_cases hlt : k < N
      · obtain ⟨g, o, rfl, _, hx⟩ := HX.out.resolve_left (by omega)
        obtain ⟨g2, o2, rfl, _, hy⟩ := HY.out.resolve_left (by omega)
        have hcx : wr.cell? ⟨g, o + k, none⟩ = some (.int .i64 (x k)) := by obtain ⟨j, hj⟩ := HW.out; rw [hj]; exact (hx k (by omega)).1
        have hcy : wr.cell? ⟨g2, o2 + k, none⟩ = some (.int .i64 (y k)) := by obtain ⟨j, hj⟩ := HW.out; rw [hj]; exact (hy k (by omega)).1
        have TX := nhid (hx k (by omega)).2
        have TY := nhid (hy k (by omega)).2
        have hkn : (k : Int) < n := by omega
        have hkm : (k : Int) < m := by omega
        have k0 : (0 : Int) ≤ (k : Int) := by omega
        clear hx hy HX HY
        go_wp2_with fail
        go_quiet ((first
          | (go_at_call 47; exact Calls.quiet_of_same (times_q _ _ _ TX.out TY.out))
          | (go_at_call 46; exact Calls.quiet_of_same (plus_any _ _ _ (dotf_le x y k) (ti_le _ _)))))
        go_wp2
        exact ⟨⟨k + 1, by omega, by go_num, rfl, drewN_more HW.out nq⟩, by simp [intOf]; omega⟩
      · have e1 : k = N := by omega
        have e2 := HN.out
        subst e1
        subst e2
        go_wp2
        go_ret
        exact ⟨rfl, HW.out⟩
end Go.Proofs.Ytcpdobldconnaaa
