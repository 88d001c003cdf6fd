/- The end of a range, told of its bytes; ranges as a list: plain mathematics. -/
import Derived.Test.YtcpdobldconnaaaDoorRangesA
namespace Go.Proofs.YtcpdobldconnaaaDoor
open Go Go.RowKit
theorem end_any {a b c d : Int} {lo hi : Nat} {w : World} (hlo : lo ≤ hi) (hhi : hi < 256) (hall : ∀ n, lo ≤ n → n ≤ hi → memb a b c d n = true) (hmax : hi = 255 ∨ memb a b c d (hi + 1) = false) (hT : Tab w) :
    Calls Tryd.prog 41 #[.agg #[.int .u64 a, .int .u64 b, .int .u64 c, .int .u64 d], .int .u8 lo] w fun e w' => e = .returned (.int .u8 (hi : Int)) ∧ Below w.heap.size w w' := by
  have hm : ∀ n, n < 256 → memb (an (frw lo 0) (nt a)) (an (frw lo 1) (nt b)) (an (frw lo 2) (nt c)) (an (frw lo 3) (nt d)) n = (decide (lo ≤ n) && !memb a b c d n) := fun n hn => by rw [memb_an, memb_nt, memb_frw lo n hn]
  by_cases h : hi = 255
  · refine end_at lo a b c d 0 false hi w (by omega) hT (.inl ⟨fun n hn => ?_, rfl⟩) (.inl ⟨rfl, by omega⟩)
    rw [hm n hn]
    by_cases h1 : lo ≤ n
    · rw [hall n h1 (by omega)]; simp
    · simp [h1]
  · have hf := hmax.resolve_left h
    refine end_at lo a b c d ((hi + 1 : Nat) : Int) true hi w (by omega) hT (.inr ⟨hi + 1, by omega, ?_, fun i hi' => ?_, rfl⟩) (.inr ⟨rfl, by omega, by omega, by omega⟩)
    · rw [hm _ (by omega), hf]; simp; omega
    · rw [hm i (by omega)]
      by_cases h1 : lo ≤ i
      · rw [hall i h1 (by omega)]; simp
      · simp [h1]
theorem top_of (f : Nat → Bool) (lo : Nat) (hl : lo < 256) (h : f lo = true) : ∃ hi, lo ≤ hi ∧ hi < 256 ∧ (∀ n, lo ≤ n → n ≤ hi → f n = true) ∧ (hi = 255 ∨ f (hi + 1) = false) := by
  rcases least_of (fun n => decide (lo ≤ n) && !f n) 256 with h0 | ⟨m, hm, h1, h2⟩
  · refine ⟨255, by omega, by omega, fun n h1 h2 => ?_, .inl rfl⟩
    have := h0 n (by omega)
    simpa [h1] using this
  · simp at h1
    have hne : m ≠ lo := fun e => by subst e; rw [h] at h1; simp at h1
    refine ⟨m - 1, by omega, by omega, fun n h3 h4 => ?_, .inr (by rw [show m - 1 + 1 = m by omega]; exact h1.2)⟩
    have := h2 n (by omega)
    simpa [h3] using this
/-- Is a byte in one of these ranges? -/
def inRs (rs : List (Nat × Nat)) (n : Nat) : Bool := rs.any fun p => decide (p.1 ≤ n ∧ n ≤ p.2)
/-- Ranges that rise, none beside another one, up to H. -/
def Rise : List (Nat × Nat) → Prop
  | [] => True
  | [p] => p.1 ≤ p.2 ∧ p.2 < 256
  | p :: q :: r => p.1 ≤ p.2 ∧ p.2 < 256 ∧ p.2 + 1 < q.1 ∧ Rise (q :: r)
theorem rise_snoc (rs : List (Nat × Nat)) (lo hi : Nat) (h : Rise rs) (h1 : lo ≤ hi) (h2 : hi < 256) (hl : ∀ p, rs.getLast? = some p → p.2 + 1 < lo) : Rise (rs ++ [(lo, hi)]) := by
  induction rs with
  | nil => exact ⟨h1, h2⟩
  | cons p r ih =>
    cases r with
    | nil => exact ⟨h.1, h.2, hl p rfl, h1, h2⟩
    | cons q r => exact ⟨h.1, h.2.1, h.2.2.1, ih h.2.2.2 (fun p' hp' => hl p' (by rw [List.getLast?_cons_cons]; exact hp'))⟩
theorem rise_each : ∀ (rs : List (Nat × Nat)), Rise rs → ∀ i (h : i < rs.length), rs[i].1 ≤ rs[i].2 ∧ rs[i].2 < 256 ∧ ∀ (h' : i + 1 < rs.length), rs[i].2 + 1 < rs[i + 1].1
  | [], _, i, h => absurd h (by simp)
  | [p], hr, 0, _ => ⟨hr.1, hr.2, fun h' => absurd h' (by simp)⟩
  | p :: q :: r, hr, 0, _ => ⟨hr.1, hr.2.1, fun _ => hr.2.2.1⟩
  | p :: q :: r, hr, i + 1, h => by
    have := rise_each (q :: r) hr.2.2.2 i (by simpa using h)
    exact ⟨this.1, this.2.1, fun h' => this.2.2 (by simpa using h')⟩
/-- What is known of the ranges met so far: those of f below H. -/
def RsOK (f : Nat → Bool) (rs : List (Nat × Nat)) (H : Nat) : Prop :=
  Rise rs ∧ rs.length ≤ H ∧ H ≤ 256 ∧ (∀ p, rs.getLast? = some p → p.2 + 1 = H ∧ (H = 256 ∨ f H = false)) ∧ ∀ n, n < 256 → inRs rs n = (f n && decide (n < H))
theorem rsOK_nil (f : Nat → Bool) : RsOK f [] 0 := ⟨trivial, Nat.le_refl _, by omega, (fun p h => by simp at h), (fun n _ => by simp [inRs])⟩
theorem rsOK_snoc {f : Nat → Bool} {rs : List (Nat × Nat)} {H lo hi : Nat} (h : RsOK f rs H) (hH : H ≤ lo) (hl : f lo = true) (hlt : lo < 256) (hle : lo ≤ hi) (hhi : hi < 256) (hno : ∀ n, H ≤ n → n < lo → f n = false) (hall : ∀ n, lo ≤ n → n ≤ hi → f n = true) (hmax : hi = 255 ∨ f (hi + 1) = false) :
    RsOK f (rs ++ [(lo, hi)]) (hi + 1) := by
  obtain ⟨h1, h2, h3, h4, h5⟩ := h
  refine ⟨rise_snoc rs lo hi h1 hle hhi fun p hp => ?_, by simp; omega, by omega, fun p hp => ?_, fun n hn => ?_⟩
  · obtain ⟨e, hc⟩ := h4 p hp
    rcases hc with hc | hc
    · omega
    · have : lo ≠ H := fun e => by subst e; rw [hl] at hc; cases hc
      omega
  · simp at hp
    subst hp
    exact ⟨rfl, hmax.imp (by omega) id⟩
  · unfold inRs at h5 ⊢
    rw [List.any_append, h5 n hn]
    simp only [List.any_cons, List.any_nil, Bool.or_false]
    by_cases c1 : n < H
    · have c2 : n < hi + 1 := by omega
      have c3 : ¬ lo ≤ n := by omega
      simp [c1, c2, c3]
    · by_cases c2 : n < lo
      · rw [hno n (by omega) c2]; simp; omega
      · by_cases c3 : n ≤ hi
        · rw [hall n (by omega) c3]
          have c4 : n < hi + 1 := by omega
          have c5 : lo ≤ n := by omega
          simp [c3, c4, c5]
        · have c4 : ¬ n < hi + 1 := by omega
          simp [c1, c3, c4]
end Go.Proofs.YtcpdobldconnaaaDoor
