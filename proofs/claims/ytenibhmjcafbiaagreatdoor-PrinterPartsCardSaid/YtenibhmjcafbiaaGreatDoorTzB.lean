/- Contracts of bytes' functions: ranges, and a set's least byte, told by its bytes. -/
import Derived.Test.YtenibhmjcafbiaaGreatDoorTz
namespace Go.Proofs.YtenibhmjcafbiaaGreatDoor
open Go Go.RowKit
attribute [local go_sem ↓] Go.wp_at_zero Go.wp_at_succ
attribute [local go_sem] eq4
/-- Word k of the set of all bytes from b on. -/
def frw (b k : Nat) : Int := if k < b / 64 then 0 else if k = b / 64 then IntKind.u64.wrap (18446744073709551615 * 2 ^ (b % 64)) else 18446744073709551615
theorem fr_bit : ∀ m : Fin 64, ∀ i : Fin 64, (V (IntKind.u64.wrap (18446744073709551615 * 2 ^ m.val))).getLsbD i.val = decide (m.val ≤ i.val) := by decide +kernel
theorem ones_bit : ∀ i : Fin 64, (V 18446744073709551615).getLsbD i.val = true := by decide +kernel
theorem fit_wrap (n : Int) : Fit (IntKind.u64.wrap n) := by rw [IntKind.wrap_u64]; unfold Fit; omega
theorem frw_fit (b k : Nat) : Fit (frw b k) := by
  unfold frw
  split
  · unfold Fit; omega
  · split
    · exact fit_wrap _
    · unfold Fit; omega
theorem memb_frw (b n : Nat) (hn : n < 256) : memb (frw b 0) (frw b 1) (frw b 2) (frw b 3) n = decide (b ≤ n) := by
  have key : ∀ k, k = n / 64 → (V (frw b k)).getLsbD (n % 64) = decide (b ≤ n) := by
    intro k hk
    unfold frw
    by_cases h1 : k < b / 64
    · rw [if_pos h1, V0]
      have : ¬ b ≤ n := by omega
      simp [this]
    · rw [if_neg h1]
      by_cases h2 : k = b / 64
      · rw [if_pos h2]
        have h := fr_bit ⟨b % 64, by omega⟩ ⟨n % 64, by omega⟩
        simp only at h
        rw [h]
        by_cases h3 : b ≤ n
        · have : b % 64 ≤ n % 64 := by omega
          simp [h3, this]
        · have : ¬ b % 64 ≤ n % 64 := by omega
          simp [h3, this]
      · rw [if_neg h2]
        have h := ones_bit ⟨n % 64, by omega⟩
        simp only at h
        rw [h]
        have : b ≤ n := by omega
        simp [this]
  unfold memb
  by_cases c0 : n / 64 = 0
  · rw [if_pos c0]; exact key 0 c0.symm
  · rw [if_neg c0]
    by_cases c1 : n / 64 = 1
    · rw [if_pos c1]; exact key 1 c1.symm
    · rw [if_neg c1]
      by_cases c2 : n / 64 = 2
      · rw [if_pos c2]; exact key 2 c2.symm
      · rw [if_neg c2]; exact key 3 (by omega)
set_option maxRecDepth 100000 in
set_option maxHeartbeats 1000000 in
theorem from_any (b : Nat) (hb : b < 256) (w : World) :
    Calls Tryz.prog 90 #[.int .u8 b] w fun e w' => e = .returned (.agg #[.int .u64 (frw b 0), .int .u64 (frw b 1), .int .u64 (frw b 2), .int .u64 (frw b 3)]) ∧ Below w.heap.size w w' := by
  have hq : b / 64 = 0 ∨ b / 64 = 1 ∨ b / 64 = 2 ∨ b / 64 = 3 := by omega
  have hm0 : (0 : Int) ≤ (b : Int) % 64 := by omega
  have hm1 : (b : Int) % 64 < 64 := by omega
  rcases hq with hq | hq | hq | hq
  all_goals
    have HQ := hid hq
    have hqi : (b : Int) / 64 = ((b / 64 : Nat) : Int) := by omega
    rw [hq] at hqi
    have hmn : ((b : Int) % 64).toNat = b % 64 := by omega
    clear hq
    go_enter Tryz.func90, Tryz.ntmps90
    go_wp2_with fail
    refine wp_loop_rounds 4 ?_
    rw [rounds_succ]; go_wp2_with fail
    iterate 3 (first | (rw [rounds_succ]; go_wp2_with fail) | skip)
    refine bodyPost_ret (v := .agg #[.int .u64 (frw b 0), .int .u64 (frw b 1), .int .u64 (frw b 2), .int .u64 (frw b 3)]) (by simp [results, Tryz.results90, go_sem, frw, HQ.out]) rfl ⟨rfl, below2 _ _ _⟩
/-- Is byte n one of the first k of l? -/
def onr (l : Nat → Int) : Nat → Nat → Bool
  | 0, _ => false
  | k + 1, n => onr l k n || decide (l k = (n : Int))
theorem bitw_nat (k : Nat) : bitw (k : Int) = bitn k := by
  unfold bitw bitn
  have : ((k : Int) % 64).toNat = k % 64 := by omega
  rw [this]
theorem memb_ofw (l : Nat → Int) (hl0 : ∀ j, 0 ≤ l j) (hl1 : ∀ j, l j ≤ 255) (k n : Nat) (hn : n < 256) : memb (ofw l k 0) (ofw l k 1) (ofw l k 2) (ofw l k 3) n = onr l k n := by
  induction k with
  | zero => simp [ofw, onr, memb_zero]
  | succ k ih =>
    obtain ⟨b, hb⟩ := Int.eq_ofNat_of_zero_le (hl0 k)
    have hb1 := hl1 k
    have hb2 : b < 256 := by omega
    have hd : ((b : Int) / 64) = ((b / 64 : Nat) : Int) := by omega
    obtain ⟨m0, m1, m2, m3⟩ := memb_up (ofw l k 0) (ofw l k 1) (ofw l k 2) (ofw l k 3) b n hb2 hn
    have hdec : decide ((b : Int) = (n : Int)) = decide (n = b) := by
      by_cases e : n = b
      · subst e; simp
      · have : ¬ (b : Int) = (n : Int) := by omega
        simp [e, this]
    have hq : b / 64 = 0 ∨ b / 64 = 1 ∨ b / 64 = 2 ∨ b / 64 = 3 := by omega
    show memb (ofw l (k + 1) 0) (ofw l (k + 1) 1) (ofw l (k + 1) 2) (ofw l (k + 1) 3) n = (onr l k n || decide (l k = (n : Int)))
    simp only [ofw, hb, hd, bitw_nat, hdec]
    rw [← ih]
    rcases hq with hq | hq | hq | hq
    · have := m0 hq; simp [hq]; exact this
    · have := m1 hq; simp [hq]; exact this
    · have := m2 hq; simp [hq]; exact this
    · have := m3 hq; simp [hq]; exact this
theorem ofw_fit (l : Nat → Int) (k : Nat) (j : Int) : Fit (ofw l k j) := by
  induction k with
  | zero => simp [ofw, Fit]
  | succ k ih =>
    simp only [ofw]
    split
    · exact orr_fit _ _
    · exact ih
/-- Word k of the set of all bytes behind b. -/
def abw (b k : Nat) : Int := an (frw b k) (nt (ofw (fun _ => (b : Int)) 1 k))
/-- Word k of the set of a range. -/
def rgw (lo hi k : Nat) : Int := an (frw lo k) (nt (abw hi k))
theorem memb_abw (b n : Nat) (hb : b < 256) (hn : n < 256) : memb (abw b 0) (abw b 1) (abw b 2) (abw b 3) n = decide (b < n) := by
  unfold abw
  rw [memb_an, memb_nt, memb_frw b n hn]
  have h := memb_ofw (fun _ => (b : Int)) (by intro; omega) (by intro; omega) 1 n hn
  rw [show memb (ofw (fun _ => (b : Int)) 1 ((0 : Nat) : Int)) (ofw (fun _ => (b : Int)) 1 ((1 : Nat) : Int)) (ofw (fun _ => (b : Int)) 1 ((2 : Nat) : Int)) (ofw (fun _ => (b : Int)) 1 ((3 : Nat) : Int)) n = onr (fun _ => (b : Int)) 1 n from h]
  simp only [onr, Bool.false_or]
  by_cases h1 : b < n
  · have h2 : b ≤ n := by omega
    have h3 : ¬ (b : Int) = (n : Int) := by omega
    simp [h1, h2, h3]
  · by_cases h2 : b = n
    · subst h2; simp
    · have h3 : ¬ b ≤ n := by omega
      simp [h1, h3]
theorem memb_rgw (lo hi n : Nat) (hh : hi < 256) (hn : n < 256) : memb (rgw lo hi 0) (rgw lo hi 1) (rgw lo hi 2) (rgw lo hi 3) n = decide (lo ≤ n ∧ n ≤ hi) := by
  unfold rgw
  rw [memb_an, memb_nt, memb_frw lo n hn, memb_abw hi n hh hn]
  by_cases h1 : lo ≤ n <;> by_cases h2 : hi < n
  · have : ¬ n ≤ hi := by omega
    simp [h2, this]
  · have : n ≤ hi := by omega
    simp [h1, h2, this]
  · simp [h1]
  · simp [h1]
set_option maxRecDepth 100000 in
set_option maxHeartbeats 1000000 in
theorem above_any (b : Nat) (hb : b < 256) (w : World) :
    Calls Tryz.prog 92 #[.int .u8 b] w fun e w' => e = .returned (.agg #[.int .u64 (abw b 0), .int .u64 (abw b 1), .int .u64 (abw b 2), .int .u64 (abw b 3)]) ∧ Below w.heap.size w w' := by
  go_enter Tryz.func92, Tryz.ntmps92
  go_wp2_with fail
  refine (from_any b hb _).mono ?_
  rintro e w1 ⟨rfl, hb1⟩
  obtain ⟨hc1, hf1, hz1⟩ := bcell hb1
  have l1 : w.heap.size < w1.heap.size := by simp at hz1; omega
  have l1' : w.heap.size < w1.heap.size + 1 := by omega
  go_wp2_with fail
  refine (of_any _ _ _ _ (fun _ => (b : Int)) _ (by simp) (by omega) (by intro; omega) (by intro; omega) (by
    intro j hj
    match j, hj with
    | 0, _ => simp)).mono ?_
  rintro e w2 ⟨rfl, hb2⟩
  obtain ⟨hc2, hf2, hz2⟩ := bcell hb2
  have l2 : w.heap.size < w2.heap.size := by simp at hz2; omega
  go_wp2_with fail
  refine (minus_any _ _ _ _ _ _ _ _ _).mono ?_
  rintro e w3 ⟨rfl, hb3⟩
  obtain ⟨hc3, hf3, hz3⟩ := bcell hb3
  have l3 : w.heap.size < w3.heap.size := by omega
  go_wp2_with fail
  refine bodyPost_ret (v := .agg #[.int .u64 (abw b 0), .int .u64 (abw b 1), .int .u64 (abw b 2), .int .u64 (abw b 3)]) (by simp [results, Tryz.results92, go_sem, hc1, hc2, hc3, l1, l1', l2, abw]) rfl ⟨rfl, ?_⟩
  exact below_set4 (below_next (below_next ((below_next (below1 _ _) hb1 (by simp)).alloc (by omega) _) hb2 (by simp; omega)) hb3 (by omega)) (Nat.le_refl _) _ _ _ _
set_option maxRecDepth 100000 in
set_option maxHeartbeats 1000000 in
theorem range_any (lo hi : Nat) (h0 : lo < 256) (h1 : hi < 256) (w : World) :
    Calls Tryz.prog 72 #[.int .u8 lo, .int .u8 hi] w fun e w' => e = .returned (.agg #[.int .u64 (rgw lo hi 0), .int .u64 (rgw lo hi 1), .int .u64 (rgw lo hi 2), .int .u64 (rgw lo hi 3)]) ∧ Below w.heap.size w w' := by
  go_enter Tryz.func72, Tryz.ntmps72
  go_wp2_with fail
  refine (from_any lo h0 _).mono ?_
  rintro e w1 ⟨rfl, hb1⟩
  obtain ⟨hc1, hf1, hz1⟩ := bcell hb1
  have l1 : w.heap.size < w1.heap.size := by simp at hz1; omega
  go_wp2_with fail
  refine (above_any hi h1 _).mono ?_
  rintro e w2 ⟨rfl, hb2⟩
  obtain ⟨hc2, hf2, hz2⟩ := bcell hb2
  have l2 : w.heap.size < w2.heap.size := by omega
  go_wp2_with fail
  refine (minus_any _ _ _ _ _ _ _ _ _).mono ?_
  rintro e w3 ⟨rfl, hb3⟩
  obtain ⟨hc3, hf3, hz3⟩ := bcell hb3
  have l3 : w.heap.size < w3.heap.size := by omega
  go_wp2_with fail
  refine bodyPost_ret (v := .agg #[.int .u64 (rgw lo hi 0), .int .u64 (rgw lo hi 1), .int .u64 (rgw lo hi 2), .int .u64 (rgw lo hi 3)]) (by simp [results, Tryz.results72, go_sem, hc1, hc2, hc3, l1, l2, rgw]) rfl ⟨rfl, ?_⟩
  exact below_set4 (below_next (below_next (below_next (below1 _ _) hb1 (by simp)) hb2 (by omega)) hb3 (by omega)) (Nat.le_refl _) _ _ _ _
/-- A set's least byte, if it has one, and that it has: told of its bytes. -/
def FirstIs (f : Nat → Bool) (v : Value) : Prop :=
  ((∀ n, n < 256 → f n = false) ∧ v = .tuple #[.int .u8 0, .bool false]) ∨
  ∃ n : Nat, n < 256 ∧ f n = true ∧ (∀ i, i < n → f i = false) ∧ v = .tuple #[.int .u8 n, .bool true]
theorem least_of (f : Nat → Bool) (N : Nat) : (∀ n, n < N → f n = false) ∨ ∃ n, n < N ∧ f n = true ∧ ∀ i, i < n → f i = false := by
  induction N with
  | zero => exact .inl fun n hn => absurd hn (by omega)
  | succ N ih =>
    rcases ih with h | ⟨n, hn, h1, h2⟩
    · cases hf : f N
      · refine .inl fun n hn => ?_
        by_cases e : n = N
        · subst e; exact hf
        · exact h n (by omega)
      · exact .inr ⟨N, by omega, hf, h⟩
    · exact .inr ⟨n, by omega, h1, h2⟩
theorem at_word (a b c d : Int) (q i : Nat) (hi : i < 64) : memb a b c d (64 * q + i) = if q = 0 then (V a).getLsbD i else if q = 1 then (V b).getLsbD i else if q = 2 then (V c).getLsbD i else (V d).getLsbD i := by
  unfold memb
  rw [show (64 * q + i) / 64 = q by omega, show (64 * q + i) % 64 = i by omega]
theorem first_any (a b c d : Int) (w : World) (fa : Fit a) (fb : Fit b) (fc : Fit c) (fd : Fit d) (hT : Tab w) :
    Calls Tryz.prog 34 #[.agg #[.int .u64 a, .int .u64 b, .int .u64 c, .int .u64 d]] w fun e w' => ∃ v, e = .returned v ∧ FirstIs (memb a b c d) v ∧ Below w.heap.size w w' := by
  rcases least_of (memb a b c d) 256 with h | ⟨n, hn, h1, h2⟩
  · have za : a = 0 := zero_word fa fun i hi => by have := h (64 * 0 + i) (by omega); rw [at_word _ _ _ _ 0 i hi] at this; simpa using this
    have zb : b = 0 := zero_word fb fun i hi => by have := h (64 * 1 + i) (by omega); rw [at_word _ _ _ _ 1 i hi] at this; simpa using this
    have zc : c = 0 := zero_word fc fun i hi => by have := h (64 * 2 + i) (by omega); rw [at_word _ _ _ _ 2 i hi] at this; simpa using this
    have zd : d = 0 := zero_word fd fun i hi => by have := h (64 * 3 + i) (by omega); rw [at_word _ _ _ _ 3 i hi] at this; simpa using this
    subst za zb zc zd
    exact (first_none w).mono fun e w' ⟨he, hb⟩ => ⟨_, he, .inl ⟨h, rfl⟩, hb⟩
  · obtain ⟨q, i, hi, rfl⟩ : ∃ q i, i < 64 ∧ n = 64 * q + i := ⟨n / 64, n % 64, by omega, by omega⟩
    have hq : q < 4 := by omega
    have below : ∀ p, p < q → ∀ j, j < 64 → memb a b c d (64 * p + j) = false := fun p hp j hj => h2 _ (by omega)
    have same : ∀ j, j < i → memb a b c d (64 * q + j) = false := fun j hj => h2 _ (by omega)
    have fin : ∀ x : Int, Fit x → (V x).getLsbD i = true → (∀ j, j < i → (V x).getLsbD j = false) →
        ((q = 0 ∧ a = x) ∨ (q = 1 ∧ a = 0 ∧ b = x) ∨ (q = 2 ∧ a = 0 ∧ b = 0 ∧ c = x) ∨ (q = 3 ∧ a = 0 ∧ b = 0 ∧ c = 0 ∧ d = x)) →
        Calls Tryz.prog 34 #[.agg #[.int .u64 a, .int .u64 b, .int .u64 c, .int .u64 d]] w fun e w' => ∃ v, e = .returned v ∧ FirstIs (memb a b c d) v ∧ Below w.heap.size w w' := by
      intro x fx hx1 hx2 hc
      obtain ⟨X, rfl⟩ := Int.eq_ofNat_of_zero_le fx.1
      have hX : X < 18446744073709551616 := by have := fx.2; omega
      rw [V_testBit fx, Int.toNat_natCast] at hx1
      have hx3 : ∀ j, j < i → X.testBit j = false := fun j hj => by have := hx2 j hj; rw [V_testBit fx, Int.toNat_natCast] at this; exact this
      have h0 : X ≠ 0 := by intro e; subst e; simp at hx1
      exact (first_q q a b c d X i w hT hX h0 (ctz_at hX hx1 hx3) hi hc).mono fun e w' ⟨he, hb⟩ => ⟨_, he, .inr ⟨_, hn, h1, h2, rfl⟩, hb⟩
    rw [at_word _ _ _ _ q i hi] at h1
    have same' : ∀ j, j < i → (if q = 0 then (V a).getLsbD j else if q = 1 then (V b).getLsbD j else if q = 2 then (V c).getLsbD j else (V d).getLsbD j) = false := fun j hj => by rw [← at_word _ _ _ _ q j (by omega)]; exact same j hj
    have z0 : 0 < q → a = 0 := fun hp => zero_word fa fun j hj => by have := below 0 hp j hj; rw [at_word _ _ _ _ 0 j hj] at this; simpa using this
    have z1 : 1 < q → b = 0 := fun hp => zero_word fb fun j hj => by have := below 1 hp j hj; rw [at_word _ _ _ _ 1 j hj] at this; simpa using this
    have z2 : 2 < q → c = 0 := fun hp => zero_word fc fun j hj => by have := below 2 hp j hj; rw [at_word _ _ _ _ 2 j hj] at this; simpa using this
    rcases (show q = 0 ∨ q = 1 ∨ q = 2 ∨ q = 3 by omega) with e | e | e | e
    · exact fin a fa (by simpa [e] using h1) (fun j hj => by simpa [e] using same' j hj) (.inl ⟨e, rfl⟩)
    · exact fin b fb (by simpa [e] using h1) (fun j hj => by simpa [e] using same' j hj) (.inr (.inl ⟨e, z0 (by omega), rfl⟩))
    · exact fin c fc (by simpa [e] using h1) (fun j hj => by simpa [e] using same' j hj) (.inr (.inr (.inl ⟨e, z0 (by omega), z1 (by omega), rfl⟩)))
    · exact fin d fd (by simpa [e] using h1) (fun j hj => by simpa [e] using same' j hj) (.inr (.inr (.inr ⟨e, z0 (by omega), z1 (by omega), z2 (by omega), rfl⟩)))
end Go.Proofs.YtenibhmjcafbiaaGreatDoor
