/- Plain mathematics: how many bits of a word are set, as math/bits reckons it, is the sum of its bits. No program is imported. -/
import Derived.Test.YtenibhmjcafbiaaGreatDoorWords
namespace Go.Proofs.YtenibhmjcafbiaaGreatDoor
open Go Go.RowKit
namespace Pop
def g1 (c : Nat) : Nat := (c / 2 &&& 0x55) + (c &&& 0x55)
def g2 (c : Nat) : Nat := (c / 4 &&& 0x33) + (c &&& 0x33)
def g3 (c : Nat) : Nat := (c / 16 + c) &&& 0x0f
def val : List Nat → Nat
  | [] => 0
  | c :: r => c + 256 * val r
def mk (m : Nat) : Nat → Nat
  | 0 => 0
  | n + 1 => m + 256 * mk m n
theorem and_split (a b m n : Nat) (hb : b < 256) (hn : n < 256) : (b + 256 * a) &&& (n + 256 * m) = (b &&& n) + 256 * (a &&& m) := by
  have h1 : ((b + 256 * a) &&& (n + 256 * m)) % 2 ^ 8 = (b &&& n) := by
    rw [Nat.and_mod_two_pow]; congr 1 <;> omega
  have h2 : ((b + 256 * a) &&& (n + 256 * m)) / 2 ^ 8 = (a &&& m) := by
    rw [Nat.and_div_two_pow]; congr 1 <;> omega
  omega
theorem low1 : ∀ (b : Fin 256) (k : Fin 2), (128 * k.val + b.val / 2) &&& 0x55 = (b.val / 2 &&& 0x55) := by decide +kernel
theorem low2 : ∀ (b : Fin 256) (k : Fin 4), (64 * k.val + b.val / 4) &&& 0x33 = (b.val / 4 &&& 0x33) := by decide +kernel
theorem low3 : ∀ (b : Fin 120) (k : Fin 8), (16 * k.val + (b.val / 16 + b.val)) &&& 0x0f = ((b.val / 16 + b.val) &&& 0x0f) := by decide +kernel
theorem g1_lt : ∀ b : Fin 256, g1 b.val < 256 := by decide +kernel
theorem f1 : ∀ (cs : List Nat), (∀ c ∈ cs, c < 256) → (val cs / 2 &&& mk 0x55 cs.length) + (val cs &&& mk 0x55 cs.length) = val (cs.map g1)
  | [], _ => by simp [val, mk]
  | c :: r, h => by
    have hc : c < 256 := h c (by simp)
    have ih := f1 r (fun x hx => h x (by simp [hx]))
    simp only [val, mk, List.length_cons, List.map_cons]
    have e : (c + 256 * val r) / 2 = (128 * (val r % 2) + c / 2) + 256 * (val r / 2) := by omega
    rw [e, and_split _ _ _ _ (by omega) (by omega), and_split _ _ _ _ hc (by omega)]
    have l := low1 ⟨c, hc⟩ ⟨val r % 2, by omega⟩
    simp only at l
    rw [l, ← ih]
    unfold g1; omega
theorem f2 : ∀ (cs : List Nat), (∀ c ∈ cs, c < 256) → (val cs / 4 &&& mk 0x33 cs.length) + (val cs &&& mk 0x33 cs.length) = val (cs.map g2)
  | [], _ => by simp [val, mk]
  | c :: r, h => by
    have hc : c < 256 := h c (by simp)
    have ih := f2 r (fun x hx => h x (by simp [hx]))
    simp only [val, mk, List.length_cons, List.map_cons]
    have e : (c + 256 * val r) / 4 = (64 * (val r % 4) + c / 4) + 256 * (val r / 4) := by omega
    rw [e, and_split _ _ _ _ (by omega) (by omega), and_split _ _ _ _ hc (by omega)]
    have l := low2 ⟨c, hc⟩ ⟨val r % 4, by omega⟩
    simp only at l
    rw [l, ← ih]
    unfold g2; omega
theorem f3 : ∀ (cs : List Nat), (∀ c ∈ cs, c < 120 ∧ c % 16 < 8) → ((val cs / 16 + val cs) &&& mk 0x0f cs.length) = val (cs.map g3) ∧ val cs % 16 < 8
  | [], _ => by simp [val, mk]
  | c :: r, h => by
    have hc := h c (by simp)
    obtain ⟨ih, i2⟩ := f3 r (fun x hx => h x (by simp [hx]))
    simp only [val, mk, List.length_cons, List.map_cons]
    have e : (c + 256 * val r) / 16 + (c + 256 * val r) = (16 * (val r % 16) + (c / 16 + c)) + 256 * (val r / 16 + val r) := by omega
    rw [e, and_split _ _ _ _ (by omega) (by omega)]
    have l := low3 ⟨c, hc.1⟩ ⟨val r % 16, by omega⟩
    simp only at l
    rw [l, ih]
    refine ⟨by unfold g3; rfl, by omega⟩
def pop8 (c : Nat) : Nat := c % 2 + c / 2 % 2 + c / 4 % 2 + c / 8 % 2 + c / 16 % 2 + c / 32 % 2 + c / 64 % 2 + c / 128 % 2
theorem g_pop : ∀ c : Fin 256, g3 (g2 (g1 c.val)) = pop8 c.val ∧ g2 (g1 c.val) < 120 ∧ g2 (g1 c.val) % 16 < 8 ∧ g1 c.val < 256 := by decide +kernel

def bitsum : Nat → Nat → Nat
  | 0, _ => 0
  | n + 1, x => x % 2 + bitsum n (x / 2)
theorem bitsum_le : ∀ n x, bitsum n x ≤ n
  | 0, _ => Nat.le_refl _
  | n + 1, x => by have := bitsum_le n (x / 2); simp only [bitsum]; omega
theorem bitsum8 (n x : Nat) : bitsum (n + 8) x = pop8 (x % 256) + bitsum n (x / 256) := by
  simp only [bitsum, Nat.div_div_eq_div_mul, Nat.reduceMul]
  unfold pop8
  omega
theorem bitsum_or_and : ∀ n a b, bitsum n (a ||| b) + bitsum n (a &&& b) = bitsum n a + bitsum n b
  | 0, _, _ => rfl
  | n + 1, a, b => by
    have ih := bitsum_or_and n (a / 2) (b / 2)
    have e1 : (a ||| b) / 2 = a / 2 ||| b / 2 := by have := Nat.or_div_two_pow (a := a) (b := b) (n := 1); simpa using this
    have e2 : (a &&& b) / 2 = a / 2 &&& b / 2 := by have := Nat.and_div_two_pow (a := a) (b := b) (n := 1); simpa using this
    have e3 : (a ||| b) % 2 = a % 2 ||| b % 2 := by have := Nat.or_mod_two_pow (a := a) (b := b) (n := 1); simpa using this
    have e4 : (a &&& b) % 2 = a % 2 &&& b % 2 := by have := Nat.and_mod_two_pow (a := a) (b := b) (n := 1); simpa using this
    have e5 : (a % 2 ||| b % 2) + (a % 2 &&& b % 2) = a % 2 + b % 2 := by
      have ha : a % 2 = 0 ∨ a % 2 = 1 := by omega
      have hb : b % 2 = 0 ∨ b % 2 = 1 := by omega
      rcases ha with ha | ha <;> rcases hb with hb | hb <;> rw [ha, hb] <;> rfl
    simp only [bitsum, e1, e2, e3, e4]
    omega
def y1 (x : Nat) : Nat := (x / 2 &&& 6148914691236517205) + (x &&& 6148914691236517205)
def y2 (x : Nat) : Nat := (x / 4 &&& 3689348814741910323) + (x &&& 3689348814741910323)
def y3 (x : Nat) : Nat := (x / 16 + x) &&& 1085102592571150095
theorem mk0 : mk 0x55 8 = 6148914691236517205 := by decide
theorem mk1 : mk 0x33 8 = 3689348814741910323 := by decide
theorem mk2 : mk 0x0f 8 = 1085102592571150095 := by decide
theorem fold_bytes (x : Nat) (h : x < 18446744073709551616) : ∃ c0 c1 c2 c3 c4 c5 c6 c7, (∀ c ∈ [c0, c1, c2, c3, c4, c5, c6, c7], c < 256) ∧ x = val [c0, c1, c2, c3, c4, c5, c6, c7] ∧
    bitsum 64 x = pop8 c0 + pop8 c1 + pop8 c2 + pop8 c3 + pop8 c4 + pop8 c5 + pop8 c6 + pop8 c7 := by
  refine ⟨x % 256, x / 256 % 256, x / 256 / 256 % 256, x / 256 / 256 / 256 % 256, x / 256 / 256 / 256 / 256 % 256, x / 256 / 256 / 256 / 256 / 256 % 256, x / 256 / 256 / 256 / 256 / 256 / 256 % 256, x / 256 / 256 / 256 / 256 / 256 / 256 / 256 % 256, ?_, ?_, ?_⟩
  · intro c hc
    simp only [List.mem_cons, List.not_mem_nil, or_false] at hc
    omega
  · simp only [val]; omega
  · rw [bitsum8 56, bitsum8 48, bitsum8 40, bitsum8 32, bitsum8 24, bitsum8 16, bitsum8 8, bitsum8 0]
    simp only [bitsum]; omega
theorem pop8_le (c : Nat) : pop8 c ≤ 8 := by unfold pop8; omega
theorem div256 (d r : Nat) (h : d < 256) : (d + 256 * r) / 256 = r := by omega
theorem add_val (d e r s : Nat) : (d + 256 * r) + (e + 256 * s) = (d + e) + 256 * (r + s) := by omega
theorem mod128 (d r : Nat) (h : d < 128) : (d + 256 * r) % 128 = d := by omega
theorem val_lt (d r n : Nat) (h : d < 256) (hr : r < n) : d + 256 * r < 256 * n := by omega
theorem tail_sum (d0 d1 d2 d3 d4 d5 d6 d7 y : Nat) (h0 : d0 ≤ 8) (h1 : d1 ≤ 8) (h2 : d2 ≤ 8) (h3 : d3 ≤ 8) (h4 : d4 ≤ 8) (h5 : d5 ≤ 8) (h6 : d6 ≤ 8) (h7 : d7 ≤ 8) (hy : y = val [d0, d1, d2, d3, d4, d5, d6, d7]) :
    ∃ a b c, a = y + y / 256 ∧ b = a + a / 65536 ∧ c = b + b / 4294967296 ∧ c % 128 = d0 + d1 + d2 + d3 + d4 + d5 + d6 + d7 ∧ c < 4611686018427387904 := by
  simp only [val, Nat.mul_zero, Nat.add_zero] at hy
  refine ⟨_, _, _, rfl, rfl, rfl, ?_⟩
  have e1 : y / 256 = d1 + 256 * (d2 + 256 * (d3 + 256 * (d4 + 256 * (d5 + 256 * (d6 + 256 * d7))))) := by rw [hy, div256 _ _ (by clear hy; omega)]
  have ea : y + y / 256 = (d0 + d1) + 256 * ((d1 + d2) + 256 * ((d2 + d3) + 256 * ((d3 + d4) + 256 * ((d4 + d5) + 256 * ((d5 + d6) + 256 * (d6 + d7 + 256 * d7)))))) := by
    rw [e1, hy]
    have last : d6 + 256 * d7 + d7 = d6 + d7 + 256 * d7 := by clear hy e1; omega
    rw [add_val, add_val, add_val, add_val, add_val, add_val, last]
  clear e1
  generalize y + y / 256 = a at *
  clear hy
  have eb : a / 65536 = (d2 + d3) + 256 * ((d3 + d4) + 256 * ((d4 + d5) + 256 * ((d5 + d6) + 256 * (d6 + d7 + 256 * d7)))) := by
    rw [show a / 65536 = a / 256 / 256 from by rw [Nat.div_div_eq_div_mul], ea, div256 _ _ (by clear ea; omega), div256 _ _ (by clear ea; omega)]
  have ec : a + a / 65536 = (d0 + d1 + (d2 + d3)) + 256 * ((d1 + d2 + (d3 + d4)) + 256 * ((d2 + d3 + (d4 + d5)) + 256 * ((d3 + d4 + (d5 + d6)) + 256 * ((d4 + d5 + (d6 + d7)) + 256 * (d5 + d6 + d7 + 256 * (d6 + d7 + 256 * d7)))))) := by
    rw [eb, ea]
    have last : d5 + d6 + 256 * (d6 + d7 + 256 * d7) + d7 = d5 + d6 + d7 + 256 * (d6 + d7 + 256 * d7) := by clear eb ea; omega
    rw [add_val, add_val, add_val, add_val, add_val, last]
  clear eb ea
  generalize a + a / 65536 = b at *
  have ed : b / 4294967296 = (d4 + d5 + (d6 + d7)) + 256 * (d5 + d6 + d7 + 256 * (d6 + d7 + 256 * d7)) := by
    rw [show b / 4294967296 = b / 256 / 256 / 256 / 256 from by rw [Nat.div_div_eq_div_mul, Nat.div_div_eq_div_mul, Nat.div_div_eq_div_mul], ec, div256 _ _ (by clear ec; omega), div256 _ _ (by clear ec; omega), div256 _ _ (by clear ec; omega), div256 _ _ (by clear ec; omega)]
  have ee : b + b / 4294967296 = (d0 + d1 + (d2 + d3) + (d4 + d5 + (d6 + d7))) + 256 * ((d1 + d2 + (d3 + d4) + (d5 + d6 + d7)) + 256 * ((d2 + d3 + (d4 + d5) + (d6 + d7)) + 256 * ((d3 + d4 + (d5 + d6) + d7) + 256 * ((d4 + d5 + (d6 + d7)) + 256 * (d5 + d6 + d7 + 256 * (d6 + d7 + 256 * d7)))))) := by
    rw [ed, ec]
    have last : d3 + d4 + (d5 + d6) + 256 * (d4 + d5 + (d6 + d7) + 256 * (d5 + d6 + d7 + 256 * (d6 + d7 + 256 * d7))) + d7 = d3 + d4 + (d5 + d6) + d7 + 256 * (d4 + d5 + (d6 + d7) + 256 * (d5 + d6 + d7 + 256 * (d6 + d7 + 256 * d7))) := by clear ed ec; omega
    rw [add_val, add_val, add_val, last]
  clear ed ec
  rw [ee]
  clear ee
  constructor
  · rw [mod128 _ _ (by omega)]; omega
  · have v0 : d6 + d7 + 256 * d7 < 65536 / 16 := by omega
    have v1 := val_lt (d5 + d6 + d7) _ _ (by omega) v0
    have v2 := val_lt (d4 + d5 + (d6 + d7)) _ _ (by omega) v1
    have v3 := val_lt (d3 + d4 + (d5 + d6) + d7) _ _ (by omega) v2
    have v4 := val_lt (d2 + d3 + (d4 + d5) + (d6 + d7)) _ _ (by omega) v3
    have v5 := val_lt (d1 + d2 + (d3 + d4) + (d5 + d6 + d7)) _ _ (by omega) v4
    have v6 := val_lt (d0 + d1 + (d2 + d3) + (d4 + d5 + (d6 + d7))) _ _ (by omega) v5
    exact Nat.lt_of_lt_of_le v6 (by decide)
theorem swar (x : Nat) (h : x < 18446744073709551616) : ∃ y a b c, y = y3 (y2 (y1 x)) ∧ a = y + y / 256 ∧ b = a + a / 65536 ∧ c = b + b / 4294967296 ∧ c % 128 = bitsum 64 x ∧ c < 4611686018427387904 := by
  obtain ⟨c0, c1, c2, c3, c4, c5, c6, c7, hc, hx, hb⟩ := fold_bytes x h
  have e1 : y1 x = val ([c0, c1, c2, c3, c4, c5, c6, c7].map g1) := by
    rw [hx]; have := f1 _ hc; rw [← this]; unfold y1; simp only [List.length_cons, List.length_nil, Nat.zero_add, Nat.reduceAdd, mk0]
  have e2 : y2 (y1 x) = val (([c0, c1, c2, c3, c4, c5, c6, c7].map g1).map g2) := by
    rw [e1]
    have := f2 ([c0, c1, c2, c3, c4, c5, c6, c7].map g1) (by
      intro c hc'
      obtain ⟨d, hd, rfl⟩ := List.mem_map.1 hc'
      exact (g_pop ⟨d, hc d hd⟩).2.2.2)
    rw [← this]; unfold y2; simp only [List.map_cons, List.map_nil, List.length_cons, List.length_nil, Nat.zero_add, Nat.reduceAdd, mk1]
  have e3 : y3 (y2 (y1 x)) = val ((([c0, c1, c2, c3, c4, c5, c6, c7].map g1).map g2).map g3) := by
    rw [e2]
    have := (f3 (([c0, c1, c2, c3, c4, c5, c6, c7].map g1).map g2) (by
      intro c hc'
      obtain ⟨d', hd', rfl⟩ := List.mem_map.1 hc'
      obtain ⟨d, hd, rfl⟩ := List.mem_map.1 hd'
      have := g_pop ⟨d, hc d hd⟩
      exact ⟨this.2.1, this.2.2.1⟩)).1
    rw [← this]; unfold y3; simp only [List.map_cons, List.map_nil, List.length_cons, List.length_nil, Nat.zero_add, Nat.reduceAdd, mk2]
  have gp : ∀ c ∈ [c0, c1, c2, c3, c4, c5, c6, c7], g3 (g2 (g1 c)) = pop8 c := fun c h' => (g_pop ⟨c, hc c h'⟩).1
  simp only [List.map_cons, List.map_nil] at e3
  rw [gp c0 (by simp), gp c1 (by simp), gp c2 (by simp), gp c3 (by simp), gp c4 (by simp), gp c5 (by simp), gp c6 (by simp), gp c7 (by simp)] at e3
  obtain ⟨a, b, c, ha, hb', hc', hs, hl⟩ := tail_sum _ _ _ _ _ _ _ _ _ (pop8_le c0) (pop8_le c1) (pop8_le c2) (pop8_le c3) (pop8_le c4) (pop8_le c5) (pop8_le c6) (pop8_le c7) e3
  exact ⟨_, a, b, c, rfl, ha, hb', hc', by rw [hs, hb], hl⟩
theorem and64_nat (a b : Nat) (ha : a < 18446744073709551616) (hb : b < 18446744073709551616) : bits .and .u64 (a : Int) (b : Int) = ((a &&& b : Nat) : Int) := bits_and_u64_nat a b ha hb
theorem wrap64u (n : Nat) (h : n < 18446744073709551616) : IntKind.u64.wrap (n : Int) = (n : Int) := by rw [IntKind.wrap_u64]; omega
def s1 (x : Int) : Int := IntKind.u64.wrap (bits .and .u64 (x / 2) 6148914691236517205 + bits .and .u64 x 6148914691236517205)
def s2 (x : Int) : Int := IntKind.u64.wrap (bits .and .u64 (x / 4) 3689348814741910323 + bits .and .u64 x 3689348814741910323)
def s3 (x : Int) : Int := bits .and .u64 (IntKind.u64.wrap (x / 16 + x)) 1085102592571150095
def s4 (x : Int) : Int := IntKind.u64.wrap (x + x / 256)
def s5 (x : Int) : Int := IntKind.u64.wrap (x + x / 65536)
def s6 (x : Int) : Int := IntKind.u64.wrap (x + x / 4294967296)
theorem and_le (a b : Nat) : a &&& b ≤ b := Nat.and_le_right
theorem s1_nat (x : Nat) (h : x < 18446744073709551616) : s1 (x : Int) = (y1 x : Int) ∧ y1 x ≤ 12297829382473034410 := by
  have h1 := and_le (x / 2) 6148914691236517205
  have h2 := and_le x 6148914691236517205
  have hb : y1 x ≤ 12297829382473034410 := by unfold y1; omega
  refine ⟨?_, hb⟩
  have e1 : bits .and .u64 ((x : Int) / 2) 6148914691236517205 = ((x / 2 &&& 6148914691236517205 : Nat) : Int) := by
    have := and64_nat (x / 2) 6148914691236517205 (by omega) (by omega); simpa using this
  have e2 : bits .and .u64 (x : Int) 6148914691236517205 = ((x &&& 6148914691236517205 : Nat) : Int) := by
    have := and64_nat x 6148914691236517205 (by omega) (by omega); simpa using this
  unfold s1
  rw [e1, e2, ← Int.natCast_add]
  exact wrap64u (y1 x) (by omega)
theorem s2_nat (x : Nat) (h : x < 18446744073709551616) : s2 (x : Int) = (y2 x : Int) ∧ y2 x ≤ 7378697629483820646 := by
  have h1 := and_le (x / 4) 3689348814741910323
  have h2 := and_le x 3689348814741910323
  have hb : y2 x ≤ 7378697629483820646 := by unfold y2; omega
  refine ⟨?_, hb⟩
  have e1 : bits .and .u64 ((x : Int) / 4) 3689348814741910323 = ((x / 4 &&& 3689348814741910323 : Nat) : Int) := by
    have := and64_nat (x / 4) 3689348814741910323 (by omega) (by omega); simpa using this
  have e2 : bits .and .u64 (x : Int) 3689348814741910323 = ((x &&& 3689348814741910323 : Nat) : Int) := by
    have := and64_nat x 3689348814741910323 (by omega) (by omega); simpa using this
  unfold s2
  rw [e1, e2, ← Int.natCast_add]
  exact wrap64u (y2 x) (by omega)
theorem s3_nat (x : Nat) (h : x ≤ 7378697629483820646) : s3 (x : Int) = (y3 x : Int) ∧ y3 x ≤ 1085102592571150095 := by
  refine ⟨?_, and_le _ _⟩
  have e1 : IntKind.u64.wrap ((x : Int) / 16 + (x : Int)) = ((x / 16 + x : Nat) : Int) := by
    have := wrap64u (x / 16 + x) (by omega); simpa using this
  unfold s3
  rw [e1]
  exact and64_nat (x / 16 + x) 1085102592571150095 (by omega) (by omega)
theorem s4_nat (y a : Nat) (h : a = y + y / 256) (hl : a < 4611686018427387904) : s4 (y : Int) = (a : Int) := by
  have := wrap64u a (by omega)
  unfold s4
  rw [show (y : Int) + (y : Int) / 256 = (a : Int) by omega]
  exact this
theorem s5_nat (y a : Nat) (h : a = y + y / 65536) (hl : a < 4611686018427387904) : s5 (y : Int) = (a : Int) := by
  have := wrap64u a (by omega)
  unfold s5
  rw [show (y : Int) + (y : Int) / 65536 = (a : Int) by omega]
  exact this
theorem s6_nat (y a : Nat) (h : a = y + y / 4294967296) (hl : a < 4611686018427387904) : s6 (y : Int) = (a : Int) := by
  have := wrap64u a (by omega)
  unfold s6
  rw [show (y : Int) + (y : Int) / 4294967296 = (a : Int) by omega]
  exact this
theorem low7 (c : Nat) (hl : c < 4611686018427387904) : bits .and .i64 (wrap64 (c : Int)) 127 = ((c % 128 : Nat) : Int) := by
  have qw : wrap64 (c : Int) = (c : Int) := by
    unfold wrap64; omega
  rw [qw]
  have hk : ∀ n : Int, 0 ≤ n → n < 2 ^ 63 → IntKind.i64.wrap n = n := by intro n h₀ h₁; rw [IntKind.wrap_i64]; omega
  have hm := bits_mask .i64 63 (by decide) hk 7 (by decide) (c : Int) (by omega) (by omega)
  refine Eq.trans hm ?_
  omega
theorem pw_eq (x : Int) (h0 : 0 ≤ x) (h1 : x < 18446744073709551616) : bits .and .i64 (wrap64 (s6 (s5 (s4 (s3 (s2 (s1 x))))))) 127 = (bitsum 64 x.toNat : Int) := by
  obtain ⟨X, rfl⟩ := Int.eq_ofNat_of_zero_le h0
  have hX : X < 18446744073709551616 := by omega
  obtain ⟨y, a, b, c, hy, ha, hb, hc, hs, hl⟩ := swar X hX
  obtain ⟨q1, b1⟩ := s1_nat X hX
  obtain ⟨q2, b2⟩ := s2_nat (y1 X) (by omega)
  obtain ⟨q3, b3⟩ := s3_nat (y2 (y1 X)) b2
  rw [q1, q2, q3, ← hy]
  rw [← hy] at b3
  have lb : b ≤ c := by rw [hc]; exact Nat.le_add_right _ _
  have la : a ≤ b := by rw [hb]; exact Nat.le_add_right _ _
  rw [s4_nat y a ha (Nat.lt_of_le_of_lt (Nat.le_trans la lb) hl), s5_nat a b hb (Nat.lt_of_le_of_lt lb hl), s6_nat b c hc hl, low7 c hl, hs, Int.toNat_natCast]
end Pop
end Go.Proofs.YtenibhmjcafbiaaGreatDoor
