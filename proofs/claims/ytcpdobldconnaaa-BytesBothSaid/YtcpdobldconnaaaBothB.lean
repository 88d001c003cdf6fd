/- Plain mathematics for BytesBoth, and Make's contract where the words are known. -/
import Derived.Test.YtcpdobldconnaaaBoth0
namespace Go.Proofs.Ytcpdobldconnaaa
open Go Go.RowKit
/-- A slice of 256 bools lies there. -/
def BoolsAt (W : World) (g : Nat) (f : Nat → Bool) : Prop := g < W.heap.size ∧ ∀ j, j < 256 → W.cell? ⟨g, j, none⟩ = some (.bool (f j))
theorem BoolsAt.below {B : Nat} {W W1 : World} {g : Nat} {f : Nat → Bool} (h : BoolsAt W g f) (hb : Below B W W1) (hB : g < B) : BoolsAt W1 g f :=
  ⟨Nat.lt_of_lt_of_le h.1 hb.size, fun j hj => (hb.cell (p := ⟨g, j, none⟩) hB).trans (h.2 j hj)⟩
theorem make_known {g cap : Nat} {f : Nat → Bool} {w : World} (r0 r1 r2 r3 : Int) (h : BoolsAt w g f) (f0 : Fit r0) (f1 : Fit r1) (f2 : Fit r2) (f3 : Fit r3) (hf : ∀ n, n < 256 → memb r0 r1 r2 r3 n = f n) :
    Calls Try.prog 12 #[.slice (some ⟨g, 0, none⟩) 256 cap] w fun e w' => e = .returned (.agg #[.int .u64 r0, .int .u64 r1, .int .u64 r2, .int .u64 r3]) ∧ Below w.heap.size w w' := by
  refine (make_any g cap f w h.1 h.2).mono fun e w' ⟨s0, s1, s2, s3, he, k0, k1, k2, k3, hm, hb⟩ => ?_
  obtain ⟨rfl, rfl, rfl, rfl⟩ := memb_ext k0 k1 k2 k3 f0 f1 f2 f3 (fun n hn => (hm n hn).trans (hf n hn).symm)
  exact ⟨he, hb⟩
theorem foldk_at (X : Nat → Bool) (k n : Nat) : foldk X k n = (X n || (decide (65 ≤ n ∧ n ≤ 90 ∧ n + 32 < k) && X (n + 32)) || (decide (97 ≤ n ∧ n ≤ 122 ∧ n - 32 < k) && X (n - 32))) := by
  induction k with
  | zero => simp [foldk]
  | succ k ih =>
    simp only [foldk, ih]
    by_cases h1 : 97 ≤ k ∧ k ≤ 122 ∧ n = k - 32
    · obtain ⟨a1, a2, a3⟩ := h1
      have e : n + 32 = k := by omega
      have b1 : ¬ (65 ≤ k ∧ k ≤ 90) := by omega
      have b2 : 65 ≤ n ∧ n ≤ 90 ∧ k < k + 1 := by omega
      have b3 : ¬ (65 ≤ n ∧ n ≤ 90 ∧ k < k) := by omega
      have b4 : ¬ (97 ≤ n ∧ n ≤ 122 ∧ n - 32 < k) := by omega
      have b5 : ¬ (97 ≤ n ∧ n ≤ 122 ∧ n - 32 < k + 1) := by omega
      simp [e, a1, a2, b1, b2, b3, b4, b5, a3.symm]
    · by_cases h2 : 65 ≤ k ∧ k ≤ 90 ∧ n = k + 32
      · obtain ⟨a1, a2, a3⟩ := h2
        have e : n - 32 = k := by omega
        have b1 : ¬ (97 ≤ k ∧ k ≤ 122) := by omega
        have b2 : 97 ≤ n ∧ n ≤ 122 ∧ k < k + 1 := by omega
        have b3 : ¬ (97 ≤ n ∧ n ≤ 122 ∧ k < k) := by omega
        have b4 : ¬ (65 ≤ n ∧ n ≤ 90 ∧ n + 32 < k) := by omega
        have b5 : ¬ (65 ≤ n ∧ n ≤ 90 ∧ n + 32 < k + 1) := by omega
        simp [e, a1, a2, b1, b2, b3, b4, b5, a3.symm]
      · have c1 : (decide (97 ≤ k ∧ k ≤ 122) && decide (n = k - 32)) = false := by
          by_cases q : 97 ≤ k ∧ k ≤ 122 <;> simp [q]; omega
        have c2 : (decide (65 ≤ k ∧ k ≤ 90) && decide (n = k + 32)) = false := by
          by_cases q : 65 ≤ k ∧ k ≤ 90 <;> simp [q]; omega
        have c3 : (65 ≤ n ∧ n ≤ 90 ∧ n + 32 < k + 1) = (65 ≤ n ∧ n ≤ 90 ∧ n + 32 < k) := by apply propext; omega
        have c4 : (97 ≤ n ∧ n ≤ 122 ∧ n - 32 < k + 1) = (97 ≤ n ∧ n ≤ 122 ∧ n - 32 < k) := by apply propext; omega
        simp only [c3, c4, Bool.and_assoc, c1, c2, Bool.and_false, Bool.or_false]
theorem foldk_all (X : Nat → Bool) (n : Nat) : foldk X 256 n = foldf X n := by
  rw [foldk_at]
  unfold foldf
  have c3 : (65 ≤ n ∧ n ≤ 90 ∧ n + 32 < 256) = (65 ≤ n ∧ n ≤ 90) := by apply propext; omega
  have c4 : (97 ≤ n ∧ n ≤ 122 ∧ n - 32 < 256) = (97 ≤ n ∧ n ≤ 122) := by apply propext; omega
  simp only [c3, c4]
  rw [Bool.or_assoc, Bool.or_assoc]
  congr 1
  exact Bool.or_comm _ _
theorem withk_iff (X Y : Nat → Bool) (k : Nat) : withk X Y k = true ↔ ∀ n, n < k → X n = true → Y n = true := by
  induction k with
  | zero => simp [withk]
  | succ k ih =>
    simp only [withk, Bool.and_eq_true, ih]
    constructor
    · rintro ⟨h1, h2⟩ n hn hx
      by_cases e : n = k
      · subst e; simp [hx] at h2; exact h2
      · exact h1 n (by omega) hx
    · intro h
      refine ⟨fun n hn => h n (by omega), ?_⟩
      have := h k (by omega)
      cases hX : X k <;> simp_all
theorem within_withk {a b c d x y z u : Int} (fa : Fit a) (fb : Fit b) (fc : Fit c) (fd : Fit d) :
    (an a x == a && an b y == b && an c z == c && an d u == d) = withk (memb a b c d) (memb x y z u) 256 := by
  rw [Bool.eq_iff_iff, withk_iff]
  simp only [Bool.and_eq_true, beq_iff_eq]
  constructor
  · rintro ⟨⟨⟨h0, h1⟩, h2⟩, h3⟩ n hn hx
    have := memb_an a b c d x y z u n
    rw [h0, h1, h2, h3, hx] at this
    simpa using this.symm
  · intro h
    obtain ⟨r0, r1, r2, r3⟩ := memb_ext (a := an a x) (b := an b y) (c := an c z) (d := an d u) (x := a) (y := b) (z := c) (u := d) (an_fit _ _) (an_fit _ _) (an_fit _ _) (an_fit _ _) fa fb fc fd (fun n hn => by
      rw [memb_an]
      cases hx : memb a b c d n
      · simp
      · simp [h n hn hx])
    exact ⟨⟨⟨r0, r1⟩, r2⟩, r3⟩
theorem bools_of_block {W : World} {g : Nat} {f : Nat → Bool} (h : W.heap[g]? = some (.cells (bl f) 4)) : BoolsAt W g f :=
  ⟨Reg.size_of_get h, fun j hj => (Joins.cell_of_block h j).trans (bl_at f j hj)⟩
theorem bools_of_row {W : World} {B : Nat} {v : Value} {f : Nat → Bool} (h : W.ownsRow B 4 1 v 256 (upto f 256)) : ∃ g cap, v = .slice (some ⟨g, 0, none⟩) 256 cap ∧ BoolsAt W g f := by
  rcases h.2 with ⟨_, h0⟩ | ⟨g, cap, cur, rfl, _, hh, hn, _, hs, ht⟩
  · cases h0
  · refine ⟨g, cap, rfl, Reg.size_of_get hh, fun j hj => ?_⟩
    rw [Joins.cell_of_block hh j]
    have e : cur.toList[j]? = (upto f 256)[j]? := by
      rw [← ht, List.getElem?_take]; simp [hj]
    rw [← Array.getElem?_toList, e]
    unfold upto; simp [hj]
/-- What the law's last line reads lies there. -/
def HeldB (w : World) (g0 g1 gx gu gm gd gn gf : Nat) (a b c d x y z u : Int) (W : World) : Prop :=
  Held2 w g0 g1 a b c d x y z u W ∧ BoolsAt W gx (memb a b c d) ∧ BoolsAt W gu (fun i => memb a b c d i || memb x y z u i) ∧ BoolsAt W gm (fun i => memb a b c d i && memb x y z u i) ∧ BoolsAt W gd (fun i => memb a b c d i && !memb x y z u i) ∧ BoolsAt W gn (fun i => !memb a b c d i) ∧ BoolsAt W gf (foldk (memb a b c d) 256)
theorem heldB_below {w : World} {g0 g1 gx gu gm gd gn gf : Nat} {a b c d x y z u : Int} {W W1 : World} (hb : Below W.heap.size W W1) (h : HeldB w g0 g1 gx gu gm gd gn gf a b c d x y z u W) : HeldB w g0 g1 gx gu gm gd gn gf a b c d x y z u W1 := by
  obtain ⟨h0, h1, h2, h3, h4, h5, h6⟩ := h
  exact ⟨held2_below hb h0, h1.below hb h1.1, h2.below hb h2.1, h3.below hb h3.1, h4.below hb h4.1, h5.below hb h5.1, h6.below hb h6.1⟩
theorem hasW_memb {a b c d k : Int} (fa : Fit a) (fb : Fit b) (fc : Fit c) (fd : Fit d) (h0 : 0 ≤ k) (h1 : k ≤ 255) : hasW a b c d k = memb a b c d k.toNat := by
  obtain ⟨n, rfl⟩ := Int.eq_ofNat_of_zero_le h0
  have e1 : ((n : Int) % 64).toNat = n % 64 := by omega
  unfold hasW memb
  rw [hs_bit a _ fa, hs_bit b _ fb, hs_bit c _ fc, hs_bit d _ fd, e1, Int.toNat_natCast]
  have q : (n : Int) / 64 = ((n / 64 : Nat) : Int) := by omega
  rw [q]
  by_cases c0 : n / 64 = 0
  · simp [c0]
  · by_cases c1 : n / 64 = 1
    · simp [c1]
    · by_cases c2 : n / 64 = 2
      · simp [c2]
      · have d0 : ¬ ((n / 64 : Nat) : Int) = 0 := by omega
        have d1 : ¬ ((n / 64 : Nat) : Int) = 1 := by omega
        have d2 : ¬ ((n / 64 : Nat) : Int) = 2 := by omega
        rw [if_neg d0, if_neg d1, if_neg d2, if_neg c0, if_neg c1, if_neg c2]
theorem union_blk2 {a b c d x y z u : Int} {w : World} {g : Nat} (h : w.heap[g]? = some (.cells #[.int .u64 a, .int .u64 b, .int .u64 c, .int .u64 d, .int .u64 x, .int .u64 y, .int .u64 z, .int .u64 u] 24)) :
    Calls Try.prog 11 #[.slice (some ⟨g, 0, none⟩) 2 2] w fun e w' => e = .returned (.agg #[.int .u64 (orr (orr 0 a) x), .int .u64 (orr (orr 0 b) y), .int .u64 (orr (orr 0 c) z), .int .u64 (orr (orr 0 d) u)]) ∧ Below w.heap.size w w' :=
  union_two g a b c d x y z u w (Reg.size_of_get h) (Joins.cell_of_block h 0) (Joins.cell_of_block h 1) (Joins.cell_of_block h 2) (Joins.cell_of_block h 3) (Joins.cell_of_block h 4) (Joins.cell_of_block h 5) (Joins.cell_of_block h 6) (Joins.cell_of_block h 7)
def bothTold (a b c d x y z u k : Int) (gx gu gm gd gn gf cu cm cd cn : Nat) : Nat → Reg.Told
  | 0 => .inl (.agg #[.int .u64 a, .int .u64 b, .int .u64 c, .int .u64 d])
  | 1 => .inl (.agg #[.int .u64 x, .int .u64 y, .int .u64 z, .int .u64 u])
  | 2 => .inr ⟨fun g => .slice (some ⟨g, 0, none⟩) 2 2, 24, #[.int .u64 a, .int .u64 b, .int .u64 c, .int .u64 d, .int .u64 x, .int .u64 y, .int .u64 z, .int .u64 u]⟩
  | 3 => .inl (.agg #[.int .u64 (orr (orr 0 a) x), .int .u64 (orr (orr 0 b) y), .int .u64 (orr (orr 0 c) z), .int .u64 (orr (orr 0 d) u)])
  | 4 => .inl (.slice (some ⟨gu, 0, none⟩) 256 cu)
  | 5 => .inl (.agg #[.int .u64 (orr (orr 0 a) x), .int .u64 (orr (orr 0 b) y), .int .u64 (orr (orr 0 c) z), .int .u64 (orr (orr 0 d) u)])
  | 6 => .inl (.bool true)
  | 7 => .inl (.bool true)
  | 8 => .inl (.agg #[.int .u64 a, .int .u64 b, .int .u64 c, .int .u64 d])
  | 9 => .inl (.agg #[.int .u64 x, .int .u64 y, .int .u64 z, .int .u64 u])
  | 10 => .inl (.agg #[.int .u64 (an a x), .int .u64 (an b y), .int .u64 (an c z), .int .u64 (an d u)])
  | 11 => .inl (.slice (some ⟨gm, 0, none⟩) 256 cm)
  | 12 => .inl (.agg #[.int .u64 (an a x), .int .u64 (an b y), .int .u64 (an c z), .int .u64 (an d u)])
  | 13 => .inl (.bool true)
  | 14 => .inl (.bool true)
  | 15 => .inl (.bool true)
  | 16 => .inl (.agg #[.int .u64 a, .int .u64 b, .int .u64 c, .int .u64 d])
  | 17 => .inl (.agg #[.int .u64 x, .int .u64 y, .int .u64 z, .int .u64 u])
  | 18 => .inl (.agg #[.int .u64 (an a (nt x)), .int .u64 (an b (nt y)), .int .u64 (an c (nt z)), .int .u64 (an d (nt u))])
  | 19 => .inl (.slice (some ⟨gd, 0, none⟩) 256 cd)
  | 20 => .inl (.agg #[.int .u64 (an a (nt x)), .int .u64 (an b (nt y)), .int .u64 (an c (nt z)), .int .u64 (an d (nt u))])
  | 21 => .inl (.bool true)
  | 22 => .inl (.bool true)
  | 23 => .inl (.bool true)
  | 24 => .inl (.agg #[.int .u64 a, .int .u64 b, .int .u64 c, .int .u64 d])
  | 25 => .inl (.agg #[.int .u64 (nt a), .int .u64 (nt b), .int .u64 (nt c), .int .u64 (nt d)])
  | 26 => .inl (.slice (some ⟨gn, 0, none⟩) 256 cn)
  | 27 => .inl (.agg #[.int .u64 (nt a), .int .u64 (nt b), .int .u64 (nt c), .int .u64 (nt d)])
  | 28 => .inl (.bool true)
  | 29 => .inl (.bool true)
  | 30 => .inl (.bool true)
  | 31 => .inl (.agg #[.int .u64 a, .int .u64 b, .int .u64 c, .int .u64 d])
  | 32 => .inl (.agg #[.int .u64 x, .int .u64 y, .int .u64 z, .int .u64 u])
  | 33 => .inl (.bool (withk (memb a b c d) (memb x y z u) 256))
  | 34 => .inl (.bool (withk (memb a b c d) (memb x y z u) 256))
  | 35 => .inl (.bool true)
  | 36 => .inl (.bool true)
  | 37 => .inl (.bool true)
  | 38 => .inl (.agg #[.int .u64 a, .int .u64 b, .int .u64 c, .int .u64 d])
  | 39 => .inl (.agg #[.int .u64 a, .int .u64 (fo b), .int .u64 c, .int .u64 d])
  | 40 => .inl (.slice (some ⟨gf, 0, none⟩) 256 256)
  | 41 => .inl (.agg #[.int .u64 a, .int .u64 (fo b), .int .u64 c, .int .u64 d])
  | 42 => .inl (.bool true)
  | 43 => .inl (.bool true)
  | 44 => .inl (.bool true)
  | 45 => .inl (.agg #[.int .u64 a, .int .u64 b, .int .u64 c, .int .u64 d])
  | 46 => .inl (.int .u8 k)
  | 47 => .inl (.bool (memb a b c d k.toNat))
  | 48 => .inl (.slice (some ⟨gx, 0, none⟩) 256 256)
  | 49 => .inl (.int .u8 k)
  | 50 => .inl (.pointer (some ⟨gx, k.toNat, none⟩))
  | 51 => .inl (.bool (memb a b c d k.toNat))
  | 52 => .inl (.bool true)
  | 53 => .inl (.bool true)
  | 54 => .inl (.bool true)
  | 55 => .inl (.agg #[.int .u64 0, .int .u64 0, .int .u64 0, .int .u64 0])
  | 56 => .inl (.agg #[.int .u64 0, .int .u64 0, .int .u64 0, .int .u64 0])
  | 57 => .inl (.bool true)
  | 58 => .inl (.bool true)
  | 59 => .inl (.bool true)
  | 60 => .inl (.bool true)
  | 61 => .inl (.bool true)
  | 62 => .inl (.bool true)
  | _ => .inl undef
end Go.Proofs.Ytcpdobldconnaaa
