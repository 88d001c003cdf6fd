/- The law BytesLattice, walked. -/
import Derived.Test.YtknjgopoijkkpaaFolds
import Derived.Test.YtknjgopoijkkpaaRegion
namespace Go.Proofs.Ytknjgopoijkkpaa
open Go Go.RowKit
attribute [local go_sem ↓] Go.wp_at_zero Go.wp_at_succ
attribute [local go_sem] eq4
theorem union_blk {a b c d x y z u : Int} {w : World} {g : Nat} (h : w.heap[g]? = some (.cells #[.int .u64 a, .int .u64 b, .int .u64 c, .int .u64 d, .int .u64 x, .int .u64 y, .int .u64 z, .int .u64 u] 24)) :
    Calls Try.prog 9 #[.slice (some ⟨g, 0, none⟩) 2 2] w fun e w' => e = .returned (.agg #[.int .u64 (orr (orr 0 a) x), .int .u64 (orr (orr 0 b) y), .int .u64 (orr (orr 0 c) z), .int .u64 (orr (orr 0 d) u)]) ∧ Below w.heap.size w w' :=
  union_two g a b c d x y z u w (Reg.size_of_get h) (Joins.cell_of_block h 0) (Joins.cell_of_block h 1) (Joins.cell_of_block h 2) (Joins.cell_of_block h 3) (Joins.cell_of_block h 4) (Joins.cell_of_block h 5) (Joins.cell_of_block h 6) (Joins.cell_of_block h 7)
/-- .. and two more sets in two more. -/
abbrev Held5 (w : World) (g0 g1 g2 g3 g4 : Nat) (a b c d x y z u p q r s a' b' c' d' x' y' z' u' : Int) (w' : World) : Prop :=
  (w'.cell? ⟨g3, 0, none⟩ = some (.int .u64 a') ∧ w'.cell? ⟨g3, 1, none⟩ = some (.int .u64 b') ∧ w'.cell? ⟨g3, 2, none⟩ = some (.int .u64 c') ∧ w'.cell? ⟨g3, 3, none⟩ = some (.int .u64 d')) ∧
  (w'.cell? ⟨g4, 0, none⟩ = some (.int .u64 x') ∧ w'.cell? ⟨g4, 1, none⟩ = some (.int .u64 y') ∧ w'.cell? ⟨g4, 2, none⟩ = some (.int .u64 z') ∧ w'.cell? ⟨g4, 3, none⟩ = some (.int .u64 u')) ∧
  g3 < w'.heap.size ∧ g4 < w'.heap.size ∧ Held3 w g0 g1 g2 a b c d x y z u p q r s w'
theorem held5_of {w : World} {g0 g1 g2 g3 g4 : Nat} {a b c d x y z u p q r s a' b' c' d' x' y' z' u' : Int} {w' : World} (h : Held3 w g0 g1 g2 a b c d x y z u p q r s w')
    (h3 : w'.heap[g3]? = some (.cells #[.int .u64 a', .int .u64 b', .int .u64 c', .int .u64 d'] 24)) (h4 : w'.heap[g4]? = some (.cells #[.int .u64 x', .int .u64 y', .int .u64 z', .int .u64 u'] 24)) :
    Held5 w g0 g1 g2 g3 g4 a b c d x y z u p q r s a' b' c' d' x' y' z' u' w' :=
  ⟨⟨Joins.cell_of_block h3 0, Joins.cell_of_block h3 1, Joins.cell_of_block h3 2, Joins.cell_of_block h3 3⟩, ⟨Joins.cell_of_block h4 0, Joins.cell_of_block h4 1, Joins.cell_of_block h4 2, Joins.cell_of_block h4 3⟩, Reg.size_of_get h3, Reg.size_of_get h4, h⟩
theorem held5_below {w : World} {g0 g1 g2 g3 g4 : Nat} {a b c d x y z u p q r s a' b' c' d' x' y' z' u' : Int} {X Y : World} (hb : Below X.heap.size X Y) (h : Held5 w g0 g1 g2 g3 g4 a b c d x y z u p q r s a' b' c' d' x' y' z' u' X) :
    Held5 w g0 g1 g2 g3 g4 a b c d x y z u p q r s a' b' c' d' x' y' z' u' Y := by
  obtain ⟨hc, _, hz⟩ := bcell hb
  obtain ⟨h0, h1, l0, l1, k⟩ := h
  refine ⟨?_, ?_, by omega, by omega, held3_below hb k⟩
  · simp only [hc g3 _ l0]; exact h0
  · simp only [hc g4 _ l1]; exact h1
theorem held5_alloc {w : World} {g0 g1 g2 g3 g4 : Nat} {a b c d x y z u p q r s a' b' c' d' x' y' z' u' : Int} {X : World} (h : Held5 w g0 g1 g2 g3 g4 a b c d x y z u p q r s a' b' c' d' x' y' z' u' X) (o : Obj) :
    Held5 w g0 g1 g2 g3 g4 a b c d x y z u p q r s a' b' c' d' x' y' z' u' (X.alloc o) := held5_below (below1 X o) h
theorem pw_or_an (a x : Int) (ha : Fit a) (hx : Fit x) : pw (orr (orr 0 a) x) + pw (an a x) = pw a + pw x := by
  obtain ⟨Av, rfl⟩ := Int.eq_ofNat_of_zero_le ha.1
  obtain ⟨Xv, rfl⟩ := Int.eq_ofNat_of_zero_le hx.1
  have hA : Av < 18446744073709551616 := by have := ha.2; omega
  have hX : Xv < 18446744073709551616 := by have := hx.2; omega
  have e1 : orr (orr 0 (Av : Int)) (Xv : Int) = ((Av ||| Xv : Nat) : Int) := by rw [zero_or _ ha]; exact bits_or_u64_nat Av Xv hA hX
  have e2 : an (Av : Int) (Xv : Int) = ((Av &&& Xv : Nat) : Int) := bits_and_u64_nat Av Xv hA hX
  rw [e1, e2]
  unfold pw
  simp only [Int.toNat_natCast]
  have := Pop.bitsum_or_and 64 Av Xv
  omega
def latTold (a b c d x y z u : Int) : Nat → Reg.Told
  | 0 => .inl (.agg #[.int .u64 a, .int .u64 b, .int .u64 c, .int .u64 d])
  | 1 => .inl (.agg #[.int .u64 x, .int .u64 y, .int .u64 z, .int .u64 u])
  | 2 => .inr ⟨fun g => .slice (some ⟨g, 0, none⟩) 2 2, 24, #[.int .u64 a, .int .u64 b, .int .u64 c, .int .u64 d, .int .u64 x, .int .u64 y, .int .u64 z, .int .u64 u]⟩
  | 3 => .inl (.agg #[.int .u64 (orr (orr 0 a) x), .int .u64 (orr (orr 0 b) y), .int .u64 (orr (orr 0 c) z), .int .u64 (orr (orr 0 d) u)])
  | 4 => .inl (.agg #[.int .u64 a, .int .u64 b, .int .u64 c, .int .u64 d])
  | 5 => .inl (.agg #[.int .u64 x, .int .u64 y, .int .u64 z, .int .u64 u])
  | 6 => .inl (.agg #[.int .u64 (an a x), .int .u64 (an b y), .int .u64 (an c z), .int .u64 (an d u)])
  | 7 => .inr ⟨fun g => .pointer (some ⟨g, 0, none⟩), 24, #[.int .u64 0, .int .u64 0, .int .u64 0, .int .u64 0]⟩
  | 8 => .inr ⟨fun g => .pointer (some ⟨g, 0, none⟩), 24, #[.int .u64 0, .int .u64 0, .int .u64 0, .int .u64 0]⟩
  | _ => .inl undef
def latFills (a b c d x y z u : Int) : List Reg.Fill := [(9, 7, #[.int .u64 (orr (orr 0 a) x), .int .u64 (orr (orr 0 b) y), .int .u64 (orr (orr 0 c) z), .int .u64 (orr (orr 0 d) u)]), (10, 8, #[.int .u64 (an a x), .int .u64 (an b y), .int .u64 (an c z), .int .u64 (an d u)])]
theorem lat_facts (a b c d x y z u p q r s : Int) (fa : Fit a) (fb : Fit b) (fc : Fit c) (fd : Fit d) :
    (orr (orr 0 x) a = orr (orr 0 a) x ∧ orr (orr 0 y) b = orr (orr 0 b) y ∧ orr (orr 0 z) c = orr (orr 0 c) z ∧ orr (orr 0 u) d = orr (orr 0 d) u) ∧
    (an x a = an a x ∧ an y b = an b y ∧ an z c = an c z ∧ an u d = an d u) ∧
    (an a (orr (orr 0 a) x) = a ∧ an b (orr (orr 0 b) y) = b ∧ an c (orr (orr 0 c) z) = c ∧ an d (orr (orr 0 d) u) = d) ∧
    (orr (orr 0 a) (an a x) = a ∧ orr (orr 0 b) (an b y) = b ∧ orr (orr 0 c) (an c z) = c ∧ orr (orr 0 d) (an d u) = d) ∧
    (an a (orr (orr 0 x) p) = orr (orr 0 (an a x)) (an a p) ∧ an b (orr (orr 0 y) q) = orr (orr 0 (an b y)) (an b q) ∧ an c (orr (orr 0 z) r) = orr (orr 0 (an c z)) (an c r) ∧ an d (orr (orr 0 u) s) = orr (orr 0 (an d u)) (an d s)) ∧
    (nt (orr (orr 0 a) x) = an (nt a) (nt x) ∧ nt (orr (orr 0 b) y) = an (nt b) (nt y) ∧ nt (orr (orr 0 c) z) = an (nt c) (nt z) ∧ nt (orr (orr 0 d) u) = an (nt d) (nt u)) ∧ fo (fo b) = fo b :=
  ⟨⟨or_zero_comm _ _, or_zero_comm _ _, or_zero_comm _ _, or_zero_comm _ _⟩, ⟨an_comm' _ _, an_comm' _ _, an_comm' _ _, an_comm' _ _⟩, ⟨an_or_self _ _ fa, an_or_self _ _ fb, an_or_self _ _ fc, an_or_self _ _ fd⟩,
   ⟨or_an_self _ _ fa, or_an_self _ _ fb, or_an_self _ _ fc, or_an_self _ _ fd⟩, ⟨an_or_dist _ _ _, an_or_dist _ _ _, an_or_dist _ _ _, an_or_dist _ _ _⟩, ⟨nt_or _ _, nt_or _ _, nt_or _ _, nt_or _ _⟩, fo_fo b fb⟩
theorem lat_count (a b c d x y z u : Int) (fa : Fit a) (fb : Fit b) (fc : Fit c) (fd : Fit d) (fx : Fit x) (fy : Fit y) (fz : Fit z) (fu : Fit u) :
    ((pw (orr (orr 0 a) x) + pw (orr (orr 0 b) y) + pw (orr (orr 0 c) z) + pw (orr (orr 0 d) u)) + (pw (an a x) + pw (an b y) + pw (an c z) + pw (an d u)) == (pw a + pw b + pw c + pw d) + (pw x + pw y + pw z + pw u)) = true := by
  have k0 := pw_or_an a x fa fx
  have k1 := pw_or_an b y fb fy
  have k2 := pw_or_an c z fc fz
  have k3 := pw_or_an d u fd fu
  rw [beq_iff_eq]; omega
def latTold2 (a b c d x y z u p q r s : Int) : Nat → Reg.Told
  | 0 => .inl (.agg #[.int .u64 (orr (orr 0 a) x), .int .u64 (orr (orr 0 b) y), .int .u64 (orr (orr 0 c) z), .int .u64 (orr (orr 0 d) u)])
  | 1 => .inl (.agg #[.int .u64 x, .int .u64 y, .int .u64 z, .int .u64 u])
  | 2 => .inl (.agg #[.int .u64 a, .int .u64 b, .int .u64 c, .int .u64 d])
  | 3 => .inr ⟨fun g => .slice (some ⟨g, 0, none⟩) 2 2, 24, #[.int .u64 x, .int .u64 y, .int .u64 z, .int .u64 u, .int .u64 a, .int .u64 b, .int .u64 c, .int .u64 d]⟩
  | 4 => .inl (.agg #[.int .u64 (orr (orr 0 x) a), .int .u64 (orr (orr 0 y) b), .int .u64 (orr (orr 0 z) c), .int .u64 (orr (orr 0 u) d)])
  | 5 => .inl (.bool true)
  | 6 => .inl (.bool true)
  | 7 => .inl (.agg #[.int .u64 (an a x), .int .u64 (an b y), .int .u64 (an c z), .int .u64 (an d u)])
  | 8 => .inl (.agg #[.int .u64 x, .int .u64 y, .int .u64 z, .int .u64 u])
  | 9 => .inl (.agg #[.int .u64 a, .int .u64 b, .int .u64 c, .int .u64 d])
  | 10 => .inl (.agg #[.int .u64 (an x a), .int .u64 (an y b), .int .u64 (an z c), .int .u64 (an u d)])
  | 11 => .inl (.bool true)
  | 12 => .inl (.bool true)
  | 13 => .inl (.bool true)
  | 14 => .inl (.agg #[.int .u64 a, .int .u64 b, .int .u64 c, .int .u64 d])
  | 15 => .inl (.agg #[.int .u64 (orr (orr 0 a) x), .int .u64 (orr (orr 0 b) y), .int .u64 (orr (orr 0 c) z), .int .u64 (orr (orr 0 d) u)])
  | 16 => .inl (.agg #[.int .u64 (an a (orr (orr 0 a) x)), .int .u64 (an b (orr (orr 0 b) y)), .int .u64 (an c (orr (orr 0 c) z)), .int .u64 (an d (orr (orr 0 d) u))])
  | 17 => .inl (.agg #[.int .u64 a, .int .u64 b, .int .u64 c, .int .u64 d])
  | 18 => .inl (.bool true)
  | 19 => .inl (.bool true)
  | 20 => .inl (.bool true)
  | 21 => .inl (.agg #[.int .u64 a, .int .u64 b, .int .u64 c, .int .u64 d])
  | 22 => .inl (.agg #[.int .u64 (an a x), .int .u64 (an b y), .int .u64 (an c z), .int .u64 (an d u)])
  | 23 => .inr ⟨fun g => .slice (some ⟨g, 0, none⟩) 2 2, 24, #[.int .u64 a, .int .u64 b, .int .u64 c, .int .u64 d, .int .u64 (an a x), .int .u64 (an b y), .int .u64 (an c z), .int .u64 (an d u)]⟩
  | 24 => .inl (.agg #[.int .u64 (orr (orr 0 a) (an a x)), .int .u64 (orr (orr 0 b) (an b y)), .int .u64 (orr (orr 0 c) (an c z)), .int .u64 (orr (orr 0 d) (an d u))])
  | 25 => .inl (.agg #[.int .u64 a, .int .u64 b, .int .u64 c, .int .u64 d])
  | 26 => .inl (.bool true)
  | 27 => .inl (.bool true)
  | 28 => .inl (.bool true)
  | 29 => .inl (.agg #[.int .u64 a, .int .u64 b, .int .u64 c, .int .u64 d])
  | 30 => .inl (.agg #[.int .u64 x, .int .u64 y, .int .u64 z, .int .u64 u])
  | 31 => .inl (.agg #[.int .u64 p, .int .u64 q, .int .u64 r, .int .u64 s])
  | 32 => .inr ⟨fun g => .slice (some ⟨g, 0, none⟩) 2 2, 24, #[.int .u64 x, .int .u64 y, .int .u64 z, .int .u64 u, .int .u64 p, .int .u64 q, .int .u64 r, .int .u64 s]⟩
  | 33 => .inl (.agg #[.int .u64 (orr (orr 0 x) p), .int .u64 (orr (orr 0 y) q), .int .u64 (orr (orr 0 z) r), .int .u64 (orr (orr 0 u) s)])
  | 34 => .inl (.agg #[.int .u64 (an a (orr (orr 0 x) p)), .int .u64 (an b (orr (orr 0 y) q)), .int .u64 (an c (orr (orr 0 z) r)), .int .u64 (an d (orr (orr 0 u) s))])
  | 35 => .inl (.agg #[.int .u64 (an a x), .int .u64 (an b y), .int .u64 (an c z), .int .u64 (an d u)])
  | 36 => .inl (.agg #[.int .u64 a, .int .u64 b, .int .u64 c, .int .u64 d])
  | 37 => .inl (.agg #[.int .u64 p, .int .u64 q, .int .u64 r, .int .u64 s])
  | 38 => .inl (.agg #[.int .u64 (an a p), .int .u64 (an b q), .int .u64 (an c r), .int .u64 (an d s)])
  | 39 => .inr ⟨fun g => .slice (some ⟨g, 0, none⟩) 2 2, 24, #[.int .u64 (an a x), .int .u64 (an b y), .int .u64 (an c z), .int .u64 (an d u), .int .u64 (an a p), .int .u64 (an b q), .int .u64 (an c r), .int .u64 (an d s)]⟩
  | 40 => .inl (.agg #[.int .u64 (orr (orr 0 (an a x)) (an a p)), .int .u64 (orr (orr 0 (an b y)) (an b q)), .int .u64 (orr (orr 0 (an c z)) (an c r)), .int .u64 (orr (orr 0 (an d u)) (an d s))])
  | 41 => .inl (.bool true)
  | 42 => .inl (.bool true)
  | 43 => .inl (.bool true)
  | 44 => .inl (.agg #[.int .u64 (orr (orr 0 a) x), .int .u64 (orr (orr 0 b) y), .int .u64 (orr (orr 0 c) z), .int .u64 (orr (orr 0 d) u)])
  | 45 => .inl (.agg #[.int .u64 (nt (orr (orr 0 a) x)), .int .u64 (nt (orr (orr 0 b) y)), .int .u64 (nt (orr (orr 0 c) z)), .int .u64 (nt (orr (orr 0 d) u))])
  | 46 => .inl (.agg #[.int .u64 a, .int .u64 b, .int .u64 c, .int .u64 d])
  | 47 => .inl (.agg #[.int .u64 (nt a), .int .u64 (nt b), .int .u64 (nt c), .int .u64 (nt d)])
  | 48 => .inl (.agg #[.int .u64 x, .int .u64 y, .int .u64 z, .int .u64 u])
  | 49 => .inl (.agg #[.int .u64 (nt x), .int .u64 (nt y), .int .u64 (nt z), .int .u64 (nt u)])
  | 50 => .inl (.agg #[.int .u64 (an (nt a) (nt x)), .int .u64 (an (nt b) (nt y)), .int .u64 (an (nt c) (nt z)), .int .u64 (an (nt d) (nt u))])
  | 51 => .inl (.bool true)
  | 52 => .inl (.bool true)
  | 53 => .inl (.bool true)
  | 54 => .inl (.agg #[.int .u64 (orr (orr 0 a) x), .int .u64 (orr (orr 0 b) y), .int .u64 (orr (orr 0 c) z), .int .u64 (orr (orr 0 d) u)])
  | 55 => .inl (.int .i64 (pw (orr (orr 0 a) x) + pw (orr (orr 0 b) y) + pw (orr (orr 0 c) z) + pw (orr (orr 0 d) u)))
  | 56 => .inl (.agg #[.int .u64 (an a x), .int .u64 (an b y), .int .u64 (an c z), .int .u64 (an d u)])
  | 57 => .inl (.int .i64 (pw (an a x) + pw (an b y) + pw (an c z) + pw (an d u)))
  | 58 => .inl (.int .i64 (pw (orr (orr 0 a) x) + pw (orr (orr 0 b) y) + pw (orr (orr 0 c) z) + pw (orr (orr 0 d) u) + (pw (an a x) + pw (an b y) + pw (an c z) + pw (an d u))))
  | 59 => .inl (.agg #[.int .u64 a, .int .u64 b, .int .u64 c, .int .u64 d])
  | 60 => .inl (.int .i64 (pw a + pw b + pw c + pw d))
  | 61 => .inl (.agg #[.int .u64 x, .int .u64 y, .int .u64 z, .int .u64 u])
  | 62 => .inl (.int .i64 (pw x + pw y + pw z + pw u))
  | 63 => .inl (.int .i64 (pw a + pw b + pw c + pw d + (pw x + pw y + pw z + pw u)))
  | 64 => .inl (.bool true)
  | 65 => .inl (.bool true)
  | 66 => .inl (.bool true)
  | 67 => .inl (.agg #[.int .u64 a, .int .u64 b, .int .u64 c, .int .u64 d])
  | 68 => .inl (.agg #[.int .u64 a, .int .u64 (fo b), .int .u64 c, .int .u64 d])
  | 69 => .inl (.agg #[.int .u64 a, .int .u64 (fo (fo b)), .int .u64 c, .int .u64 d])
  | 70 => .inl (.agg #[.int .u64 a, .int .u64 b, .int .u64 c, .int .u64 d])
  | 71 => .inl (.agg #[.int .u64 a, .int .u64 (fo b), .int .u64 c, .int .u64 d])
  | 72 => .inl (.bool true)
  | 73 => .inl (.bool true)
  | 74 => .inl (.bool true)
  | 75 => .inl (.bool true)
  | 76 => .inl (.bool true)
  | 77 => .inl (.bool true)
  | _ => .inl undef
set_option maxRecDepth 100000 in
set_option maxHeartbeats 40000000 in
theorem lattice_walk (a b c d x y z u p q r s : Int) (w : World) (fa : Fit a) (fb : Fit b) (fc : Fit c) (fd : Fit d) (fx : Fit x) (fy : Fit y) (fz : Fit z) (fu : Fit u) :
    Calls Try.prog 4 #[.agg #[.int .u64 a, .int .u64 b, .int .u64 c, .int .u64 d], .agg #[.int .u64 x, .int .u64 y, .int .u64 z, .int .u64 u], .agg #[.int .u64 p, .int .u64 q, .int .u64 r, .int .u64 s]] w fun e w' => e = .returned (.bool true) ∧ Below w.heap.size w w' := by
  go_enter Try.func4, Try.ntmps4
  go_wp2_with fail
  generalize hW : ((w.alloc _).alloc _).alloc _ = W
  have HW : Held3 w w.heap.size (w.heap.size + 1) (w.heap.size + 1 + 1) a b c d x y z u p q r s W := by
    subst hW
    have l0 : w.heap.size < w.heap.size + 1 + 1 := by omega
    refine ⟨?_, ?_, ?_, by simp; omega, by simp, by simp, below3 _ _ _ _⟩
    · simp [go_sem, l0]
    · simp [go_sem]
    · simp [go_sem]
  clear hW
  generalize w.heap.size + 1 + 1 = g2 at *
  generalize w.heap.size + 1 = g1 at *
  generalize hg0 : w.heap.size = g0 at *
  clear hg0
  refine Reg.wp_region_told (latTold a b c d x y z u) (latFills a b c d x y z u) [0, 1, 2, 3, 4, 5, 6, 7, 8, 9, 10] (by rfl) (by kernel_rfl) (by kernel_rfl) (by intro f hf f' hf' h; simp [latFills] at hf hf'; rcases hf with rfl | rfl <;> rcases hf' with rfl | rfl <;> simp_all) (by intro f hf f' hf' h; simp [latFills] at hf hf'; rcases hf with rfl | rfl <;> rcases hf' with rfl | rfl <;> simp_all) ?_ ?_
  focus
    refine ⟨Reg.opOK_plain (by rfl) fun G listed A wv hI hall => .inl ⟨Reg.wanted_none rfl, ?_⟩, ?_⟩
    focus
      have H := held3_below hI.base (held3_drew HW)
      have e3 := hI.evo (d := 3) (by kernel_rfl) rfl
      clear hI hall HW
      unfold Reg.Yields
      go_simp
      exact Reg.good_val (by rfl) (by rfl) (Below.refl _ _)
    refine ⟨Reg.opOK_plain (by rfl) fun G listed A wv hI hall => .inl ⟨Reg.wanted_none rfl, ?_⟩, ?_⟩
    focus
      have H := held3_below hI.base (held3_drew HW)
      have e4 := hI.evo (d := 4) (by kernel_rfl) rfl
      clear hI hall HW
      unfold Reg.Yields
      go_simp
      exact Reg.good_val (by rfl) (by rfl) (Below.refl _ _)
    refine ⟨Reg.opOK_plain (by rfl) fun G listed A wv hI hall => .inl ⟨Reg.wanted_none rfl, ?_⟩, ?_⟩
    focus
      have e9 := hI.ev (i := 0) (d := 9) (by rfl) (by rfl) (hall ⟨0, .data⟩ (by simp) rfl)
      have e10 := hI.ev (i := 1) (d := 10) (by rfl) (by rfl) (hall ⟨1, .data⟩ (by simp) rfl)
      clear hI hall HW
      unfold Reg.Yields
      go_simp
      exact Reg.good_new (by rfl) (by rfl) (by rfl)
    refine ⟨Reg.opOK_plain (by rfl) fun G listed A wv hI hall => .inl ⟨Reg.wanted_none rfl, ?_⟩, ?_⟩
    focus
      obtain ⟨e11, _, b11⟩ := hI.evm (i := 2) (d := 11) (by rfl) (by rfl) (hall ⟨2, .data⟩ (by simp) rfl)
      clear hI hall HW
      unfold Reg.Yields
      go_simp
      exact (union_blk b11).mono fun e w'' ⟨he, hb⟩ => ⟨_, he, Reg.good_val (by rfl) (by rfl) hb⟩
    refine ⟨Reg.opOK_plain (by rfl) fun G listed A wv hI hall => .inl ⟨Reg.wanted_none rfl, ?_⟩, ?_⟩
    focus
      have H := held3_below hI.base (held3_drew HW)
      have e3 := hI.evo (d := 3) (by kernel_rfl) rfl
      clear hI hall HW
      unfold Reg.Yields
      go_simp
      exact Reg.good_val (by rfl) (by rfl) (Below.refl _ _)
    refine ⟨Reg.opOK_plain (by rfl) fun G listed A wv hI hall => .inl ⟨Reg.wanted_none rfl, ?_⟩, ?_⟩
    focus
      have H := held3_below hI.base (held3_drew HW)
      have e4 := hI.evo (d := 4) (by kernel_rfl) rfl
      clear hI hall HW
      unfold Reg.Yields
      go_simp
      exact Reg.good_val (by rfl) (by rfl) (Below.refl _ _)
    refine ⟨Reg.opOK_plain (by rfl) fun G listed A wv hI hall => .inl ⟨Reg.wanted_none rfl, ?_⟩, ?_⟩
    focus
      have e13 := hI.ev (i := 4) (d := 13) (by rfl) (by rfl) (hall ⟨4, .data⟩ (by simp) rfl)
      have e14 := hI.ev (i := 5) (d := 14) (by rfl) (by rfl) (hall ⟨5, .data⟩ (by simp) rfl)
      clear hI hall HW
      unfold Reg.Yields
      go_simp
      exact (meet_any _ _ _ _ _ _ _ _ _).mono fun e w'' ⟨he, hb⟩ => ⟨_, he, Reg.good_val (by rfl) (by rfl) hb⟩
    refine ⟨Reg.opOK_plain (by rfl) fun G listed A wv hI hall => .inl ⟨Reg.wanted_none rfl, ?_⟩, ?_⟩
    focus
      clear hI hall HW
      unfold Reg.Yields
      go_simp
      exact Reg.good_new (by rfl) (by rfl) (by rfl)
    refine ⟨Reg.opOK_plain (by rfl) fun G listed A wv hI hall => .inl ⟨Reg.wanted_none rfl, ?_⟩, ?_⟩
    focus
      clear hI hall HW
      unfold Reg.Yields
      go_simp
      exact Reg.good_new (by rfl) (by rfl) (by rfl)
    refine ⟨Reg.opOK_fill (by rfl) (by rfl) (by rfl) rfl rfl (by simp) (fun G listed A wv hI hall s7 hc => ?_) (by intro f hf f' hf' h; simp [latFills] at hf hf'; rcases hf with rfl | rfl <;> rcases hf' with rfl | rfl <;> simp_all), ?_⟩
    focus
      have e7 := s7
      have e12 := hI.ev (i := 3) (d := 12) (by rfl) (by rfl) (hall ⟨3, .data⟩ (by simp) rfl)
      clear hI hall HW
      unfold Reg.Yields
      rcases hc with hc | hc <;> (obtain ⟨c0, c1, c2, c3, f0, f1, f2, f3⟩ := Reg.cells4 hc; have hc' := hid hc; clear hc s7; go_simp; exact Reg.filled4 hc'.out _ _ _ _)
    refine ⟨Reg.opOK_fill (by rfl) (by rfl) (by rfl) rfl rfl (by simp) (fun G listed A wv hI hall s8 hc => ?_) (by intro f hf f' hf' h; simp [latFills] at hf hf'; rcases hf with rfl | rfl <;> rcases hf' with rfl | rfl <;> simp_all), ?_⟩
    focus
      have e8 := s8
      have e15 := hI.ev (i := 6) (d := 15) (by rfl) (by rfl) (hall ⟨6, .data⟩ (by simp) rfl)
      clear hI hall HW
      unfold Reg.Yields
      rcases hc with hc | hc <;> (obtain ⟨c0, c1, c2, c3, f0, f1, f2, f3⟩ := Reg.cells4 hc; have hc' := hid hc; clear hc s8; go_simp; exact Reg.filled4 hc'.out _ _ _ _)
    trivial
  intro G w1 hI
  obtain ⟨_, _, c7⟩ := hI.evm (i := 7) (d := 7) (by rfl) (by rfl) (by rfl)
  obtain ⟨_, _, c8⟩ := hI.evm (i := 8) (d := 8) (by rfl) (by rfl) (by rfl)
  have b7 : w1.heap[G 7]? = some (.cells #[.int .u64 (orr (orr 0 a) x), .int .u64 (orr (orr 0 b) y), .int .u64 (orr (orr 0 c) z), .int .u64 (orr (orr 0 d) u)] 24) := c7
  have b8 : w1.heap[G 8]? = some (.cells #[.int .u64 (an a x), .int .u64 (an b y), .int .u64 (an c z), .int .u64 (an d u)] 24) := c8
  have H0 := held5_of (held3_below hI.base (held3_drew HW)) b7 b8
  clear HW
  have HW := held5_below (Below.refl _ w1).drew H0
  clear hI b7 b8 c7 c8 H0
  simp [Reg.finalTmps, Reg.dstAt, Reg.valOf, latTold]
  generalize G 7 = g7 at *
  generalize G 8 = g8 at *
  go_wp2_with fail
  rename_i Q1 K1 ha
  have HA := hid ha
  clear ha
  refine Reg.wp_region_told (latTold2 a b c d x y z u p q r s) [] [0, 1, 2, 3, 4, 5, 6, 7, 8, 9, 10, 11, 12, 13, 14, 15, 16, 17, 18, 19, 20, 21, 22, 23, 24, 25, 26, 27, 28, 29, 30, 31, 32, 33, 34, 35, 36, 37, 38, 39, 40, 41, 42, 43, 44, 45, 46, 47, 48, 49, 50, 51, 52, 53, 54, 55, 56, 57, 58, 59, 60, 61, 62, 63, 64, 65, 66, 67, 68, 69, 70, 71, 72, 73, 74, 75, 76, 77] (by kernel_rfl) (by kernel_rfl) (by kernel_rfl) (by intro f hf; cases hf) (by intro f hf; cases hf) ?_ ?_
  focus
    refine ⟨Reg.opOK_plain (by rfl) fun G listed A wv hI hall => .inl ⟨Reg.wanted_none rfl, ?_⟩, ?_⟩
    focus
      have H := held5_below hI.base HW
      have e7 := hI.evo (d := 7) (by kernel_rfl) rfl
      clear hI hall HW
      unfold Reg.Yields
      go_simp
      exact Reg.good_val (by rfl) (by rfl) (Below.refl _ _)
    refine ⟨Reg.opOK_plain (by rfl) fun G listed A wv hI hall => .inl ⟨Reg.wanted_none rfl, ?_⟩, ?_⟩
    focus
      have H := held5_below hI.base HW
      have e4 := hI.evo (d := 4) (by kernel_rfl) rfl
      clear hI hall HW
      unfold Reg.Yields
      go_simp
      exact Reg.good_val (by rfl) (by rfl) (Below.refl _ _)
    refine ⟨Reg.opOK_plain (by rfl) fun G listed A wv hI hall => .inl ⟨Reg.wanted_none rfl, ?_⟩, ?_⟩
    focus
      have H := held5_below hI.base HW
      have e3 := hI.evo (d := 3) (by kernel_rfl) rfl
      clear hI hall HW
      unfold Reg.Yields
      go_simp
      exact Reg.good_val (by rfl) (by rfl) (Below.refl _ _)
    refine ⟨Reg.opOK_plain (by rfl) fun G listed A wv hI hall => .inl ⟨Reg.wanted_none rfl, ?_⟩, ?_⟩
    focus
      have e17 := hI.ev (i := 1) (d := 17) (by rfl) (by rfl) (hall ⟨1, .data⟩ (by simp) rfl)
      have e18 := hI.ev (i := 2) (d := 18) (by rfl) (by rfl) (hall ⟨2, .data⟩ (by simp) rfl)
      clear hI hall HW
      unfold Reg.Yields
      go_simp
      exact Reg.good_new (by rfl) (by rfl) (by rfl)
    refine ⟨Reg.opOK_plain (by rfl) fun G listed A wv hI hall => .inl ⟨Reg.wanted_none rfl, ?_⟩, ?_⟩
    focus
      obtain ⟨e19, _, b19⟩ := hI.evm (i := 3) (d := 19) (by rfl) (by rfl) (hall ⟨3, .data⟩ (by simp) rfl)
      clear hI hall HW
      unfold Reg.Yields
      go_simp
      exact (union_blk b19).mono fun e w'' ⟨he, hb⟩ => ⟨_, he, Reg.good_val (by rfl) (by rfl) hb⟩
    refine ⟨Reg.opOK_plain (by rfl) fun G listed A wv hI hall => .inl ⟨Reg.wanted_none rfl, ?_⟩, ?_⟩
    focus
      have e16 := hI.ev (i := 0) (d := 16) (by rfl) (by rfl) (hall ⟨0, .data⟩ (by simp) rfl)
      have e20 := hI.ev (i := 4) (d := 20) (by rfl) (by rfl) (hall ⟨4, .data⟩ (by simp) rfl)
      clear hI hall HW
      obtain ⟨r1, r2, r3, r4, r5, r6, r7⟩ := lat_facts a b c d x y z u p q r s fa fb fc fd
      obtain ⟨r11, r12, r13, r14⟩ := r1
      obtain ⟨r21, r22, r23, r24⟩ := r2
      obtain ⟨r31, r32, r33, r34⟩ := r3
      obtain ⟨r41, r42, r43, r44⟩ := r4
      obtain ⟨r51, r52, r53, r54⟩ := r5
      obtain ⟨r61, r62, r63, r64⟩ := r6
      unfold Reg.Yields
      go_simp
      exact Reg.good_val (by rfl) (by rfl) (Below.refl _ _)
    refine ⟨Reg.opOK_plain (by rfl) fun G listed A wv hI hall => .inl ⟨Reg.wanted_none rfl, ?_⟩, ?_⟩
    focus
      have e21 := hI.ev (i := 5) (d := 21) (by rfl) (by rfl) (hall ⟨5, .data⟩ (by simp) rfl)
      clear hI hall HW
      unfold Reg.Yields
      go_simp
      exact Reg.good_val (by rfl) (by rfl) (Below.refl _ _)
    refine ⟨Reg.opOK_plain (by rfl) fun G listed A wv hI hall => .inl ⟨(Reg.wanted_some rfl (by rfl) (hI.ev (i := 6) (d := 22) (by rfl) (by rfl) (hall ⟨6, .guard⟩ (by simp) rfl))).trans rfl, ?_⟩, ?_⟩
    focus
      have H := held5_below hI.base HW
      have e8 := hI.evo (d := 8) (by kernel_rfl) rfl
      clear hI hall HW
      unfold Reg.Yields
      go_simp
      exact Reg.good_val (by rfl) (by rfl) (Below.refl _ _)
    refine ⟨Reg.opOK_plain (by rfl) fun G listed A wv hI hall => .inl ⟨(Reg.wanted_some rfl (by rfl) (hI.ev (i := 6) (d := 22) (by rfl) (by rfl) (hall ⟨6, .guard⟩ (by simp) rfl))).trans rfl, ?_⟩, ?_⟩
    focus
      have H := held5_below hI.base HW
      have e4 := hI.evo (d := 4) (by kernel_rfl) rfl
      clear hI hall HW
      unfold Reg.Yields
      go_simp
      exact Reg.good_val (by rfl) (by rfl) (Below.refl _ _)
    refine ⟨Reg.opOK_plain (by rfl) fun G listed A wv hI hall => .inl ⟨(Reg.wanted_some rfl (by rfl) (hI.ev (i := 6) (d := 22) (by rfl) (by rfl) (hall ⟨6, .guard⟩ (by simp) rfl))).trans rfl, ?_⟩, ?_⟩
    focus
      have H := held5_below hI.base HW
      have e3 := hI.evo (d := 3) (by kernel_rfl) rfl
      clear hI hall HW
      unfold Reg.Yields
      go_simp
      exact Reg.good_val (by rfl) (by rfl) (Below.refl _ _)
    refine ⟨Reg.opOK_plain (by rfl) fun G listed A wv hI hall => .inl ⟨(Reg.wanted_some rfl (by rfl) (hI.ev (i := 6) (d := 22) (by rfl) (by rfl) (hall ⟨6, .guard⟩ (by simp) rfl))).trans rfl, ?_⟩, ?_⟩
    focus
      have e24 := hI.ev (i := 8) (d := 24) (by rfl) (by rfl) (hall ⟨8, .data⟩ (by simp) rfl)
      have e25 := hI.ev (i := 9) (d := 25) (by rfl) (by rfl) (hall ⟨9, .data⟩ (by simp) rfl)
      clear hI hall HW
      unfold Reg.Yields
      go_simp
      exact (meet_any _ _ _ _ _ _ _ _ _).mono fun e w'' ⟨he, hb⟩ => ⟨_, he, Reg.good_val (by rfl) (by rfl) hb⟩
    refine ⟨Reg.opOK_plain (by rfl) fun G listed A wv hI hall => .inl ⟨(Reg.wanted_some rfl (by rfl) (hI.ev (i := 6) (d := 22) (by rfl) (by rfl) (hall ⟨6, .guard⟩ (by simp) rfl))).trans rfl, ?_⟩, ?_⟩
    focus
      have e23 := hI.ev (i := 7) (d := 23) (by rfl) (by rfl) (hall ⟨7, .data⟩ (by simp) rfl)
      have e26 := hI.ev (i := 10) (d := 26) (by rfl) (by rfl) (hall ⟨10, .data⟩ (by simp) rfl)
      clear hI hall HW
      obtain ⟨r1, r2, r3, r4, r5, r6, r7⟩ := lat_facts a b c d x y z u p q r s fa fb fc fd
      obtain ⟨r11, r12, r13, r14⟩ := r1
      obtain ⟨r21, r22, r23, r24⟩ := r2
      obtain ⟨r31, r32, r33, r34⟩ := r3
      obtain ⟨r41, r42, r43, r44⟩ := r4
      obtain ⟨r51, r52, r53, r54⟩ := r5
      obtain ⟨r61, r62, r63, r64⟩ := r6
      unfold Reg.Yields
      go_simp
      exact Reg.good_val (by rfl) (by rfl) (Below.refl _ _)
    refine ⟨Reg.opOK_plain (by rfl) fun G listed A wv hI hall => .inl ⟨Reg.wanted_none rfl, ?_⟩, ?_⟩
    focus
      have e22 := hI.ev (i := 6) (d := 22) (by rfl) (by rfl) (hall ⟨6, .data⟩ (by simp) rfl)
      have e27 := hI.ev (i := 11) (d := 27) (by rfl) (by rfl) (hall ⟨11, .data⟩ (by simp) rfl)
      clear hI hall HW
      unfold Reg.Yields
      go_simp
      exact Reg.good_val (by rfl) (by rfl) (Below.refl _ _)
    refine ⟨Reg.opOK_plain (by rfl) fun G listed A wv hI hall => .inl ⟨Reg.wanted_none rfl, ?_⟩, ?_⟩
    focus
      have e28 := hI.ev (i := 12) (d := 28) (by rfl) (by rfl) (hall ⟨12, .data⟩ (by simp) rfl)
      clear hI hall HW
      unfold Reg.Yields
      go_simp
      exact Reg.good_val (by rfl) (by rfl) (Below.refl _ _)
    refine ⟨Reg.opOK_plain (by rfl) fun G listed A wv hI hall => .inl ⟨(Reg.wanted_some rfl (by rfl) (hI.ev (i := 13) (d := 29) (by rfl) (by rfl) (hall ⟨13, .guard⟩ (by simp) rfl))).trans rfl, ?_⟩, ?_⟩
    focus
      have H := held5_below hI.base HW
      have e3 := hI.evo (d := 3) (by kernel_rfl) rfl
      clear hI hall HW
      unfold Reg.Yields
      go_simp
      exact Reg.good_val (by rfl) (by rfl) (Below.refl _ _)
    refine ⟨Reg.opOK_plain (by rfl) fun G listed A wv hI hall => .inl ⟨(Reg.wanted_some rfl (by rfl) (hI.ev (i := 13) (d := 29) (by rfl) (by rfl) (hall ⟨13, .guard⟩ (by simp) rfl))).trans rfl, ?_⟩, ?_⟩
    focus
      have H := held5_below hI.base HW
      have e7 := hI.evo (d := 7) (by kernel_rfl) rfl
      clear hI hall HW
      unfold Reg.Yields
      go_simp
      exact Reg.good_val (by rfl) (by rfl) (Below.refl _ _)
    refine ⟨Reg.opOK_plain (by rfl) fun G listed A wv hI hall => .inl ⟨(Reg.wanted_some rfl (by rfl) (hI.ev (i := 13) (d := 29) (by rfl) (by rfl) (hall ⟨13, .guard⟩ (by simp) rfl))).trans rfl, ?_⟩, ?_⟩
    focus
      have e30 := hI.ev (i := 14) (d := 30) (by rfl) (by rfl) (hall ⟨14, .data⟩ (by simp) rfl)
      have e31 := hI.ev (i := 15) (d := 31) (by rfl) (by rfl) (hall ⟨15, .data⟩ (by simp) rfl)
      clear hI hall HW
      unfold Reg.Yields
      go_simp
      exact (meet_any _ _ _ _ _ _ _ _ _).mono fun e w'' ⟨he, hb⟩ => ⟨_, he, Reg.good_val (by rfl) (by rfl) hb⟩
    refine ⟨Reg.opOK_plain (by rfl) fun G listed A wv hI hall => .inl ⟨(Reg.wanted_some rfl (by rfl) (hI.ev (i := 13) (d := 29) (by rfl) (by rfl) (hall ⟨13, .guard⟩ (by simp) rfl))).trans rfl, ?_⟩, ?_⟩
    focus
      have H := held5_below hI.base HW
      have e3 := hI.evo (d := 3) (by kernel_rfl) rfl
      clear hI hall HW
      unfold Reg.Yields
      go_simp
      exact Reg.good_val (by rfl) (by rfl) (Below.refl _ _)
    refine ⟨Reg.opOK_plain (by rfl) fun G listed A wv hI hall => .inl ⟨(Reg.wanted_some rfl (by rfl) (hI.ev (i := 13) (d := 29) (by rfl) (by rfl) (hall ⟨13, .guard⟩ (by simp) rfl))).trans rfl, ?_⟩, ?_⟩
    focus
      have e32 := hI.ev (i := 16) (d := 32) (by rfl) (by rfl) (hall ⟨16, .data⟩ (by simp) rfl)
      have e33 := hI.ev (i := 17) (d := 33) (by rfl) (by rfl) (hall ⟨17, .data⟩ (by simp) rfl)
      clear hI hall HW
      obtain ⟨r1, r2, r3, r4, r5, r6, r7⟩ := lat_facts a b c d x y z u p q r s fa fb fc fd
      obtain ⟨r11, r12, r13, r14⟩ := r1
      obtain ⟨r21, r22, r23, r24⟩ := r2
      obtain ⟨r31, r32, r33, r34⟩ := r3
      obtain ⟨r41, r42, r43, r44⟩ := r4
      obtain ⟨r51, r52, r53, r54⟩ := r5
      obtain ⟨r61, r62, r63, r64⟩ := r6
      unfold Reg.Yields
      go_simp
      exact Reg.good_val (by rfl) (by rfl) (Below.refl _ _)
    refine ⟨Reg.opOK_plain (by rfl) fun G listed A wv hI hall => .inl ⟨Reg.wanted_none rfl, ?_⟩, ?_⟩
    focus
      have e29 := hI.ev (i := 13) (d := 29) (by rfl) (by rfl) (hall ⟨13, .data⟩ (by simp) rfl)
      have e34 := hI.ev (i := 18) (d := 34) (by rfl) (by rfl) (hall ⟨18, .data⟩ (by simp) rfl)
      clear hI hall HW
      unfold Reg.Yields
      go_simp
      exact Reg.good_val (by rfl) (by rfl) (Below.refl _ _)
    refine ⟨Reg.opOK_plain (by rfl) fun G listed A wv hI hall => .inl ⟨Reg.wanted_none rfl, ?_⟩, ?_⟩
    focus
      have e35 := hI.ev (i := 19) (d := 35) (by rfl) (by rfl) (hall ⟨19, .data⟩ (by simp) rfl)
      clear hI hall HW
      unfold Reg.Yields
      go_simp
      exact Reg.good_val (by rfl) (by rfl) (Below.refl _ _)
    refine ⟨Reg.opOK_plain (by rfl) fun G listed A wv hI hall => .inl ⟨(Reg.wanted_some rfl (by rfl) (hI.ev (i := 20) (d := 36) (by rfl) (by rfl) (hall ⟨20, .guard⟩ (by simp) rfl))).trans rfl, ?_⟩, ?_⟩
    focus
      have H := held5_below hI.base HW
      have e3 := hI.evo (d := 3) (by kernel_rfl) rfl
      clear hI hall HW
      unfold Reg.Yields
      go_simp
      exact Reg.good_val (by rfl) (by rfl) (Below.refl _ _)
    refine ⟨Reg.opOK_plain (by rfl) fun G listed A wv hI hall => .inl ⟨(Reg.wanted_some rfl (by rfl) (hI.ev (i := 20) (d := 36) (by rfl) (by rfl) (hall ⟨20, .guard⟩ (by simp) rfl))).trans rfl, ?_⟩, ?_⟩
    focus
      have H := held5_below hI.base HW
      have e8 := hI.evo (d := 8) (by kernel_rfl) rfl
      clear hI hall HW
      unfold Reg.Yields
      go_simp
      exact Reg.good_val (by rfl) (by rfl) (Below.refl _ _)
    refine ⟨Reg.opOK_plain (by rfl) fun G listed A wv hI hall => .inl ⟨(Reg.wanted_some rfl (by rfl) (hI.ev (i := 20) (d := 36) (by rfl) (by rfl) (hall ⟨20, .guard⟩ (by simp) rfl))).trans rfl, ?_⟩, ?_⟩
    focus
      have e37 := hI.ev (i := 21) (d := 37) (by rfl) (by rfl) (hall ⟨21, .data⟩ (by simp) rfl)
      have e38 := hI.ev (i := 22) (d := 38) (by rfl) (by rfl) (hall ⟨22, .data⟩ (by simp) rfl)
      clear hI hall HW
      unfold Reg.Yields
      go_simp
      exact Reg.good_new (by rfl) (by rfl) (by rfl)
    refine ⟨Reg.opOK_plain (by rfl) fun G listed A wv hI hall => .inl ⟨(Reg.wanted_some rfl (by rfl) (hI.ev (i := 20) (d := 36) (by rfl) (by rfl) (hall ⟨20, .guard⟩ (by simp) rfl))).trans rfl, ?_⟩, ?_⟩
    focus
      obtain ⟨e39, _, b39⟩ := hI.evm (i := 23) (d := 39) (by rfl) (by rfl) (hall ⟨23, .data⟩ (by simp) rfl)
      clear hI hall HW
      unfold Reg.Yields
      go_simp
      exact (union_blk b39).mono fun e w'' ⟨he, hb⟩ => ⟨_, he, Reg.good_val (by rfl) (by rfl) hb⟩
    refine ⟨Reg.opOK_plain (by rfl) fun G listed A wv hI hall => .inl ⟨(Reg.wanted_some rfl (by rfl) (hI.ev (i := 20) (d := 36) (by rfl) (by rfl) (hall ⟨20, .guard⟩ (by simp) rfl))).trans rfl, ?_⟩, ?_⟩
    focus
      have H := held5_below hI.base HW
      have e3 := hI.evo (d := 3) (by kernel_rfl) rfl
      clear hI hall HW
      unfold Reg.Yields
      go_simp
      exact Reg.good_val (by rfl) (by rfl) (Below.refl _ _)
    refine ⟨Reg.opOK_plain (by rfl) fun G listed A wv hI hall => .inl ⟨(Reg.wanted_some rfl (by rfl) (hI.ev (i := 20) (d := 36) (by rfl) (by rfl) (hall ⟨20, .guard⟩ (by simp) rfl))).trans rfl, ?_⟩, ?_⟩
    focus
      have e40 := hI.ev (i := 24) (d := 40) (by rfl) (by rfl) (hall ⟨24, .data⟩ (by simp) rfl)
      have e41 := hI.ev (i := 25) (d := 41) (by rfl) (by rfl) (hall ⟨25, .data⟩ (by simp) rfl)
      clear hI hall HW
      obtain ⟨r1, r2, r3, r4, r5, r6, r7⟩ := lat_facts a b c d x y z u p q r s fa fb fc fd
      obtain ⟨r11, r12, r13, r14⟩ := r1
      obtain ⟨r21, r22, r23, r24⟩ := r2
      obtain ⟨r31, r32, r33, r34⟩ := r3
      obtain ⟨r41, r42, r43, r44⟩ := r4
      obtain ⟨r51, r52, r53, r54⟩ := r5
      obtain ⟨r61, r62, r63, r64⟩ := r6
      unfold Reg.Yields
      go_simp
      exact Reg.good_val (by rfl) (by rfl) (Below.refl _ _)
    refine ⟨Reg.opOK_plain (by rfl) fun G listed A wv hI hall => .inl ⟨Reg.wanted_none rfl, ?_⟩, ?_⟩
    focus
      have e36 := hI.ev (i := 20) (d := 36) (by rfl) (by rfl) (hall ⟨20, .data⟩ (by simp) rfl)
      have e42 := hI.ev (i := 26) (d := 42) (by rfl) (by rfl) (hall ⟨26, .data⟩ (by simp) rfl)
      clear hI hall HW
      unfold Reg.Yields
      go_simp
      exact Reg.good_val (by rfl) (by rfl) (Below.refl _ _)
    refine ⟨Reg.opOK_plain (by rfl) fun G listed A wv hI hall => .inl ⟨Reg.wanted_none rfl, ?_⟩, ?_⟩
    focus
      have e43 := hI.ev (i := 27) (d := 43) (by rfl) (by rfl) (hall ⟨27, .data⟩ (by simp) rfl)
      clear hI hall HW
      unfold Reg.Yields
      go_simp
      exact Reg.good_val (by rfl) (by rfl) (Below.refl _ _)
    refine ⟨Reg.opOK_plain (by rfl) fun G listed A wv hI hall => .inl ⟨(Reg.wanted_some rfl (by rfl) (hI.ev (i := 28) (d := 44) (by rfl) (by rfl) (hall ⟨28, .guard⟩ (by simp) rfl))).trans rfl, ?_⟩, ?_⟩
    focus
      have H := held5_below hI.base HW
      have e3 := hI.evo (d := 3) (by kernel_rfl) rfl
      clear hI hall HW
      unfold Reg.Yields
      go_simp
      exact Reg.good_val (by rfl) (by rfl) (Below.refl _ _)
    refine ⟨Reg.opOK_plain (by rfl) fun G listed A wv hI hall => .inl ⟨(Reg.wanted_some rfl (by rfl) (hI.ev (i := 28) (d := 44) (by rfl) (by rfl) (hall ⟨28, .guard⟩ (by simp) rfl))).trans rfl, ?_⟩, ?_⟩
    focus
      have H := held5_below hI.base HW
      have e4 := hI.evo (d := 4) (by kernel_rfl) rfl
      clear hI hall HW
      unfold Reg.Yields
      go_simp
      exact Reg.good_val (by rfl) (by rfl) (Below.refl _ _)
    refine ⟨Reg.opOK_plain (by rfl) fun G listed A wv hI hall => .inl ⟨(Reg.wanted_some rfl (by rfl) (hI.ev (i := 28) (d := 44) (by rfl) (by rfl) (hall ⟨28, .guard⟩ (by simp) rfl))).trans rfl, ?_⟩, ?_⟩
    focus
      have H := held5_below hI.base HW
      have e5 := hI.evo (d := 5) (by kernel_rfl) rfl
      clear hI hall HW
      unfold Reg.Yields
      go_simp
      exact Reg.good_val (by rfl) (by rfl) (Below.refl _ _)
    refine ⟨Reg.opOK_plain (by rfl) fun G listed A wv hI hall => .inl ⟨(Reg.wanted_some rfl (by rfl) (hI.ev (i := 28) (d := 44) (by rfl) (by rfl) (hall ⟨28, .guard⟩ (by simp) rfl))).trans rfl, ?_⟩, ?_⟩
    focus
      have e46 := hI.ev (i := 30) (d := 46) (by rfl) (by rfl) (hall ⟨30, .data⟩ (by simp) rfl)
      have e47 := hI.ev (i := 31) (d := 47) (by rfl) (by rfl) (hall ⟨31, .data⟩ (by simp) rfl)
      clear hI hall HW
      unfold Reg.Yields
      go_simp
      exact Reg.good_new (by rfl) (by rfl) (by rfl)
    refine ⟨Reg.opOK_plain (by rfl) fun G listed A wv hI hall => .inl ⟨(Reg.wanted_some rfl (by rfl) (hI.ev (i := 28) (d := 44) (by rfl) (by rfl) (hall ⟨28, .guard⟩ (by simp) rfl))).trans rfl, ?_⟩, ?_⟩
    focus
      obtain ⟨e48, _, b48⟩ := hI.evm (i := 32) (d := 48) (by rfl) (by rfl) (hall ⟨32, .data⟩ (by simp) rfl)
      clear hI hall HW
      unfold Reg.Yields
      go_simp
      exact (union_blk b48).mono fun e w'' ⟨he, hb⟩ => ⟨_, he, Reg.good_val (by rfl) (by rfl) hb⟩
    refine ⟨Reg.opOK_plain (by rfl) fun G listed A wv hI hall => .inl ⟨(Reg.wanted_some rfl (by rfl) (hI.ev (i := 28) (d := 44) (by rfl) (by rfl) (hall ⟨28, .guard⟩ (by simp) rfl))).trans rfl, ?_⟩, ?_⟩
    focus
      have e45 := hI.ev (i := 29) (d := 45) (by rfl) (by rfl) (hall ⟨29, .data⟩ (by simp) rfl)
      have e49 := hI.ev (i := 33) (d := 49) (by rfl) (by rfl) (hall ⟨33, .data⟩ (by simp) rfl)
      clear hI hall HW
      unfold Reg.Yields
      go_simp
      exact (meet_any _ _ _ _ _ _ _ _ _).mono fun e w'' ⟨he, hb⟩ => ⟨_, he, Reg.good_val (by rfl) (by rfl) hb⟩
    refine ⟨Reg.opOK_plain (by rfl) fun G listed A wv hI hall => .inl ⟨(Reg.wanted_some rfl (by rfl) (hI.ev (i := 28) (d := 44) (by rfl) (by rfl) (hall ⟨28, .guard⟩ (by simp) rfl))).trans rfl, ?_⟩, ?_⟩
    focus
      have H := held5_below hI.base HW
      have e8 := hI.evo (d := 8) (by kernel_rfl) rfl
      clear hI hall HW
      unfold Reg.Yields
      go_simp
      exact Reg.good_val (by rfl) (by rfl) (Below.refl _ _)
    refine ⟨Reg.opOK_plain (by rfl) fun G listed A wv hI hall => .inl ⟨(Reg.wanted_some rfl (by rfl) (hI.ev (i := 28) (d := 44) (by rfl) (by rfl) (hall ⟨28, .guard⟩ (by simp) rfl))).trans rfl, ?_⟩, ?_⟩
    focus
      have H := held5_below hI.base HW
      have e3 := hI.evo (d := 3) (by kernel_rfl) rfl
      clear hI hall HW
      unfold Reg.Yields
      go_simp
      exact Reg.good_val (by rfl) (by rfl) (Below.refl _ _)
    refine ⟨Reg.opOK_plain (by rfl) fun G listed A wv hI hall => .inl ⟨(Reg.wanted_some rfl (by rfl) (hI.ev (i := 28) (d := 44) (by rfl) (by rfl) (hall ⟨28, .guard⟩ (by simp) rfl))).trans rfl, ?_⟩, ?_⟩
    focus
      have H := held5_below hI.base HW
      have e5 := hI.evo (d := 5) (by kernel_rfl) rfl
      clear hI hall HW
      unfold Reg.Yields
      go_simp
      exact Reg.good_val (by rfl) (by rfl) (Below.refl _ _)
    refine ⟨Reg.opOK_plain (by rfl) fun G listed A wv hI hall => .inl ⟨(Reg.wanted_some rfl (by rfl) (hI.ev (i := 28) (d := 44) (by rfl) (by rfl) (hall ⟨28, .guard⟩ (by simp) rfl))).trans rfl, ?_⟩, ?_⟩
    focus
      have e52 := hI.ev (i := 36) (d := 52) (by rfl) (by rfl) (hall ⟨36, .data⟩ (by simp) rfl)
      have e53 := hI.ev (i := 37) (d := 53) (by rfl) (by rfl) (hall ⟨37, .data⟩ (by simp) rfl)
      clear hI hall HW
      unfold Reg.Yields
      go_simp
      exact (meet_any _ _ _ _ _ _ _ _ _).mono fun e w'' ⟨he, hb⟩ => ⟨_, he, Reg.good_val (by rfl) (by rfl) hb⟩
    refine ⟨Reg.opOK_plain (by rfl) fun G listed A wv hI hall => .inl ⟨(Reg.wanted_some rfl (by rfl) (hI.ev (i := 28) (d := 44) (by rfl) (by rfl) (hall ⟨28, .guard⟩ (by simp) rfl))).trans rfl, ?_⟩, ?_⟩
    focus
      have e51 := hI.ev (i := 35) (d := 51) (by rfl) (by rfl) (hall ⟨35, .data⟩ (by simp) rfl)
      have e54 := hI.ev (i := 38) (d := 54) (by rfl) (by rfl) (hall ⟨38, .data⟩ (by simp) rfl)
      clear hI hall HW
      unfold Reg.Yields
      go_simp
      exact Reg.good_new (by rfl) (by rfl) (by rfl)
    refine ⟨Reg.opOK_plain (by rfl) fun G listed A wv hI hall => .inl ⟨(Reg.wanted_some rfl (by rfl) (hI.ev (i := 28) (d := 44) (by rfl) (by rfl) (hall ⟨28, .guard⟩ (by simp) rfl))).trans rfl, ?_⟩, ?_⟩
    focus
      obtain ⟨e55, _, b55⟩ := hI.evm (i := 39) (d := 55) (by rfl) (by rfl) (hall ⟨39, .data⟩ (by simp) rfl)
      clear hI hall HW
      unfold Reg.Yields
      go_simp
      exact (union_blk b55).mono fun e w'' ⟨he, hb⟩ => ⟨_, he, Reg.good_val (by rfl) (by rfl) hb⟩
    refine ⟨Reg.opOK_plain (by rfl) fun G listed A wv hI hall => .inl ⟨(Reg.wanted_some rfl (by rfl) (hI.ev (i := 28) (d := 44) (by rfl) (by rfl) (hall ⟨28, .guard⟩ (by simp) rfl))).trans rfl, ?_⟩, ?_⟩
    focus
      have e50 := hI.ev (i := 34) (d := 50) (by rfl) (by rfl) (hall ⟨34, .data⟩ (by simp) rfl)
      have e56 := hI.ev (i := 40) (d := 56) (by rfl) (by rfl) (hall ⟨40, .data⟩ (by simp) rfl)
      clear hI hall HW
      obtain ⟨r1, r2, r3, r4, r5, r6, r7⟩ := lat_facts a b c d x y z u p q r s fa fb fc fd
      obtain ⟨r11, r12, r13, r14⟩ := r1
      obtain ⟨r21, r22, r23, r24⟩ := r2
      obtain ⟨r31, r32, r33, r34⟩ := r3
      obtain ⟨r41, r42, r43, r44⟩ := r4
      obtain ⟨r51, r52, r53, r54⟩ := r5
      obtain ⟨r61, r62, r63, r64⟩ := r6
      unfold Reg.Yields
      go_simp
      exact Reg.good_val (by rfl) (by rfl) (Below.refl _ _)
    refine ⟨Reg.opOK_plain (by rfl) fun G listed A wv hI hall => .inl ⟨Reg.wanted_none rfl, ?_⟩, ?_⟩
    focus
      have e44 := hI.ev (i := 28) (d := 44) (by rfl) (by rfl) (hall ⟨28, .data⟩ (by simp) rfl)
      have e57 := hI.ev (i := 41) (d := 57) (by rfl) (by rfl) (hall ⟨41, .data⟩ (by simp) rfl)
      clear hI hall HW
      unfold Reg.Yields
      go_simp
      exact Reg.good_val (by rfl) (by rfl) (Below.refl _ _)
    refine ⟨Reg.opOK_plain (by rfl) fun G listed A wv hI hall => .inl ⟨Reg.wanted_none rfl, ?_⟩, ?_⟩
    focus
      have e58 := hI.ev (i := 42) (d := 58) (by rfl) (by rfl) (hall ⟨42, .data⟩ (by simp) rfl)
      clear hI hall HW
      unfold Reg.Yields
      go_simp
      exact Reg.good_val (by rfl) (by rfl) (Below.refl _ _)
    refine ⟨Reg.opOK_plain (by rfl) fun G listed A wv hI hall => .inl ⟨(Reg.wanted_some rfl (by rfl) (hI.ev (i := 43) (d := 59) (by rfl) (by rfl) (hall ⟨43, .guard⟩ (by simp) rfl))).trans rfl, ?_⟩, ?_⟩
    focus
      have H := held5_below hI.base HW
      have e7 := hI.evo (d := 7) (by kernel_rfl) rfl
      clear hI hall HW
      unfold Reg.Yields
      go_simp
      exact Reg.good_val (by rfl) (by rfl) (Below.refl _ _)
    refine ⟨Reg.opOK_plain (by rfl) fun G listed A wv hI hall => .inl ⟨(Reg.wanted_some rfl (by rfl) (hI.ev (i := 43) (d := 59) (by rfl) (by rfl) (hall ⟨43, .guard⟩ (by simp) rfl))).trans rfl, ?_⟩, ?_⟩
    focus
      have e60 := hI.ev (i := 44) (d := 60) (by rfl) (by rfl) (hall ⟨44, .data⟩ (by simp) rfl)
      clear hI hall HW
      unfold Reg.Yields
      go_simp
      exact (not_any _ _ _ _ _).mono fun e w'' ⟨he, hb⟩ => ⟨_, he, Reg.good_val (by rfl) (by rfl) hb⟩
    refine ⟨Reg.opOK_plain (by rfl) fun G listed A wv hI hall => .inl ⟨(Reg.wanted_some rfl (by rfl) (hI.ev (i := 43) (d := 59) (by rfl) (by rfl) (hall ⟨43, .guard⟩ (by simp) rfl))).trans rfl, ?_⟩, ?_⟩
    focus
      have H := held5_below hI.base HW
      have e3 := hI.evo (d := 3) (by kernel_rfl) rfl
      clear hI hall HW
      unfold Reg.Yields
      go_simp
      exact Reg.good_val (by rfl) (by rfl) (Below.refl _ _)
    refine ⟨Reg.opOK_plain (by rfl) fun G listed A wv hI hall => .inl ⟨(Reg.wanted_some rfl (by rfl) (hI.ev (i := 43) (d := 59) (by rfl) (by rfl) (hall ⟨43, .guard⟩ (by simp) rfl))).trans rfl, ?_⟩, ?_⟩
    focus
      have e62 := hI.ev (i := 46) (d := 62) (by rfl) (by rfl) (hall ⟨46, .data⟩ (by simp) rfl)
      clear hI hall HW
      unfold Reg.Yields
      go_simp
      exact (not_any _ _ _ _ _).mono fun e w'' ⟨he, hb⟩ => ⟨_, he, Reg.good_val (by rfl) (by rfl) hb⟩
    refine ⟨Reg.opOK_plain (by rfl) fun G listed A wv hI hall => .inl ⟨(Reg.wanted_some rfl (by rfl) (hI.ev (i := 43) (d := 59) (by rfl) (by rfl) (hall ⟨43, .guard⟩ (by simp) rfl))).trans rfl, ?_⟩, ?_⟩
    focus
      have H := held5_below hI.base HW
      have e4 := hI.evo (d := 4) (by kernel_rfl) rfl
      clear hI hall HW
      unfold Reg.Yields
      go_simp
      exact Reg.good_val (by rfl) (by rfl) (Below.refl _ _)
    refine ⟨Reg.opOK_plain (by rfl) fun G listed A wv hI hall => .inl ⟨(Reg.wanted_some rfl (by rfl) (hI.ev (i := 43) (d := 59) (by rfl) (by rfl) (hall ⟨43, .guard⟩ (by simp) rfl))).trans rfl, ?_⟩, ?_⟩
    focus
      have e64 := hI.ev (i := 48) (d := 64) (by rfl) (by rfl) (hall ⟨48, .data⟩ (by simp) rfl)
      clear hI hall HW
      unfold Reg.Yields
      go_simp
      exact (not_any _ _ _ _ _).mono fun e w'' ⟨he, hb⟩ => ⟨_, he, Reg.good_val (by rfl) (by rfl) hb⟩
    refine ⟨Reg.opOK_plain (by rfl) fun G listed A wv hI hall => .inl ⟨(Reg.wanted_some rfl (by rfl) (hI.ev (i := 43) (d := 59) (by rfl) (by rfl) (hall ⟨43, .guard⟩ (by simp) rfl))).trans rfl, ?_⟩, ?_⟩
    focus
      have e63 := hI.ev (i := 47) (d := 63) (by rfl) (by rfl) (hall ⟨47, .data⟩ (by simp) rfl)
      have e65 := hI.ev (i := 49) (d := 65) (by rfl) (by rfl) (hall ⟨49, .data⟩ (by simp) rfl)
      clear hI hall HW
      unfold Reg.Yields
      go_simp
      exact (meet_any _ _ _ _ _ _ _ _ _).mono fun e w'' ⟨he, hb⟩ => ⟨_, he, Reg.good_val (by rfl) (by rfl) hb⟩
    refine ⟨Reg.opOK_plain (by rfl) fun G listed A wv hI hall => .inl ⟨(Reg.wanted_some rfl (by rfl) (hI.ev (i := 43) (d := 59) (by rfl) (by rfl) (hall ⟨43, .guard⟩ (by simp) rfl))).trans rfl, ?_⟩, ?_⟩
    focus
      have e61 := hI.ev (i := 45) (d := 61) (by rfl) (by rfl) (hall ⟨45, .data⟩ (by simp) rfl)
      have e66 := hI.ev (i := 50) (d := 66) (by rfl) (by rfl) (hall ⟨50, .data⟩ (by simp) rfl)
      clear hI hall HW
      obtain ⟨r1, r2, r3, r4, r5, r6, r7⟩ := lat_facts a b c d x y z u p q r s fa fb fc fd
      obtain ⟨r11, r12, r13, r14⟩ := r1
      obtain ⟨r21, r22, r23, r24⟩ := r2
      obtain ⟨r31, r32, r33, r34⟩ := r3
      obtain ⟨r41, r42, r43, r44⟩ := r4
      obtain ⟨r51, r52, r53, r54⟩ := r5
      obtain ⟨r61, r62, r63, r64⟩ := r6
      unfold Reg.Yields
      go_simp
      exact Reg.good_val (by rfl) (by rfl) (Below.refl _ _)
    refine ⟨Reg.opOK_plain (by rfl) fun G listed A wv hI hall => .inl ⟨Reg.wanted_none rfl, ?_⟩, ?_⟩
    focus
      have e59 := hI.ev (i := 43) (d := 59) (by rfl) (by rfl) (hall ⟨43, .data⟩ (by simp) rfl)
      have e67 := hI.ev (i := 51) (d := 67) (by rfl) (by rfl) (hall ⟨51, .data⟩ (by simp) rfl)
      clear hI hall HW
      unfold Reg.Yields
      go_simp
      exact Reg.good_val (by rfl) (by rfl) (Below.refl _ _)
    refine ⟨Reg.opOK_plain (by rfl) fun G listed A wv hI hall => .inl ⟨Reg.wanted_none rfl, ?_⟩, ?_⟩
    focus
      have e68 := hI.ev (i := 52) (d := 68) (by rfl) (by rfl) (hall ⟨52, .data⟩ (by simp) rfl)
      clear hI hall HW
      unfold Reg.Yields
      go_simp
      exact Reg.good_val (by rfl) (by rfl) (Below.refl _ _)
    refine ⟨Reg.opOK_plain (by rfl) fun G listed A wv hI hall => .inl ⟨(Reg.wanted_some rfl (by rfl) (hI.ev (i := 53) (d := 69) (by rfl) (by rfl) (hall ⟨53, .guard⟩ (by simp) rfl))).trans rfl, ?_⟩, ?_⟩
    focus
      have H := held5_below hI.base HW
      have e7 := hI.evo (d := 7) (by kernel_rfl) rfl
      clear hI hall HW
      unfold Reg.Yields
      go_simp
      exact Reg.good_val (by rfl) (by rfl) (Below.refl _ _)
    refine ⟨Reg.opOK_plain (by rfl) fun G listed A wv hI hall => .inl ⟨(Reg.wanted_some rfl (by rfl) (hI.ev (i := 53) (d := 69) (by rfl) (by rfl) (hall ⟨53, .guard⟩ (by simp) rfl))).trans rfl, ?_⟩, ?_⟩
    focus
      have e70 := hI.ev (i := 54) (d := 70) (by rfl) (by rfl) (hall ⟨54, .data⟩ (by simp) rfl)
      clear hI hall HW
      unfold Reg.Yields
      go_simp
      exact (count_any _ _ _ _ _ (by first | assumption | exact orr_fit _ _ | exact an_fit _ _) (by first | assumption | exact orr_fit _ _ | exact an_fit _ _) (by first | assumption | exact orr_fit _ _ | exact an_fit _ _) (by first | assumption | exact orr_fit _ _ | exact an_fit _ _)).mono fun e w'' ⟨he, hb⟩ => ⟨_, he, Reg.good_val (by rfl) (by rfl) hb⟩
    refine ⟨Reg.opOK_plain (by rfl) fun G listed A wv hI hall => .inl ⟨(Reg.wanted_some rfl (by rfl) (hI.ev (i := 53) (d := 69) (by rfl) (by rfl) (hall ⟨53, .guard⟩ (by simp) rfl))).trans rfl, ?_⟩, ?_⟩
    focus
      have H := held5_below hI.base HW
      have e8 := hI.evo (d := 8) (by kernel_rfl) rfl
      clear hI hall HW
      unfold Reg.Yields
      go_simp
      exact Reg.good_val (by rfl) (by rfl) (Below.refl _ _)
    refine ⟨Reg.opOK_plain (by rfl) fun G listed A wv hI hall => .inl ⟨(Reg.wanted_some rfl (by rfl) (hI.ev (i := 53) (d := 69) (by rfl) (by rfl) (hall ⟨53, .guard⟩ (by simp) rfl))).trans rfl, ?_⟩, ?_⟩
    focus
      have e72 := hI.ev (i := 56) (d := 72) (by rfl) (by rfl) (hall ⟨56, .data⟩ (by simp) rfl)
      clear hI hall HW
      unfold Reg.Yields
      go_simp
      exact (count_any _ _ _ _ _ (by first | assumption | exact orr_fit _ _ | exact an_fit _ _) (by first | assumption | exact orr_fit _ _ | exact an_fit _ _) (by first | assumption | exact orr_fit _ _ | exact an_fit _ _) (by first | assumption | exact orr_fit _ _ | exact an_fit _ _)).mono fun e w'' ⟨he, hb⟩ => ⟨_, he, Reg.good_val (by rfl) (by rfl) hb⟩
    refine ⟨Reg.opOK_plain (by rfl) fun G listed A wv hI hall => .inl ⟨(Reg.wanted_some rfl (by rfl) (hI.ev (i := 53) (d := 69) (by rfl) (by rfl) (hall ⟨53, .guard⟩ (by simp) rfl))).trans rfl, ?_⟩, ?_⟩
    focus
      have e71 := hI.ev (i := 55) (d := 71) (by rfl) (by rfl) (hall ⟨55, .data⟩ (by simp) rfl)
      have e73 := hI.ev (i := 57) (d := 73) (by rfl) (by rfl) (hall ⟨57, .data⟩ (by simp) rfl)
      clear hI hall HW
      have hb : -9223372036854775808 ≤ pw (orr (orr 0 a) x) + pw (orr (orr 0 b) y) + pw (orr (orr 0 c) z) + pw (orr (orr 0 d) u) + (pw (an a x) + pw (an b y) + pw (an c z) + pw (an d u)) ∧ pw (orr (orr 0 a) x) + pw (orr (orr 0 b) y) + pw (orr (orr 0 c) z) + pw (orr (orr 0 d) u) + (pw (an a x) + pw (an b y) + pw (an c z) + pw (an d u)) ≤ 9223372036854775807 := by
        have k0 := pw_bd' (orr (orr 0 a) x)
        have k1 := pw_bd' (orr (orr 0 b) y)
        have k2 := pw_bd' (orr (orr 0 c) z)
        have k3 := pw_bd' (orr (orr 0 d) u)
        have k4 := pw_bd' (an a x)
        have k5 := pw_bd' (an b y)
        have k6 := pw_bd' (an c z)
        have k7 := pw_bd' (an d u)
        omega
      have hw1 : IntKind.i64.wrap (pw (orr (orr 0 a) x) + pw (orr (orr 0 b) y) + pw (orr (orr 0 c) z) + pw (orr (orr 0 d) u) + (pw (an a x) + pw (an b y) + pw (an c z) + pw (an d u))) = pw (orr (orr 0 a) x) + pw (orr (orr 0 b) y) + pw (orr (orr 0 c) z) + pw (orr (orr 0 d) u) + (pw (an a x) + pw (an b y) + pw (an c z) + pw (an d u)) := IntWalk.i64_in _ hb
      have hw2 : wrap64 (pw (orr (orr 0 a) x) + pw (orr (orr 0 b) y) + pw (orr (orr 0 c) z) + pw (orr (orr 0 d) u) + (pw (an a x) + pw (an b y) + pw (an c z) + pw (an d u))) = pw (orr (orr 0 a) x) + pw (orr (orr 0 b) y) + pw (orr (orr 0 c) z) + pw (orr (orr 0 d) u) + (pw (an a x) + pw (an b y) + pw (an c z) + pw (an d u)) := IntWalk.wrap64_in _ hb
      clear hb
      unfold Reg.Yields
      go_simp
      exact Reg.good_val (by rfl) (by rfl) (Below.refl _ _)
    refine ⟨Reg.opOK_plain (by rfl) fun G listed A wv hI hall => .inl ⟨(Reg.wanted_some rfl (by rfl) (hI.ev (i := 53) (d := 69) (by rfl) (by rfl) (hall ⟨53, .guard⟩ (by simp) rfl))).trans rfl, ?_⟩, ?_⟩
    focus
      have H := held5_below hI.base HW
      have e3 := hI.evo (d := 3) (by kernel_rfl) rfl
      clear hI hall HW
      unfold Reg.Yields
      go_simp
      exact Reg.good_val (by rfl) (by rfl) (Below.refl _ _)
    refine ⟨Reg.opOK_plain (by rfl) fun G listed A wv hI hall => .inl ⟨(Reg.wanted_some rfl (by rfl) (hI.ev (i := 53) (d := 69) (by rfl) (by rfl) (hall ⟨53, .guard⟩ (by simp) rfl))).trans rfl, ?_⟩, ?_⟩
    focus
      have e75 := hI.ev (i := 59) (d := 75) (by rfl) (by rfl) (hall ⟨59, .data⟩ (by simp) rfl)
      clear hI hall HW
      unfold Reg.Yields
      go_simp
      exact (count_any _ _ _ _ _ (by first | assumption | exact orr_fit _ _ | exact an_fit _ _) (by first | assumption | exact orr_fit _ _ | exact an_fit _ _) (by first | assumption | exact orr_fit _ _ | exact an_fit _ _) (by first | assumption | exact orr_fit _ _ | exact an_fit _ _)).mono fun e w'' ⟨he, hb⟩ => ⟨_, he, Reg.good_val (by rfl) (by rfl) hb⟩
    refine ⟨Reg.opOK_plain (by rfl) fun G listed A wv hI hall => .inl ⟨(Reg.wanted_some rfl (by rfl) (hI.ev (i := 53) (d := 69) (by rfl) (by rfl) (hall ⟨53, .guard⟩ (by simp) rfl))).trans rfl, ?_⟩, ?_⟩
    focus
      have H := held5_below hI.base HW
      have e4 := hI.evo (d := 4) (by kernel_rfl) rfl
      clear hI hall HW
      unfold Reg.Yields
      go_simp
      exact Reg.good_val (by rfl) (by rfl) (Below.refl _ _)
    refine ⟨Reg.opOK_plain (by rfl) fun G listed A wv hI hall => .inl ⟨(Reg.wanted_some rfl (by rfl) (hI.ev (i := 53) (d := 69) (by rfl) (by rfl) (hall ⟨53, .guard⟩ (by simp) rfl))).trans rfl, ?_⟩, ?_⟩
    focus
      have e77 := hI.ev (i := 61) (d := 77) (by rfl) (by rfl) (hall ⟨61, .data⟩ (by simp) rfl)
      clear hI hall HW
      unfold Reg.Yields
      go_simp
      exact (count_any _ _ _ _ _ (by first | assumption | exact orr_fit _ _ | exact an_fit _ _) (by first | assumption | exact orr_fit _ _ | exact an_fit _ _) (by first | assumption | exact orr_fit _ _ | exact an_fit _ _) (by first | assumption | exact orr_fit _ _ | exact an_fit _ _)).mono fun e w'' ⟨he, hb⟩ => ⟨_, he, Reg.good_val (by rfl) (by rfl) hb⟩
    refine ⟨Reg.opOK_plain (by rfl) fun G listed A wv hI hall => .inl ⟨(Reg.wanted_some rfl (by rfl) (hI.ev (i := 53) (d := 69) (by rfl) (by rfl) (hall ⟨53, .guard⟩ (by simp) rfl))).trans rfl, ?_⟩, ?_⟩
    focus
      have e76 := hI.ev (i := 60) (d := 76) (by rfl) (by rfl) (hall ⟨60, .data⟩ (by simp) rfl)
      have e78 := hI.ev (i := 62) (d := 78) (by rfl) (by rfl) (hall ⟨62, .data⟩ (by simp) rfl)
      clear hI hall HW
      have hb : -9223372036854775808 ≤ pw a + pw b + pw c + pw d + (pw x + pw y + pw z + pw u) ∧ pw a + pw b + pw c + pw d + (pw x + pw y + pw z + pw u) ≤ 9223372036854775807 := by
        have k0 := pw_bd' a
        have k1 := pw_bd' b
        have k2 := pw_bd' c
        have k3 := pw_bd' d
        have k4 := pw_bd' x
        have k5 := pw_bd' y
        have k6 := pw_bd' z
        have k7 := pw_bd' u
        omega
      have hw1 : IntKind.i64.wrap (pw a + pw b + pw c + pw d + (pw x + pw y + pw z + pw u)) = pw a + pw b + pw c + pw d + (pw x + pw y + pw z + pw u) := IntWalk.i64_in _ hb
      have hw2 : wrap64 (pw a + pw b + pw c + pw d + (pw x + pw y + pw z + pw u)) = pw a + pw b + pw c + pw d + (pw x + pw y + pw z + pw u) := IntWalk.wrap64_in _ hb
      clear hb
      unfold Reg.Yields
      go_simp
      exact Reg.good_val (by rfl) (by rfl) (Below.refl _ _)
    refine ⟨Reg.opOK_plain (by rfl) fun G listed A wv hI hall => .inl ⟨(Reg.wanted_some rfl (by rfl) (hI.ev (i := 53) (d := 69) (by rfl) (by rfl) (hall ⟨53, .guard⟩ (by simp) rfl))).trans rfl, ?_⟩, ?_⟩
    focus
      have e74 := hI.ev (i := 58) (d := 74) (by rfl) (by rfl) (hall ⟨58, .data⟩ (by simp) rfl)
      have e79 := hI.ev (i := 63) (d := 79) (by rfl) (by rfl) (hall ⟨63, .data⟩ (by simp) rfl)
      clear hI hall HW
      have rc := lat_count a b c d x y z u fa fb fc fd fx fy fz fu
      unfold Reg.Yields
      go_simp
      exact Reg.good_val (by rfl) (by rfl) (Below.refl _ _)
    refine ⟨Reg.opOK_plain (by rfl) fun G listed A wv hI hall => .inl ⟨Reg.wanted_none rfl, ?_⟩, ?_⟩
    focus
      have e69 := hI.ev (i := 53) (d := 69) (by rfl) (by rfl) (hall ⟨53, .data⟩ (by simp) rfl)
      have e80 := hI.ev (i := 64) (d := 80) (by rfl) (by rfl) (hall ⟨64, .data⟩ (by simp) rfl)
      clear hI hall HW
      unfold Reg.Yields
      go_simp
      exact Reg.good_val (by rfl) (by rfl) (Below.refl _ _)
    refine ⟨Reg.opOK_plain (by rfl) fun G listed A wv hI hall => .inl ⟨Reg.wanted_none rfl, ?_⟩, ?_⟩
    focus
      have e81 := hI.ev (i := 65) (d := 81) (by rfl) (by rfl) (hall ⟨65, .data⟩ (by simp) rfl)
      clear hI hall HW
      unfold Reg.Yields
      go_simp
      exact Reg.good_val (by rfl) (by rfl) (Below.refl _ _)
    refine ⟨Reg.opOK_plain (by rfl) fun G listed A wv hI hall => .inl ⟨(Reg.wanted_some rfl (by rfl) (hI.ev (i := 66) (d := 82) (by rfl) (by rfl) (hall ⟨66, .guard⟩ (by simp) rfl))).trans rfl, ?_⟩, ?_⟩
    focus
      have H := held5_below hI.base HW
      have e3 := hI.evo (d := 3) (by kernel_rfl) rfl
      clear hI hall HW
      unfold Reg.Yields
      go_simp
      exact Reg.good_val (by rfl) (by rfl) (Below.refl _ _)
    refine ⟨Reg.opOK_plain (by rfl) fun G listed A wv hI hall => .inl ⟨(Reg.wanted_some rfl (by rfl) (hI.ev (i := 66) (d := 82) (by rfl) (by rfl) (hall ⟨66, .guard⟩ (by simp) rfl))).trans rfl, ?_⟩, ?_⟩
    focus
      have e83 := hI.ev (i := 67) (d := 83) (by rfl) (by rfl) (hall ⟨67, .data⟩ (by simp) rfl)
      clear hI hall HW
      unfold Reg.Yields
      go_simp
      exact (fold_any _ _ _ _ _).mono fun e w'' ⟨he, hb⟩ => ⟨_, he, Reg.good_val (by rfl) (by rfl) hb⟩
    refine ⟨Reg.opOK_plain (by rfl) fun G listed A wv hI hall => .inl ⟨(Reg.wanted_some rfl (by rfl) (hI.ev (i := 66) (d := 82) (by rfl) (by rfl) (hall ⟨66, .guard⟩ (by simp) rfl))).trans rfl, ?_⟩, ?_⟩
    focus
      have e84 := hI.ev (i := 68) (d := 84) (by rfl) (by rfl) (hall ⟨68, .data⟩ (by simp) rfl)
      clear hI hall HW
      unfold Reg.Yields
      go_simp
      exact (fold_any _ _ _ _ _).mono fun e w'' ⟨he, hb⟩ => ⟨_, he, Reg.good_val (by rfl) (by rfl) hb⟩
    refine ⟨Reg.opOK_plain (by rfl) fun G listed A wv hI hall => .inl ⟨(Reg.wanted_some rfl (by rfl) (hI.ev (i := 66) (d := 82) (by rfl) (by rfl) (hall ⟨66, .guard⟩ (by simp) rfl))).trans rfl, ?_⟩, ?_⟩
    focus
      have H := held5_below hI.base HW
      have e3 := hI.evo (d := 3) (by kernel_rfl) rfl
      clear hI hall HW
      unfold Reg.Yields
      go_simp
      exact Reg.good_val (by rfl) (by rfl) (Below.refl _ _)
    refine ⟨Reg.opOK_plain (by rfl) fun G listed A wv hI hall => .inl ⟨(Reg.wanted_some rfl (by rfl) (hI.ev (i := 66) (d := 82) (by rfl) (by rfl) (hall ⟨66, .guard⟩ (by simp) rfl))).trans rfl, ?_⟩, ?_⟩
    focus
      have e86 := hI.ev (i := 70) (d := 86) (by rfl) (by rfl) (hall ⟨70, .data⟩ (by simp) rfl)
      clear hI hall HW
      unfold Reg.Yields
      go_simp
      exact (fold_any _ _ _ _ _).mono fun e w'' ⟨he, hb⟩ => ⟨_, he, Reg.good_val (by rfl) (by rfl) hb⟩
    refine ⟨Reg.opOK_plain (by rfl) fun G listed A wv hI hall => .inl ⟨(Reg.wanted_some rfl (by rfl) (hI.ev (i := 66) (d := 82) (by rfl) (by rfl) (hall ⟨66, .guard⟩ (by simp) rfl))).trans rfl, ?_⟩, ?_⟩
    focus
      have e85 := hI.ev (i := 69) (d := 85) (by rfl) (by rfl) (hall ⟨69, .data⟩ (by simp) rfl)
      have e87 := hI.ev (i := 71) (d := 87) (by rfl) (by rfl) (hall ⟨71, .data⟩ (by simp) rfl)
      clear hI hall HW
      obtain ⟨r1, r2, r3, r4, r5, r6, r7⟩ := lat_facts a b c d x y z u p q r s fa fb fc fd
      obtain ⟨r11, r12, r13, r14⟩ := r1
      obtain ⟨r21, r22, r23, r24⟩ := r2
      obtain ⟨r31, r32, r33, r34⟩ := r3
      obtain ⟨r41, r42, r43, r44⟩ := r4
      obtain ⟨r51, r52, r53, r54⟩ := r5
      obtain ⟨r61, r62, r63, r64⟩ := r6
      unfold Reg.Yields
      go_simp
      exact Reg.good_val (by rfl) (by rfl) (Below.refl _ _)
    refine ⟨Reg.opOK_plain (by rfl) fun G listed A wv hI hall => .inl ⟨Reg.wanted_none rfl, ?_⟩, ?_⟩
    focus
      have e82 := hI.ev (i := 66) (d := 82) (by rfl) (by rfl) (hall ⟨66, .data⟩ (by simp) rfl)
      have e88 := hI.ev (i := 72) (d := 88) (by rfl) (by rfl) (hall ⟨72, .data⟩ (by simp) rfl)
      clear hI hall HW
      unfold Reg.Yields
      go_simp
      exact Reg.good_val (by rfl) (by rfl) (Below.refl _ _)
    refine ⟨Reg.opOK_plain (by rfl) fun G listed A wv hI hall => .inl ⟨Reg.wanted_none rfl, ?_⟩, ?_⟩
    focus
      have e89 := hI.ev (i := 73) (d := 89) (by rfl) (by rfl) (hall ⟨73, .data⟩ (by simp) rfl)
      clear hI hall HW
      unfold Reg.Yields
      go_simp
      exact Reg.good_val (by rfl) (by rfl) (Below.refl _ _)
    refine ⟨Reg.opOK_plain (by rfl) fun G listed A wv hI hall => .inl ⟨(Reg.wanted_some rfl (by rfl) (hI.ev (i := 74) (d := 90) (by rfl) (by rfl) (hall ⟨74, .guard⟩ (by simp) rfl))).trans rfl, ?_⟩, ?_⟩
    focus
      clear hI hall HW
      unfold Reg.Yields
      go_simp
      exact (awake_any _).mono fun e w'' ⟨he, hb⟩ => ⟨_, he, Reg.good_val (by rfl) (by rfl) hb⟩
    refine ⟨Reg.opOK_plain (by rfl) fun G listed A wv hI hall => .inl ⟨Reg.wanted_none rfl, ?_⟩, ?_⟩
    focus
      have e90 := hI.ev (i := 74) (d := 90) (by rfl) (by rfl) (hall ⟨74, .data⟩ (by simp) rfl)
      have e91 := hI.ev (i := 75) (d := 91) (by rfl) (by rfl) (hall ⟨75, .data⟩ (by simp) rfl)
      clear hI hall HW
      unfold Reg.Yields
      go_simp
      exact Reg.good_val (by rfl) (by rfl) (Below.refl _ _)
    refine ⟨Reg.opOK_plain (by rfl) fun G listed A wv hI hall => .inl ⟨Reg.wanted_none rfl, ?_⟩, ?_⟩
    focus
      have e92 := hI.ev (i := 76) (d := 92) (by rfl) (by rfl) (hall ⟨76, .data⟩ (by simp) rfl)
      clear hI hall HW
      unfold Reg.Yields
      go_simp
      exact Reg.good_val (by rfl) (by rfl) (Below.refl _ _)
    trivial
  intro G w2 hI
  have H := held5_below hI.base HW
  clear hI HW
  have ha := HA.out
  clear HA
  simp [Reg.finalTmps, Reg.dstAt, Reg.valOf, latTold2]
  go_wp2
  go_ret
  exact ⟨rfl, H.2.2.2.2.2.2.2.2.2.2⟩
end Go.Proofs.Ytknjgopoijkkpaa
