/- Contracts of blocks: More, walked. -/
import Derived.Test.YtcicdiooifjcbaaDoorBlkD
import Derived.Test.YtcicdiooifjcbaaDoorBytesD
namespace Go.Proofs.YtcicdiooifjcbaaDoor
open Go Go.RowKit Go.Maps
attribute [local go_sem ↓] Go.wp_at_zero Go.wp_at_succ
attribute [local go_sem] eq4
/-- What the last region of a round needs of memory, wherever it stands. -/
abbrev HeldR (w wr : World) (gr n len cap : Nat) (t : W4) (W : World) : Prop :=
  W.cell? ⟨w.heap.size + 1, 256, none⟩ = some (.slice (some ⟨gr, 0, none⟩) len cap) ∧ W.cell? ⟨gr, n * 4, none⟩ = some (.int .u64 t.a) ∧ W.cell? ⟨gr, n * 4 + 1, none⟩ = some (.int .u64 t.b) ∧ W.cell? ⟨gr, n * 4 + 2, none⟩ = some (.int .u64 t.c) ∧ W.cell? ⟨gr, n * 4 + 3, none⟩ = some (.int .u64 t.d) ∧
  w.heap.size + 1 < W.heap.size ∧ gr < W.heap.size ∧ Below wr.heap.size wr W
theorem heldR_call {w wr : World} {gr n len cap : Nat} {t : W4} {X Y : World} (h : HeldR w wr gr n len cap t X) (hb : Below X.heap.size X Y) : HeldR w wr gr n len cap t Y := by
  obtain ⟨h0, h1, h2, h3, h4, h5, h6, h7⟩ := h
  exact ⟨(hb.cell (p := ⟨w.heap.size + 1, 256, none⟩) h5).trans h0, (hb.cell (p := ⟨gr, n * 4, none⟩) h6).trans h1, (hb.cell (p := ⟨gr, n * 4 + 1, none⟩) h6).trans h2, (hb.cell (p := ⟨gr, n * 4 + 2, none⟩) h6).trans h3, (hb.cell (p := ⟨gr, n * 4 + 3, none⟩) h6).trans h4,
    Nat.lt_of_lt_of_le h5 hb.size, Nat.lt_of_lt_of_le h6 hb.size, below_on h7 hb⟩
theorem heldR_drew {w wr : World} {gr n len cap : Nat} {t : W4} {X : World} (h : HeldR w wr gr n len cap t X) : HeldR w wr gr n len cap t X.drew := heldR_call h (Below.refl _ _).drew
/-- The words of a set of one byte. -/
def oneB (k : Nat) (j : Int) : Int := ofw (fun _ => (k : Int)) 1 j
def addW (t : W4) (k : Nat) : W4 := ⟨orr (orr 0 t.a) (oneB k 0), orr (orr 0 t.b) (oneB k 1), orr (orr 0 t.c) (oneB k 2), orr (orr 0 t.d) (oneB k 3)⟩
theorem addW_fit (t : W4) (k : Nat) : (addW t k).fit := ⟨orr_fit _ _, orr_fit _ _, orr_fit _ _, orr_fit _ _⟩
theorem addW_mem (t : W4) (_ : t.fit) (k m : Nat) (hk : k < 256) (hm : m < 256) : (addW t k).mem m = (t.mem m || decide (m = k)) := by
  show memb (orr (orr 0 t.a) (oneB k 0)) (orr (orr 0 t.b) (oneB k 1)) (orr (orr 0 t.c) (oneB k 2)) (orr (orr 0 t.d) (oneB k 3)) m = _
  rw [memb_or]
  have h := memb_ofw (fun _ => (k : Int)) (fun _ => by omega) (fun _ => by omega) 1 m hm
  unfold oneB
  rw [h]
  have e : onr (fun _ => (k : Int)) 1 m = decide (m = k) := by
    simp only [onr, Bool.false_or]
    by_cases e : m = k
    · subst e; simp
    · have : ¬ (k : Int) = (m : Int) := by omega
      simp [e, this]
  rw [e]; rfl
theorem of_blk {w : World} {g k : Nat} (hk : k < 256) (h : w.heap[g]? = some (.cells #[.int .u8 (k : Int)] 5)) :
    Calls Tryd.prog 49 #[.slice (some ⟨g, 0, none⟩) 1 1] w fun e w' => e = .returned (.agg #[.int .u64 (oneB k 0), .int .u64 (oneB k 1), .int .u64 (oneB k 2), .int .u64 (oneB k 3)]) ∧ Below w.heap.size w w' :=
  of_any g 0 1 1 (fun _ => (k : Int)) w (Reg.size_of_get h) (by omega) (fun _ => by omega) (fun _ => by omega) (fun j hj => by
    obtain rfl : j = 0 := by omega
    exact Joins.cell_of_block h 0)
theorem union_blkW {a b c d x y z u : Int} {w : World} {g : Nat} (h : w.heap[g]? = some (.cells #[.int .u64 a, .int .u64 b, .int .u64 c, .int .u64 d, .int .u64 x, .int .u64 y, .int .u64 z, .int .u64 u] 32)) :
    Calls Tryd.prog 31 #[.slice (some ⟨g, 0, none⟩) 2 2] w fun e w' => e = .returned (.agg #[.int .u64 (orr (orr 0 a) x), .int .u64 (orr (orr 0 b) y), .int .u64 (orr (orr 0 c) z), .int .u64 (orr (orr 0 d) u)]) ∧ Below w.heap.size w w' :=
  union_two g a b c d x y z u w (Reg.size_of_get h) (Joins.cell_of_block h 0) (Joins.cell_of_block h 1) (Joins.cell_of_block h 2) (Joins.cell_of_block h 3) (Joins.cell_of_block h 4) (Joins.cell_of_block h 5) (Joins.cell_of_block h 6) (Joins.cell_of_block h 7)
/-- What the last region of a round tells. -/
def rowTold (B gr n k len cap : Nat) (t : W4) : Nat → Reg.Told
  | 0 => .inl (.pointer (some ⟨B, 0, none⟩))
  | 1 => .inl (.pointer (some ⟨B, 0, none⟩))
  | 2 => .inl (.pointer (some ⟨B, 256, none⟩))
  | 3 => .inl (.slice (some ⟨gr, 0, none⟩) len cap)
  | 4 => .inl (.int .i64 (n : Int))
  | 5 => .inl (.pointer (some ⟨B, 0, none⟩))
  | 6 => .inl (.pointer (some ⟨B, 0, none⟩))
  | 7 => .inl (.pointer (some ⟨B, 256, none⟩))
  | 8 => .inl (.slice (some ⟨gr, 0, none⟩) len cap)
  | 9 => .inl (.int .i64 (n : Int))
  | 10 => .inl (.pointer (some ⟨gr, n * 4, none⟩))
  | 11 => .inl (.agg #[.int .u64 t.a, .int .u64 t.b, .int .u64 t.c, .int .u64 t.d])
  | 12 => .inl (.int .i64 (k : Int))
  | 13 => .inl (.int .u8 (k : Int))
  | 14 => .inr ⟨fun G => .slice (some ⟨G, 0, none⟩) 1 1, 5, #[.int .u8 (k : Int)]⟩
  | 15 => .inl (.agg #[.int .u64 (oneB k 0), .int .u64 (oneB k 1), .int .u64 (oneB k 2), .int .u64 (oneB k 3)])
  | 16 => .inr ⟨fun G => .slice (some ⟨G, 0, none⟩) 2 2, 32, #[.int .u64 t.a, .int .u64 t.b, .int .u64 t.c, .int .u64 t.d, .int .u64 (oneB k 0), .int .u64 (oneB k 1), .int .u64 (oneB k 2), .int .u64 (oneB k 3)]⟩
  | 17 => .inl (.agg #[.int .u64 (addW t k).a, .int .u64 (addW t k).b, .int .u64 (addW t k).c, .int .u64 (addW t k).d])
  | 18 => .inl (.pointer (some ⟨gr, n * 4, none⟩))
  | _ => .inl undef
end Go.Proofs.YtcicdiooifjcbaaDoor
