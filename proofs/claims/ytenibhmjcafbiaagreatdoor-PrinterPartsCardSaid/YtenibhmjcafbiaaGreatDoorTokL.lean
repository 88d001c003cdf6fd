/- Contracts: what a byte stands for behind a backslash. Contracts: the letters of sets behind a backslash. -/
import Derived.Test.YtenibhmjcafbiaaGreatDoorTokJ
namespace Go.Proofs.YtenibhmjcafbiaaGreatDoor
section
open Go Go.RowKit
attribute [local go_sem ↓] Go.wp_at_zero Go.wp_at_succ
attribute [local go_sem] eq4
/-- The bytes that stand for themselves behind a backslash; the letters of control bytes. -/
abbrev themS : ByteArray := ⟨#[92, 124, 40, 41, 91, 93, 123, 125, 42, 43, 63, 46, 94, 36, 47, 45]⟩
abbrev letS : ByteArray := ⟨#[110, 116, 114, 102, 118]⟩
def themB (b : Nat) : Bool := [92, 124, 40, 41, 91, 93, 123, 125, 42, 43, 63, 46, 94, 36, 47, 45].contains b
def letB (b : Nat) : Bool := [110, 116, 114, 102, 118].contains b
theorem them_idx (b : Nat) (hb : b < 256) : decide (0 ≤ firstIdx themS (b : Int).toNat.toUInt8) = themB b := by
  have hall : ∀ n : Fin 256, decide (0 ≤ firstIdx themS ((n.val : Nat) : Int).toNat.toUInt8) = themB n.val := by decide +kernel
  exact hall ⟨b, hb⟩
theorem let_idx (b : Nat) (hb : b < 256) : decide (0 ≤ firstIdx letS (b : Int).toNat.toUInt8) = letB b := by
  have hall : ∀ n : Fin 256, decide (0 ≤ firstIdx letS ((n.val : Nat) : Int).toNat.toUInt8) = letB n.val := by decide +kernel
  exact hall ⟨b, hb⟩
def digW : W4 := ⟨rgw 48 57 0, rgw 48 57 1, rgw 48 57 2, rgw 48 57 3⟩
def lowW : W4 := ⟨rgw 97 122 0, fo (rgw 97 122 1), rgw 97 122 2, rgw 97 122 3⟩
def uni3 (s t u : W4) : W4 := ⟨orr (orr (orr 0 s.a) t.a) u.a, orr (orr (orr 0 s.b) t.b) u.b, orr (orr (orr 0 s.c) t.c) u.c, orr (orr (orr 0 s.d) t.d) u.d⟩
def uni2 (s t : W4) : W4 := ⟨orr (orr 0 s.a) t.a, orr (orr 0 s.b) t.b, orr (orr 0 s.c) t.c, orr (orr 0 s.d) t.d⟩
def wordW : W4 := uni3 digW lowW (oneW 95)
def blankW : W4 := uni2 ⟨rgw 9 13 0, rgw 9 13 1, rgw 9 13 2, rgw 9 13 3⟩ (oneW 32)
/-- What a byte stands for behind a backslash. -/
def meanR (b : Nat) : W4 × Bool :=
  if themB b then (oneW b, true) else if b = 110 then (oneW 10, true) else if b = 116 then (oneW 9, true) else if b = 114 then (oneW 13, true) else if b = 102 then (oneW 12, true) else if b = 118 then (oneW 11, true)
  else if b = 100 then (digW, true) else if b = 119 then (wordW, true) else if b = 115 then (blankW, true) else if b = 68 then (notW digW, true) else if b = 87 then (notW wordW, true) else if b = 83 then (notW blankW, true) else (noW, false)
/-- What meaning answers. -/
def meanAns (r : W4 × Bool) : Value := .tuple #[.agg #[.int .u64 r.1.a, .int .u64 r.1.b, .int .u64 r.1.c, .int .u64 r.1.d], .bool r.2]
theorem below_put {w w' : World} {b : Nat} {t : W4} (h : Below w.heap.size w w') (hb : w.heap.size ≤ b) : Below w.heap.size w (setPut w' b t) := below_set4 h hb _ _ _ _
theorem kept_below {w w' : World} {o : Obj} (hb : Below (w.alloc o).heap.size (w.alloc o) w') : w'.heap[w.heap.size]? = some o := by
  rw [hb.block w.heap.size (by simp)]
  exact heap_new w o
set_option maxRecDepth 100000 in
set_option maxHeartbeats 4000000 in
theorem mean_them (b : Nat) (hb : b < 256) (ht : themB b = true) (w : World) :
    Calls Tryz.prog 132 #[.int .u8 (b : Int)] w fun e w' => e = .returned (meanAns (oneW b, true)) ∧ Below w.heap.size w w' := by
  have h1 := them_idx b hb
  rw [ht] at h1
  obtain ⟨v, hv⟩ : ∃ v, firstIdx themS (b : Int).toNat.toUInt8 = v := ⟨_, rfl⟩
  rw [hv] at h1
  have IX := qhid (fun W => tidx_any themS b v hv W)
  have OF := qhid (fun W => of_blk (w := W.alloc (.cells #[.int .u8 ((b : Nat) : Int)] 5)) (g := W.heap.size) (k := b) hb (heap_new W _))
  clear hv ht
  go_enter Tryz.func132, Tryz.ntmps132
  go_wp2_with fail
  refine (IX.out _).mono ?_
  rintro e w1 ⟨rfl, hw1⟩
  obtain ⟨W0, hW0⟩ : ∃ W0, W0 = w.alloc setObj := ⟨_, rfl⟩
  have hW1 : w1 = W0 := by rw [hw1, hW0]; rfl
  have HW0 := qhid hW0
  clear hw1
  subst hW1
  clear hW0
  go_wp2_with fail
  refine (OF.out _).mono ?_
  rintro e w2 ⟨rfl, hb2⟩
  have HB2 : Hid (Below (w.alloc setObj).heap.size (w.alloc setObj) w2) := qhid (by rw [← HW0.out]; exact (below1 _ _).trans (hb2.mono (by simp)))
  clear hb2
  obtain ⟨⟨q0, q1, q2, q3⟩, ⟨f0, f1, f2, f3⟩, hsz⟩ := set_cells (kept_below HB2.out)
  have HBw : Hid (Below w.heap.size w w2) := qhid ((below1 w _).trans (HB2.out.mono (by simp)))
  go_wp2_with fail
  refine bodyPost_ret (v := meanAns (oneW b, true)) (by simp [results, Tryz.results132, go_sem, meanAns, oneW, q0, q1, q2, q3]) rfl ⟨rfl, ?_⟩
  exact below_put (t := oneW b) HBw.out (Nat.le_refl _)
set_option maxRecDepth 100000 in
set_option maxHeartbeats 4000000 in
theorem mean_110 (w : World) :
    Calls Tryz.prog 132 #[.int .u8 (110 : Int)] w fun e w' => e = .returned (meanAns (oneW 10, true)) ∧ Below w.heap.size w w' := by
  have IX := qhid (fun W => tidx_any themS 110 (-1) (by decide +kernel) W)
  have IY := qhid (fun W => tidx_any letS 110 0 (by decide +kernel) W)
  have OF := qhid (fun W => of_blk (w := W.alloc (.cells #[.int .u8 ((10 : Nat) : Int)] 5)) (g := W.heap.size) (k := 10) (by omega) (heap_new W _))
  go_enter Tryz.func132, Tryz.ntmps132
  go_wp2_with fail
  refine (IX.out _).mono ?_
  rintro e w1 ⟨rfl, hw1⟩
  obtain ⟨W0, hW0⟩ : ∃ W0, W0 = w.alloc setObj := ⟨_, rfl⟩
  have hW1 : w1 = W0 := by rw [hw1, hW0]; rfl
  have HW0 := qhid hW0
  clear hw1
  subst hW1
  clear hW0
  go_wp2_with fail
  refine (IY.out _).mono ?_
  rintro e w3 ⟨rfl, hw3⟩
  obtain rfl : w1 = w3 := hw3.symm
  go_wp2_with fail
  refine (OF.out _).mono ?_
  rintro e w2 ⟨rfl, hb2⟩
  have HB2 : Hid (Below (w.alloc setObj).heap.size (w.alloc setObj) w2) := qhid (by rw [← HW0.out]; exact (below1 _ _).trans (hb2.mono (by simp)))
  clear hb2
  obtain ⟨⟨q0, q1, q2, q3⟩, ⟨f0, f1, f2, f3⟩, hsz⟩ := set_cells (kept_below HB2.out)
  have HBw : Hid (Below w.heap.size w w2) := qhid ((below1 w _).trans (HB2.out.mono (by simp)))
  go_wp2_with fail
  refine bodyPost_ret (v := meanAns (oneW 10, true)) (by simp [results, Tryz.results132, go_sem, meanAns, oneW, q0, q1, q2, q3]) rfl ⟨rfl, ?_⟩
  exact below_put (t := oneW 10) HBw.out (Nat.le_refl _)
set_option maxRecDepth 100000 in
set_option maxHeartbeats 4000000 in
theorem mean_116 (w : World) :
    Calls Tryz.prog 132 #[.int .u8 (116 : Int)] w fun e w' => e = .returned (meanAns (oneW 9, true)) ∧ Below w.heap.size w w' := by
  have IX := qhid (fun W => tidx_any themS 116 (-1) (by decide +kernel) W)
  have IY := qhid (fun W => tidx_any letS 116 1 (by decide +kernel) W)
  have OF := qhid (fun W => of_blk (w := W.alloc (.cells #[.int .u8 ((9 : Nat) : Int)] 5)) (g := W.heap.size) (k := 9) (by omega) (heap_new W _))
  go_enter Tryz.func132, Tryz.ntmps132
  go_wp2_with fail
  refine (IX.out _).mono ?_
  rintro e w1 ⟨rfl, hw1⟩
  obtain ⟨W0, hW0⟩ : ∃ W0, W0 = w.alloc setObj := ⟨_, rfl⟩
  have hW1 : w1 = W0 := by rw [hw1, hW0]; rfl
  have HW0 := qhid hW0
  clear hw1
  subst hW1
  clear hW0
  go_wp2_with fail
  refine (IY.out _).mono ?_
  rintro e w3 ⟨rfl, hw3⟩
  obtain rfl : w1 = w3 := hw3.symm
  go_wp2_with fail
  refine (OF.out _).mono ?_
  rintro e w2 ⟨rfl, hb2⟩
  have HB2 : Hid (Below (w.alloc setObj).heap.size (w.alloc setObj) w2) := qhid (by rw [← HW0.out]; exact (below1 _ _).trans (hb2.mono (by simp)))
  clear hb2
  obtain ⟨⟨q0, q1, q2, q3⟩, ⟨f0, f1, f2, f3⟩, hsz⟩ := set_cells (kept_below HB2.out)
  have HBw : Hid (Below w.heap.size w w2) := qhid ((below1 w _).trans (HB2.out.mono (by simp)))
  go_wp2_with fail
  refine bodyPost_ret (v := meanAns (oneW 9, true)) (by simp [results, Tryz.results132, go_sem, meanAns, oneW, q0, q1, q2, q3]) rfl ⟨rfl, ?_⟩
  exact below_put (t := oneW 9) HBw.out (Nat.le_refl _)
set_option maxRecDepth 100000 in
set_option maxHeartbeats 4000000 in
theorem mean_114 (w : World) :
    Calls Tryz.prog 132 #[.int .u8 (114 : Int)] w fun e w' => e = .returned (meanAns (oneW 13, true)) ∧ Below w.heap.size w w' := by
  have IX := qhid (fun W => tidx_any themS 114 (-1) (by decide +kernel) W)
  have IY := qhid (fun W => tidx_any letS 114 2 (by decide +kernel) W)
  have OF := qhid (fun W => of_blk (w := W.alloc (.cells #[.int .u8 ((13 : Nat) : Int)] 5)) (g := W.heap.size) (k := 13) (by omega) (heap_new W _))
  go_enter Tryz.func132, Tryz.ntmps132
  go_wp2_with fail
  refine (IX.out _).mono ?_
  rintro e w1 ⟨rfl, hw1⟩
  obtain ⟨W0, hW0⟩ : ∃ W0, W0 = w.alloc setObj := ⟨_, rfl⟩
  have hW1 : w1 = W0 := by rw [hw1, hW0]; rfl
  have HW0 := qhid hW0
  clear hw1
  subst hW1
  clear hW0
  go_wp2_with fail
  refine (IY.out _).mono ?_
  rintro e w3 ⟨rfl, hw3⟩
  obtain rfl : w1 = w3 := hw3.symm
  go_wp2_with fail
  refine (OF.out _).mono ?_
  rintro e w2 ⟨rfl, hb2⟩
  have HB2 : Hid (Below (w.alloc setObj).heap.size (w.alloc setObj) w2) := qhid (by rw [← HW0.out]; exact (below1 _ _).trans (hb2.mono (by simp)))
  clear hb2
  obtain ⟨⟨q0, q1, q2, q3⟩, ⟨f0, f1, f2, f3⟩, hsz⟩ := set_cells (kept_below HB2.out)
  have HBw : Hid (Below w.heap.size w w2) := qhid ((below1 w _).trans (HB2.out.mono (by simp)))
  go_wp2_with fail
  refine bodyPost_ret (v := meanAns (oneW 13, true)) (by simp [results, Tryz.results132, go_sem, meanAns, oneW, q0, q1, q2, q3]) rfl ⟨rfl, ?_⟩
  exact below_put (t := oneW 13) HBw.out (Nat.le_refl _)
set_option maxRecDepth 100000 in
set_option maxHeartbeats 4000000 in
theorem mean_102 (w : World) :
    Calls Tryz.prog 132 #[.int .u8 (102 : Int)] w fun e w' => e = .returned (meanAns (oneW 12, true)) ∧ Below w.heap.size w w' := by
  have IX := qhid (fun W => tidx_any themS 102 (-1) (by decide +kernel) W)
  have IY := qhid (fun W => tidx_any letS 102 3 (by decide +kernel) W)
  have OF := qhid (fun W => of_blk (w := W.alloc (.cells #[.int .u8 ((12 : Nat) : Int)] 5)) (g := W.heap.size) (k := 12) (by omega) (heap_new W _))
  go_enter Tryz.func132, Tryz.ntmps132
  go_wp2_with fail
  refine (IX.out _).mono ?_
  rintro e w1 ⟨rfl, hw1⟩
  obtain ⟨W0, hW0⟩ : ∃ W0, W0 = w.alloc setObj := ⟨_, rfl⟩
  have hW1 : w1 = W0 := by rw [hw1, hW0]; rfl
  have HW0 := qhid hW0
  clear hw1
  subst hW1
  clear hW0
  go_wp2_with fail
  refine (IY.out _).mono ?_
  rintro e w3 ⟨rfl, hw3⟩
  obtain rfl : w1 = w3 := hw3.symm
  go_wp2_with fail
  refine (OF.out _).mono ?_
  rintro e w2 ⟨rfl, hb2⟩
  have HB2 : Hid (Below (w.alloc setObj).heap.size (w.alloc setObj) w2) := qhid (by rw [← HW0.out]; exact (below1 _ _).trans (hb2.mono (by simp)))
  clear hb2
  obtain ⟨⟨q0, q1, q2, q3⟩, ⟨f0, f1, f2, f3⟩, hsz⟩ := set_cells (kept_below HB2.out)
  have HBw : Hid (Below w.heap.size w w2) := qhid ((below1 w _).trans (HB2.out.mono (by simp)))
  go_wp2_with fail
  refine bodyPost_ret (v := meanAns (oneW 12, true)) (by simp [results, Tryz.results132, go_sem, meanAns, oneW, q0, q1, q2, q3]) rfl ⟨rfl, ?_⟩
  exact below_put (t := oneW 12) HBw.out (Nat.le_refl _)
set_option maxRecDepth 100000 in
set_option maxHeartbeats 4000000 in
theorem mean_118 (w : World) :
    Calls Tryz.prog 132 #[.int .u8 (118 : Int)] w fun e w' => e = .returned (meanAns (oneW 11, true)) ∧ Below w.heap.size w w' := by
  have IX := qhid (fun W => tidx_any themS 118 (-1) (by decide +kernel) W)
  have IY := qhid (fun W => tidx_any letS 118 4 (by decide +kernel) W)
  have OF := qhid (fun W => of_blk (w := W.alloc (.cells #[.int .u8 ((11 : Nat) : Int)] 5)) (g := W.heap.size) (k := 11) (by omega) (heap_new W _))
  go_enter Tryz.func132, Tryz.ntmps132
  go_wp2_with fail
  refine (IX.out _).mono ?_
  rintro e w1 ⟨rfl, hw1⟩
  obtain ⟨W0, hW0⟩ : ∃ W0, W0 = w.alloc setObj := ⟨_, rfl⟩
  have hW1 : w1 = W0 := by rw [hw1, hW0]; rfl
  have HW0 := qhid hW0
  clear hw1
  subst hW1
  clear hW0
  go_wp2_with fail
  refine (IY.out _).mono ?_
  rintro e w3 ⟨rfl, hw3⟩
  obtain rfl : w1 = w3 := hw3.symm
  go_wp2_with fail
  refine (OF.out _).mono ?_
  rintro e w2 ⟨rfl, hb2⟩
  have HB2 : Hid (Below (w.alloc setObj).heap.size (w.alloc setObj) w2) := qhid (by rw [← HW0.out]; exact (below1 _ _).trans (hb2.mono (by simp)))
  clear hb2
  obtain ⟨⟨q0, q1, q2, q3⟩, ⟨f0, f1, f2, f3⟩, hsz⟩ := set_cells (kept_below HB2.out)
  have HBw : Hid (Below w.heap.size w w2) := qhid ((below1 w _).trans (HB2.out.mono (by simp)))
  go_wp2_with fail
  refine bodyPost_ret (v := meanAns (oneW 11, true)) (by simp [results, Tryz.results132, go_sem, meanAns, oneW, q0, q1, q2, q3]) rfl ⟨rfl, ?_⟩
  exact below_put (t := oneW 11) HBw.out (Nat.le_refl _)
end
section
open Go Go.RowKit
attribute [local go_sem ↓] Go.wp_at_zero Go.wp_at_succ
attribute [local go_sem] eq4
abbrev HeldS (wr : World) (g : Nat) (t : W4) (w' : World) : Prop :=
  (w'.cell? ⟨g, 0, none⟩ = some (.int .u64 t.a) ∧ w'.cell? ⟨g, 1, none⟩ = some (.int .u64 t.b) ∧ w'.cell? ⟨g, 2, none⟩ = some (.int .u64 t.c) ∧ w'.cell? ⟨g, 3, none⟩ = some (.int .u64 t.d)) ∧ g < w'.heap.size ∧ Below wr.heap.size wr w'
theorem heldS_below {wr : World} {g : Nat} {t : W4} {X Y : World} (hb : Below X.heap.size X Y) (h : HeldS wr g t X) : HeldS wr g t Y :=
  ⟨SetAt.below (s := t) (o := 0) h.1 hb h.2.1, Nat.lt_of_lt_of_le h.2.1 hb.size, h.2.2.trans (hb.mono h.2.2.size)⟩
theorem heldS_drew {wr : World} {g : Nat} {t : W4} {X : World} (h : HeldS wr g t X) : HeldS wr g t X.drew := ⟨h.1, h.2.1, h.2.2.drew⟩
theorem set_of_block {W : World} {g : Nat} {t : W4} (h : W.heap[g]? = some (.cells #[.int .u64 t.a, .int .u64 t.b, .int .u64 t.c, .int .u64 t.d] 34)) : SetAt W g 0 t ∧ g < W.heap.size :=
  ⟨⟨Joins.cell_of_block h 0, Joins.cell_of_block h 1, Joins.cell_of_block h 2, Joins.cell_of_block h 3⟩, Reg.size_of_get h⟩
theorem three_blk {s t u : W4} {w : World} {g : Nat} (h : w.heap[g]? = some (.cells #[.int .u64 s.a, .int .u64 s.b, .int .u64 s.c, .int .u64 s.d, .int .u64 t.a, .int .u64 t.b, .int .u64 t.c, .int .u64 t.d, .int .u64 u.a, .int .u64 u.b, .int .u64 u.c, .int .u64 u.d] 34)) :
    Calls Tryz.prog 129 #[.slice (some ⟨g, 0, none⟩) 3 3] w fun e w' => e = .returned (.agg #[.int .u64 (uni3 s t u).a, .int .u64 (uni3 s t u).b, .int .u64 (uni3 s t u).c, .int .u64 (uni3 s t u).d]) ∧ Below w.heap.size w w' :=
  union_three g _ _ _ _ _ _ _ _ _ _ _ _ w (Reg.size_of_get h) (Joins.cell_of_block h 0) (Joins.cell_of_block h 1) (Joins.cell_of_block h 2) (Joins.cell_of_block h 3) (Joins.cell_of_block h 4) (Joins.cell_of_block h 5) (Joins.cell_of_block h 6) (Joins.cell_of_block h 7) (Joins.cell_of_block h 8) (Joins.cell_of_block h 9) (Joins.cell_of_block h 10) (Joins.cell_of_block h 11)
def rngW (lo hi : Nat) : W4 := ⟨rgw lo hi 0, rgw lo hi 1, rgw lo hi 2, rgw lo hi 3⟩
def foldW (t : W4) : W4 := ⟨t.a, fo t.b, t.c, t.d⟩
/-- What the region of letters, digits and _ tells. -/
def meanTold (d r l u x : W4) : Nat → Reg.Told
  | 0 => .inl (.agg #[.int .u64 d.a, .int .u64 d.b, .int .u64 d.c, .int .u64 d.d])
  | 1 => .inl (.agg #[.int .u64 r.a, .int .u64 r.b, .int .u64 r.c, .int .u64 r.d])
  | 2 => .inl (.agg #[.int .u64 l.a, .int .u64 l.b, .int .u64 l.c, .int .u64 l.d])
  | 3 => .inr ⟨fun G => .slice (some ⟨G, 0, none⟩) 1 1, 5, #[.int .u8 95]⟩
  | 4 => .inl (.agg #[.int .u64 u.a, .int .u64 u.b, .int .u64 u.c, .int .u64 u.d])
  | 5 => .inr ⟨fun G => .slice (some ⟨G, 0, none⟩) 3 3, 34, #[.int .u64 d.a, .int .u64 d.b, .int .u64 d.c, .int .u64 d.d, .int .u64 l.a, .int .u64 l.b, .int .u64 l.c, .int .u64 l.d, .int .u64 u.a, .int .u64 u.b, .int .u64 u.c, .int .u64 u.d]⟩
  | 6 => .inl (.agg #[.int .u64 x.a, .int .u64 x.b, .int .u64 x.c, .int .u64 x.d])
  | 7 => .inr ⟨fun G => .pointer (some ⟨G, 0, none⟩), 34, #[.int .u64 0, .int .u64 0, .int .u64 0, .int .u64 0]⟩
  | _ => .inl undef
theorem below_put_alloc {w w' : World} {b : Nat} {t : W4} (h : Below w.heap.size w w') (hb : w.heap.size ≤ b) (o : Obj) : Below w.heap.size w ((setPut w' b t).alloc o) :=
  (below_put (t := t) h hb).alloc (below_put (t := t) h hb).size o
set_option maxRecDepth 100000 in
set_option maxHeartbeats 8000000 in
theorem mean_rest (b : Nat) (hb : b < 256) (ht : themB b = false) (hl : letB b = false) (w : World) :
    Calls Tryz.prog 132 #[.int .u8 (b : Int)] w fun e w' => e = .returned (meanAns (meanR b)) ∧ Below w.heap.size w w' := by
  have h1 := them_idx b hb
  have h2 := let_idx b hb
  rw [ht] at h1
  rw [hl] at h2
  obtain ⟨v, hv⟩ : ∃ v, firstIdx themS (b : Int).toNat.toUInt8 = v := ⟨_, rfl⟩
  obtain ⟨u, hu⟩ : ∃ u, firstIdx letS (b : Int).toNat.toUInt8 = u := ⟨_, rfl⟩
  rw [hv] at h1
  rw [hu] at h2
  have IX := qhid (fun W => tidx_any themS b v hv W)
  have IY := qhid (fun W => tidx_any letS b u hu W)
  have RG : Hid (∀ W, Calls Tryz.prog 72 #[.int .u8 48, .int .u8 57] W fun e w' => e = .returned (.agg #[.int .u64 (rngW 48 57).a, .int .u64 (rngW 48 57).b, .int .u64 (rngW 48 57).c, .int .u64 (rngW 48 57).d]) ∧ Below W.heap.size W w') := qhid (fun W => range_any 48 57 (by omega) (by omega) W)
  have RL : Hid (∀ W, Calls Tryz.prog 72 #[.int .u8 97, .int .u8 122] W fun e w' => e = .returned (.agg #[.int .u64 (rngW 97 122).a, .int .u64 (rngW 97 122).b, .int .u64 (rngW 97 122).c, .int .u64 (rngW 97 122).d]) ∧ Below W.heap.size W w') := qhid (fun W => range_any 97 122 (by omega) (by omega) W)
  have RB : Hid (∀ W, Calls Tryz.prog 72 #[.int .u8 9, .int .u8 13] W fun e w' => e = .returned (.agg #[.int .u64 (rngW 9 13).a, .int .u64 (rngW 9 13).b, .int .u64 (rngW 9 13).c, .int .u64 (rngW 9 13).d]) ∧ Below W.heap.size W w') := qhid (fun W => range_any 9 13 (by omega) (by omega) W)
  have FL : Hid (∀ W, Calls Tryz.prog 137 #[.agg #[.int .u64 (rngW 97 122).a, .int .u64 (rngW 97 122).b, .int .u64 (rngW 97 122).c, .int .u64 (rngW 97 122).d]] W fun e w' => e = .returned (.agg #[.int .u64 (foldW (rngW 97 122)).a, .int .u64 (foldW (rngW 97 122)).b, .int .u64 (foldW (rngW 97 122)).c, .int .u64 (foldW (rngW 97 122)).d]) ∧ Below W.heap.size W w') := qhid (fun W => fold_any _ _ _ _ W)
  have OU : Hid (∀ W g, W.heap[g]? = some (.cells #[.int .u8 95] 5) → Calls Tryz.prog 32 #[.slice (some ⟨g, 0, none⟩) 1 1] W fun e w' => e = .returned (.agg #[.int .u64 (oneW 95).a, .int .u64 (oneW 95).b, .int .u64 (oneW 95).c, .int .u64 (oneW 95).d]) ∧ Below W.heap.size W w') := qhid (fun W g h => of_blk (k := 95) (by omega) h)
  have UN : Hid (∀ W g, W.heap[g]? = some (.cells #[.int .u64 (rngW 48 57).a, .int .u64 (rngW 48 57).b, .int .u64 (rngW 48 57).c, .int .u64 (rngW 48 57).d, .int .u64 (foldW (rngW 97 122)).a, .int .u64 (foldW (rngW 97 122)).b, .int .u64 (foldW (rngW 97 122)).c, .int .u64 (foldW (rngW 97 122)).d, .int .u64 (oneW 95).a, .int .u64 (oneW 95).b, .int .u64 (oneW 95).c, .int .u64 (oneW 95).d] 34) → Calls Tryz.prog 129 #[.slice (some ⟨g, 0, none⟩) 3 3] W fun e w' => e = .returned (.agg #[.int .u64 (uni3 (rngW 48 57) (foldW (rngW 97 122)) (oneW 95)).a, .int .u64 (uni3 (rngW 48 57) (foldW (rngW 97 122)) (oneW 95)).b, .int .u64 (uni3 (rngW 48 57) (foldW (rngW 97 122)) (oneW 95)).c, .int .u64 (uni3 (rngW 48 57) (foldW (rngW 97 122)) (oneW 95)).d]) ∧ Below W.heap.size W w') := qhid (fun W g h => three_blk h)
  have OO : Hid (∀ W : World, Calls Tryz.prog 32 #[.slice (some ⟨W.heap.size, 0, none⟩) 1 1] (W.alloc (.cells #[.int .u8 32] 5)) fun e w' => e = .returned (.agg #[.int .u64 (oneW 32).a, .int .u64 (oneW 32).b, .int .u64 (oneW 32).c, .int .u64 (oneW 32).d]) ∧ Below (W.alloc (.cells #[.int .u8 32] 5)).heap.size (W.alloc (.cells #[.int .u8 32] 5)) w') := qhid (fun W => of_blk (k := 32) (by omega) (heap_new W _))
  have U2 : Hid (∀ W : World, Calls Tryz.prog 129 #[.slice (some ⟨W.heap.size, 0, none⟩) 2 2] (W.alloc (.cells #[.int .u64 (rngW 9 13).a, .int .u64 (rngW 9 13).b, .int .u64 (rngW 9 13).c, .int .u64 (rngW 9 13).d, .int .u64 (oneW 32).a, .int .u64 (oneW 32).b, .int .u64 (oneW 32).c, .int .u64 (oneW 32).d] 34)) fun e w' => e = .returned (.agg #[.int .u64 (uni2 (rngW 9 13) (oneW 32)).a, .int .u64 (uni2 (rngW 9 13) (oneW 32)).b, .int .u64 (uni2 (rngW 9 13) (oneW 32)).c, .int .u64 (uni2 (rngW 9 13) (oneW 32)).d]) ∧ Below (W.alloc (.cells #[.int .u64 (rngW 9 13).a, .int .u64 (rngW 9 13).b, .int .u64 (rngW 9 13).c, .int .u64 (rngW 9 13).d, .int .u64 (oneW 32).a, .int .u64 (oneW 32).b, .int .u64 (oneW 32).c, .int .u64 (oneW 32).d] 34)).heap.size (W.alloc (.cells #[.int .u64 (rngW 9 13).a, .int .u64 (rngW 9 13).b, .int .u64 (rngW 9 13).c, .int .u64 (rngW 9 13).d, .int .u64 (oneW 32).a, .int .u64 (oneW 32).b, .int .u64 (oneW 32).c, .int .u64 (oneW 32).d] 34)) w') := qhid (fun W => union_new _ _ _ _ _ _ _ _ W)
  have HMR : Hid (meanR b = if b = 100 then (rngW 48 57, true) else if b = 119 then (uni3 (rngW 48 57) (foldW (rngW 97 122)) (oneW 95), true) else if b = 115 then (uni2 (rngW 9 13) (oneW 32), true) else if b = 68 then (notW (rngW 48 57), true) else if b = 87 then (notW (uni3 (rngW 48 57) (foldW (rngW 97 122)) (oneW 95)), true) else if b = 83 then (notW (uni2 (rngW 9 13) (oneW 32)), true) else (noW, false)) := qhid (by
    have k0 : ¬ b = 110 := by rintro rfl; revert hl; decide
    have k1 : ¬ b = 116 := by rintro rfl; revert hl; decide
    have k2 : ¬ b = 114 := by rintro rfl; revert hl; decide
    have k3 : ¬ b = 102 := by rintro rfl; revert hl; decide
    have k4 : ¬ b = 118 := by rintro rfl; revert hl; decide
    unfold meanR
    rw [ht, if_neg (by decide), if_neg k0, if_neg k1, if_neg k2, if_neg k3, if_neg k4]
    rfl)
  generalize uni3 (rngW 48 57) (foldW (rngW 97 122)) (oneW 95) = xW at *
  generalize uni2 (rngW 9 13) (oneW 32) = kW at *
  generalize rngW 48 57 = dW at *
  generalize foldW (rngW 97 122) = lW at *
  generalize rngW 97 122 = rW at *
  generalize rngW 9 13 = sW at *
  generalize oneW 95 = uW at *
  generalize oneW 32 = oW at *
  clear ht hl hv hu
  go_enter Tryz.func132, Tryz.ntmps132
  go_wp2_with fail
  refine (IX.out _).mono ?_
  rintro e w1 ⟨rfl, hw1⟩
  obtain ⟨W0, hW0⟩ : ∃ W0, W0 = w.alloc setObj := ⟨_, rfl⟩
  have hW1 : w1 = W0 := by rw [hw1, hW0]; rfl
  have HW0 := qhid hW0
  clear hw1
  subst hW1
  clear hW0
  go_wp2_with fail
  refine (IY.out _).mono ?_
  rintro e w3 ⟨rfl, hw3⟩
  obtain rfl : w1 = w3 := hw3.symm
  go_wp2_with fail
  refine (RG.out _).mono ?_
  rintro e w2 ⟨rfl, hb2⟩
  have HB2 : Hid (Below (w.alloc setObj).heap.size (w.alloc setObj) w2) := qhid (by rw [← HW0.out]; exact hb2)
  clear hb2
  go_wp2_with fail
  have hgd : (w2.alloc (.cells #[.int .u64 dW.a, .int .u64 dW.b, .int .u64 dW.c, .int .u64 dW.d] 34)).heap[w2.heap.size]? = some (.cells #[.int .u64 dW.a, .int .u64 dW.b, .int .u64 dW.c, .int .u64 dW.d] 34) := heap_new _ _
  have HB6 : Hid (Below (w.alloc setObj).heap.size (w.alloc setObj) (w2.alloc (.cells #[.int .u64 dW.a, .int .u64 dW.b, .int .u64 dW.c, .int .u64 dW.d] 34))) := qhid (HB2.out.trans ((below1 _ _).mono HB2.out.size))
  obtain ⟨W6, hW6⟩ : ∃ W6, W6 = w2.alloc (.cells #[.int .u64 dW.a, .int .u64 dW.b, .int .u64 dW.c, .int .u64 dW.d] 34) := ⟨_, rfl⟩
  rw [← hW6] at hgd HB6
  rw [← hW6]
  clear hW6
  generalize w2.heap.size = gd at *
  have HS0 : HeldS W6 gd dW W6 := ⟨(set_of_block hgd).1, (set_of_block hgd).2, Below.refl _ _⟩
  clear hgd
  refine Reg.wp_region_told (meanTold dW rW lW uW xW) [(8, 7, #[.int .u64 xW.a, .int .u64 xW.b, .int .u64 xW.c, .int .u64 xW.d])] [0, 1, 2, 3, 4, 5, 6, 7, 8] (by rfl) (by kernel_rfl) (by kernel_rfl) (by intro f hf f' hf' _; rw [List.mem_singleton.1 hf, List.mem_singleton.1 hf']) (by intro f hf f' hf' _; rw [List.mem_singleton.1 hf, List.mem_singleton.1 hf']) ?_ ?_
  focus
    refine ⟨Reg.opOK_plain (by rfl) fun G listed A wv hI hall => .inl ⟨Reg.wanted_none rfl, ?_⟩, ?_⟩
    focus
      have H := heldS_below hI.base (heldS_drew HS0)
      have e5 := hI.evo (d := 5) (by kernel_rfl) rfl
      clear hI hall HS0
      unfold Reg.Yields
      go_simp
      exact Reg.good_val (by rfl) (by rfl) (Below.refl _ _)
    refine ⟨Reg.opOK_plain (by rfl) fun G listed A wv hI hall => .inl ⟨Reg.wanted_none rfl, ?_⟩, ?_⟩
    focus
      clear hI hall HS0
      unfold Reg.Yields
      go_simp
      exact (RL.out _).mono fun e w'' ⟨he, hb⟩ => ⟨_, he, Reg.good_val (by rfl) (by rfl) hb⟩
    refine ⟨Reg.opOK_plain (by rfl) fun G listed A wv hI hall => .inl ⟨Reg.wanted_none rfl, ?_⟩, ?_⟩
    focus
      have e24 := hI.ev (i := 1) (d := 24) (by rfl) (by rfl) (hall ⟨1, .data⟩ (by simp) rfl)
      clear hI hall HS0
      unfold Reg.Yields
      go_simp
      exact (FL.out _).mono fun e w'' ⟨he, hb⟩ => ⟨_, he, Reg.good_val (by rfl) (by rfl) hb⟩
    refine ⟨Reg.opOK_plain (by rfl) fun G listed A wv hI hall => .inl ⟨Reg.wanted_none rfl, ?_⟩, ?_⟩
    focus
      clear hI hall HS0
      unfold Reg.Yields
      go_simp
      exact Reg.good_new (by rfl) (by rfl) (by rfl)
    refine ⟨Reg.opOK_plain (by rfl) fun G listed A wv hI hall => .inl ⟨Reg.wanted_none rfl, ?_⟩, ?_⟩
    focus
      obtain ⟨e26, _, b26⟩ := hI.evm (i := 3) (d := 26) (by rfl) (by rfl) (hall ⟨3, .data⟩ (by simp) rfl)
      clear hI hall HS0
      unfold Reg.Yields
      go_simp
      exact (OU.out _ _ b26).mono fun e w'' ⟨he, hb⟩ => ⟨_, he, Reg.good_val (by rfl) (by rfl) hb⟩
    refine ⟨Reg.opOK_plain (by rfl) fun G listed A wv hI hall => .inl ⟨Reg.wanted_none rfl, ?_⟩, ?_⟩
    focus
      have e23 := hI.ev (i := 0) (d := 23) (by rfl) (by rfl) (hall ⟨0, .data⟩ (by simp) rfl)
      have e25 := hI.ev (i := 2) (d := 25) (by rfl) (by rfl) (hall ⟨2, .data⟩ (by simp) rfl)
      have e27 := hI.ev (i := 4) (d := 27) (by rfl) (by rfl) (hall ⟨4, .data⟩ (by simp) rfl)
      clear hI hall HS0
      unfold Reg.Yields
      go_simp
      exact Reg.good_new (by rfl) (by rfl) (by rfl)
    refine ⟨Reg.opOK_plain (by rfl) fun G listed A wv hI hall => .inl ⟨Reg.wanted_none rfl, ?_⟩, ?_⟩
    focus
      obtain ⟨e28, _, b28⟩ := hI.evm (i := 5) (d := 28) (by rfl) (by rfl) (hall ⟨5, .data⟩ (by simp) rfl)
      clear hI hall HS0
      unfold Reg.Yields
      go_simp
      exact (UN.out _ _ b28).mono fun e w'' ⟨he, hb⟩ => ⟨_, he, Reg.good_val (by rfl) (by rfl) hb⟩
    refine ⟨Reg.opOK_plain (by rfl) fun G listed A wv hI hall => .inl ⟨Reg.wanted_none rfl, ?_⟩, ?_⟩
    focus
      clear hI hall HS0
      unfold Reg.Yields
      go_simp
      exact Reg.good_new (by rfl) (by rfl) (by rfl)
    refine ⟨Reg.opOK_fill (by rfl) (by rfl) (by rfl) rfl rfl (by simp) (fun G listed A wv hI hall s6 hc => ?_) (by intro f hf f' hf' _; rw [List.mem_singleton.1 hf, List.mem_singleton.1 hf']), ?_⟩
    focus
      have e6 := s6
      have e29 := hI.ev (i := 6) (d := 29) (by rfl) (by rfl) (hall ⟨6, .data⟩ (by simp) rfl)
      clear hI hall HS0
      unfold Reg.Yields
      rcases hc with hc | hc <;> (obtain ⟨c0, c1, c2, c3, f0, f1, f2, f3⟩ := Reg.cells4 hc; have hc' := hid hc; clear hc s6; go_simp; exact Reg.filled4 hc'.out _ _ _ _)
    trivial
  intro G w7 hI
  obtain ⟨_, _, c7⟩ := hI.evm (i := 7) (d := 6) (by rfl) (by rfl) (by rfl)
  have b7 : w7.heap[G 7]? = some (.cells #[.int .u64 xW.a, .int .u64 xW.b, .int .u64 xW.c, .int .u64 xW.d] 34) := c7
  have HX7 := hid (set_of_block (t := xW) b7)
  have HD7 := hid (heldS_below hI.base (heldS_drew HS0))
  have HB7 : Hid (Below (w.alloc setObj).heap.size (w.alloc setObj) w7) := hid (HB6.out.trans (HD7.out.2.2.mono HB6.out.size))
  clear hI c7 HS0 b7
  simp [Reg.finalTmps, Reg.dstAt, Reg.valOf, meanTold]
  generalize G 7 = gm at *
  go_wp2_with fail
  refine (RB.out _).mono ?_
  rintro e w8 ⟨rfl, hb8⟩
  have HD8 := hid (heldS_below hb8 HD7.out)
  have HX8 : Hid (SetAt w8 gm 0 xW ∧ gm < w8.heap.size) := hid ⟨HX7.out.1.below hb8 HX7.out.2, Nat.lt_of_lt_of_le HX7.out.2 hb8.size⟩
  have HB8 := hid (HB7.out.trans (hb8.mono HB7.out.size))
  clear hb8
  go_wp2_with fail
  refine (OO.out w8).mono ?_
  rintro e w9 ⟨rfl, hb9'⟩
  have hb9 : Below w8.heap.size w8 w9 := (below1 _ _).trans (hb9'.mono (by simp))
  have HD9 := hid (heldS_below hb9 HD8.out)
  have HX9 : Hid (SetAt w9 gm 0 xW ∧ gm < w9.heap.size) := hid ⟨HX8.out.1.below hb9 HX8.out.2, Nat.lt_of_lt_of_le HX8.out.2 hb9.size⟩
  have HB9 := hid (HB8.out.trans (hb9.mono HB8.out.size))
  clear hb9 hb9'
  go_wp2_with fail
  refine (U2.out w9).mono ?_
  rintro e w10 ⟨rfl, hb10'⟩
  have hb10 : Below w9.heap.size w9 w10 := (below1 _ _).trans (hb10'.mono (by simp))
  have hb11 : Below w9.heap.size w9 (w10.alloc (.cells #[.int .u64 kW.a, .int .u64 kW.b, .int .u64 kW.c, .int .u64 kW.d] 34)) := hb10.trans ((below1 _ _).mono hb10.size)
  have HD11 := hid (heldS_below hb11 HD9.out)
  have HX11 : Hid (SetAt (w10.alloc (.cells #[.int .u64 kW.a, .int .u64 kW.b, .int .u64 kW.c, .int .u64 kW.d] 34)) gm 0 xW ∧ gm < (w10.alloc (.cells #[.int .u64 kW.a, .int .u64 kW.b, .int .u64 kW.c, .int .u64 kW.d] 34)).heap.size) := hid ⟨HX9.out.1.below hb11 HX9.out.2, Nat.lt_of_lt_of_le HX9.out.2 hb11.size⟩
  have HB11 := hid (HB9.out.trans (hb11.mono HB9.out.size))
  have HB10 := hid (HB9.out.trans (hb10.mono HB9.out.size))
  have HD10 := hid (heldS_below hb10 HD9.out)
  have HX10 : Hid (SetAt w10 gm 0 xW ∧ gm < w10.heap.size) := hid ⟨HX9.out.1.below hb10 HX9.out.2, Nat.lt_of_lt_of_le HX9.out.2 hb10.size⟩
  have HK11 := hid (set_of_block (t := kW) (heap_new w10 (.cells #[.int .u64 kW.a, .int .u64 kW.b, .int .u64 kW.c, .int .u64 kW.d] 34)))
  clear hb10 hb10' hb11
  have NOT := hid (fun (t : W4) W => not_any t.a t.b t.c t.d W)
  obtain ⟨d0, d1, d2, d3⟩ := HD10.out.1
  have hgdl := HD10.out.2.1
  obtain ⟨x0, x1, x2, x3⟩ := HX10.out.1
  have hgml := HX10.out.2
  by_cases h100 : b = 100
  · have HF : Hid (meanR b = (dW, true)) := hid (by rw [HMR.out, if_pos h100])
    have t100 : ((b : Int) == 100) = true := by simp; omega
    clear h100
    obtain ⟨⟨q0, q1, q2, q3⟩, ⟨f0, f1, f2, f3⟩, hsz⟩ := set_cells (kept_below HB10.out)
    have HBw := hid ((below1 w _).trans (HB10.out.mono (by simp)))
    go_wp2_with fail
    refine bodyPost_ret (v := meanAns (dW, true)) (by simp [results, Tryz.results132, go_sem, meanAns, hsz, q0, q1, q2, q3]) rfl ⟨by rw [HF.out], ?_⟩
    exact below_put_alloc (t := dW) HBw.out (Nat.le_refl _) _
  · by_cases h119 : b = 119
    · have HF : Hid (meanR b = (xW, true)) := hid (by rw [HMR.out, if_neg h100, if_pos h119])
      have t100 : ((b : Int) == 100) = false := by simp; omega
      have t119 : ((b : Int) == 119) = true := by simp; omega
      clear h100 h119
      obtain ⟨⟨q0, q1, q2, q3⟩, ⟨f0, f1, f2, f3⟩, hsz⟩ := set_cells (kept_below HB10.out)
      have HBw := hid ((below1 w _).trans (HB10.out.mono (by simp)))
      go_wp2_with fail
      refine bodyPost_ret (v := meanAns (xW, true)) (by simp [results, Tryz.results132, go_sem, meanAns, hsz, q0, q1, q2, q3]) rfl ⟨by rw [HF.out], ?_⟩
      exact below_put_alloc (t := xW) HBw.out (Nat.le_refl _) _
    · by_cases h115 : b = 115
      · have HF : Hid (meanR b = (kW, true)) := hid (by rw [HMR.out, if_neg h100, if_neg h119, if_pos h115])
        have t100 : ((b : Int) == 100) = false := by simp; omega
        have t119 : ((b : Int) == 119) = false := by simp; omega
        have t115 : ((b : Int) == 115) = true := by simp; omega
        clear h100 h119 h115
        obtain ⟨⟨q0, q1, q2, q3⟩, ⟨f0, f1, f2, f3⟩, hsz⟩ := set_cells (kept_below HB10.out)
        have HBw := hid ((below1 w _).trans (HB10.out.mono (by simp)))
        go_wp2_with fail
        refine bodyPost_ret (v := meanAns (kW, true)) (by simp [results, Tryz.results132, go_sem, meanAns, hsz, q0, q1, q2, q3]) rfl ⟨by rw [HF.out], ?_⟩
        exact below_put_alloc (t := kW) HBw.out (Nat.le_refl _) _
      · by_cases h68 : b = 68
        · have HF : Hid (meanR b = (notW dW, true)) := hid (by rw [HMR.out, if_neg h100, if_neg h119, if_neg h115, if_pos h68])
          have t100 : ((b : Int) == 100) = false := by simp; omega
          have t119 : ((b : Int) == 119) = false := by simp; omega
          have t115 : ((b : Int) == 115) = false := by simp; omega
          have t68 : ((b : Int) == 68) = true := by simp; omega
          clear h100 h119 h115 h68
          go_wp2_with fail
          refine (NOT.out dW _).mono ?_
          rintro e w12 ⟨rfl, hb12⟩
          have HB12 := hid (HB11.out.trans (hb12.mono HB11.out.size))
          clear hb12
          obtain ⟨⟨q0, q1, q2, q3⟩, ⟨f0, f1, f2, f3⟩, hsz⟩ := set_cells (kept_below HB12.out)
          have HBw := hid ((below1 w _).trans (HB12.out.mono (by simp)))
          go_wp2_with fail
          refine bodyPost_ret (v := meanAns (notW dW, true)) (by simp [results, Tryz.results132, go_sem, meanAns, notW, q0, q1, q2, q3]) rfl ⟨by rw [HF.out], ?_⟩
          exact below_put (t := (notW dW)) HBw.out (Nat.le_refl _)
        · by_cases h87 : b = 87
          · have HF : Hid (meanR b = (notW xW, true)) := hid (by rw [HMR.out, if_neg h100, if_neg h119, if_neg h115, if_neg h68, if_pos h87])
            have t100 : ((b : Int) == 100) = false := by simp; omega
            have t119 : ((b : Int) == 119) = false := by simp; omega
            have t115 : ((b : Int) == 115) = false := by simp; omega
            have t68 : ((b : Int) == 68) = false := by simp; omega
            have t87 : ((b : Int) == 87) = true := by simp; omega
            clear h100 h119 h115 h68 h87
            go_wp2_with fail
            refine (NOT.out xW _).mono ?_
            rintro e w12 ⟨rfl, hb12⟩
            have HB12 := hid (HB11.out.trans (hb12.mono HB11.out.size))
            clear hb12
            obtain ⟨⟨q0, q1, q2, q3⟩, ⟨f0, f1, f2, f3⟩, hsz⟩ := set_cells (kept_below HB12.out)
            have HBw := hid ((below1 w _).trans (HB12.out.mono (by simp)))
            go_wp2_with fail
            refine bodyPost_ret (v := meanAns (notW xW, true)) (by simp [results, Tryz.results132, go_sem, meanAns, notW, q0, q1, q2, q3]) rfl ⟨by rw [HF.out], ?_⟩
            exact below_put (t := (notW xW)) HBw.out (Nat.le_refl _)
          · by_cases h83 : b = 83
            · have HF : Hid (meanR b = (notW kW, true)) := hid (by rw [HMR.out, if_neg h100, if_neg h119, if_neg h115, if_neg h68, if_neg h87, if_pos h83])
              have t100 : ((b : Int) == 100) = false := by simp; omega
              have t119 : ((b : Int) == 119) = false := by simp; omega
              have t115 : ((b : Int) == 115) = false := by simp; omega
              have t68 : ((b : Int) == 68) = false := by simp; omega
              have t87 : ((b : Int) == 87) = false := by simp; omega
              have t83 : ((b : Int) == 83) = true := by simp; omega
              clear h100 h119 h115 h68 h87 h83
              go_wp2_with fail
              refine (NOT.out kW _).mono ?_
              rintro e w12 ⟨rfl, hb12⟩
              have HB12 := hid (HB11.out.trans (hb12.mono HB11.out.size))
              clear hb12
              obtain ⟨⟨q0, q1, q2, q3⟩, ⟨f0, f1, f2, f3⟩, hsz⟩ := set_cells (kept_below HB12.out)
              have HBw := hid ((below1 w _).trans (HB12.out.mono (by simp)))
              go_wp2_with fail
              refine bodyPost_ret (v := meanAns (notW kW, true)) (by simp [results, Tryz.results132, go_sem, meanAns, notW, q0, q1, q2, q3]) rfl ⟨by rw [HF.out], ?_⟩
              exact below_put (t := (notW kW)) HBw.out (Nat.le_refl _)
            · have HF : Hid (meanR b = (noW, false)) := hid (by rw [HMR.out, if_neg h100, if_neg h119, if_neg h115, if_neg h68, if_neg h87, if_neg h83])
              have t100 : ((b : Int) == 100) = false := by simp; omega
              have t119 : ((b : Int) == 119) = false := by simp; omega
              have t115 : ((b : Int) == 115) = false := by simp; omega
              have t68 : ((b : Int) == 68) = false := by simp; omega
              have t87 : ((b : Int) == 87) = false := by simp; omega
              have t83 : ((b : Int) == 83) = false := by simp; omega
              clear h100 h119 h115 h68 h87 h83
              obtain ⟨⟨q0, q1, q2, q3⟩, ⟨f0, f1, f2, f3⟩, hsz⟩ := set_cells (kept_below HB10.out)
              have HBw := hid ((below1 w _).trans (HB10.out.mono (by simp)))
              go_wp2_with fail
              refine bodyPost_ret (v := meanAns (noW, false)) (by simp [results, Tryz.results132, go_sem, meanAns, noW, hsz, q0, q1, q2, q3]) rfl ⟨by rw [HF.out], ?_⟩
              exact below_put_alloc (t := noW) HBw.out (Nat.le_refl _) _
/-- What meaning answers, of any byte. -/
theorem meaning_any (b : Nat) (hb : b < 256) (w : World) :
    Calls Tryz.prog 132 #[.int .u8 (b : Int)] w fun e w' => e = .returned (meanAns (meanR b)) ∧ Below w.heap.size w w' := by
  cases ht : themB b
  · cases hl : letB b
    · exact mean_rest b hb ht hl w
    · have h : b = 110 ∨ b = 116 ∨ b = 114 ∨ b = 102 ∨ b = 118 := by unfold letB at hl; simpa using hl
      clear hl
      rcases h with rfl | rfl | rfl | rfl | rfl
      · rw [show meanR 110 = (oneW 10, true) from rfl]; exact mean_110 w
      · rw [show meanR 116 = (oneW 9, true) from rfl]; exact mean_116 w
      · rw [show meanR 114 = (oneW 13, true) from rfl]; exact mean_114 w
      · rw [show meanR 102 = (oneW 12, true) from rfl]; exact mean_102 w
      · rw [show meanR 118 = (oneW 11, true) from rfl]; exact mean_118 w
  · rw [show meanR b = (oneW b, true) by unfold meanR; rw [ht]; rfl]
    exact mean_them b hb ht w
end
end Go.Proofs.YtenibhmjcafbiaaGreatDoor
