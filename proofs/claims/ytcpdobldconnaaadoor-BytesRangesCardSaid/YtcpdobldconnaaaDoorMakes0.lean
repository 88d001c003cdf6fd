/- What the law BytesMakes' loops keep; and how many bytes a set has. -/
import Derived.Test.YtcpdobldconnaaaDoorTzC
import Derived.Test.YtcpdobldconnaaaDoorMade
import Derived.LoopTactic
namespace Go.Proofs.YtcpdobldconnaaaDoor
open Go Go.RowKit
attribute [local go_sem ↓] Go.wp_at_zero Go.wp_at_succ
attribute [local go_sem] eq4
theorem bits_len (n x : Nat) : Pop.bitsum n x = ((List.range n).filter fun i => x.testBit i).length := by
  induction n generalizing x with
  | zero => simp [Pop.bitsum]
  | succ n ih =>
    rw [List.range_succ_eq_map, List.filter_cons]
    have h : ((List.map Nat.succ (List.range n)).filter fun i => x.testBit i).length = ((List.range n).filter fun i => (x / 2).testBit i).length := by
      rw [List.filter_map, List.length_map]
      congr 1
      apply List.filter_congr
      intro i _
      simp [Nat.testBit_succ]
    simp only [Pop.bitsum]
    rw [ih]
    by_cases hb : x % 2 = 1
    · have : x.testBit 0 = true := by simp [hb]
      rw [if_pos this, List.length_cons, h]; omega
    · have : x.testBit 0 = false := by simp; omega
      rw [if_neg (by simp [this]), h]; omega
theorem range_part (f : Nat → Bool) (q : Nat) : ((List.range (64 * (q + 1))).filter f).length = ((List.range (64 * q)).filter f).length + ((List.range 64).filter fun i => f (64 * q + i)).length := by
  rw [show 64 * (q + 1) = 64 * q + 64 by omega, List.range_add, List.filter_append, List.length_append]
  congr 1
  rw [List.filter_map, List.length_map]
  rfl
theorem pw_part {a : Int} (fa : Fit a) (f : Nat → Bool) (q : Nat) (h : ∀ i, i < 64 → f (64 * q + i) = (V a).getLsbD i) : (((List.range 64).filter fun i => f (64 * q + i)).length : Int) = pw a := by
  unfold pw
  rw [bits_len]
  congr 2
  apply List.filter_congr
  intro i hi
  rw [h i (List.mem_range.1 hi), V_testBit fa]
theorem pw_lst {a b c d : Int} (fa : Fit a) (fb : Fit b) (fc : Fit c) (fd : Fit d) : pw a + pw b + pw c + pw d = ((lst (memb a b c d) 256).length : Int) := by
  unfold lst
  rw [List.length_map]
  have e0 := range_part (memb a b c d) 0
  have e1 := range_part (memb a b c d) 1
  have e2 := range_part (memb a b c d) 2
  have e3 := range_part (memb a b c d) 3
  have p0 := pw_part fa (memb a b c d) 0 (fun i hi => by rw [at_word _ _ _ _ 0 i hi]; rfl)
  have p1 := pw_part fb (memb a b c d) 1 (fun i hi => by rw [at_word _ _ _ _ 1 i hi]; rfl)
  have p2 := pw_part fc (memb a b c d) 2 (fun i hi => by rw [at_word _ _ _ _ 2 i hi]; rfl)
  have p3 := pw_part fd (memb a b c d) 3 (fun i hi => by rw [at_word _ _ _ _ 3 i hi]; rfl)
  have z : ((List.range (64 * 0)).filter (memb a b c d)).length = 0 := by simp
  rw [show 64 * (3 + 1) = 256 from rfl] at e3
  simp only [Nat.reduceAdd] at e0 e1 e2 e3
  omega
/-- A slice of bytes that came in. -/
def ByteRow (W : World) (p : Option Addr) (n : Nat) (l : Nat → Int) : Prop :=
  n ≤ 9223372036854775807 ∧ (∀ j, 0 ≤ l j) ∧ (∀ j, l j ≤ 255) ∧ (n = 0 ∨ ∃ g o, p = some ⟨g, o, none⟩ ∧ g < W.heap.size ∧ ∀ j, j < n → W.cell? ⟨g, o + j, none⟩ = some (.int .u8 (l j)))
theorem ByteRow.below {B : Nat} {W W1 : World} {p : Option Addr} {n : Nat} {l : Nat → Int} (h : ByteRow W p n l) (hb : Below B W W1) (hB : W.heap.size ≤ B) : ByteRow W1 p n l := by
  refine ⟨h.1, h.2.1, h.2.2.1, h.2.2.2.imp_right fun ⟨g, o, hp, hg, hc⟩ => ⟨g, o, hp, Nat.lt_of_lt_of_le hg hb.size, fun j hj => (hb.cell (p := ⟨g, o + j, none⟩) (by show g < B; omega)).trans (hc j hj)⟩⟩
set_option maxRecDepth 100000 in
set_option maxHeartbeats 1000000 in
theorem of_none (p : Option Addr) (cap : Nat) (w : World) :
    Calls Tryd.prog 9 #[.slice p 0 cap] w fun e w' => e = .returned (.agg #[.int .u64 0, .int .u64 0, .int .u64 0, .int .u64 0]) ∧ Below w.heap.size w w' := by
  go_enter Tryd.func9, Tryd.ntmps9
  go_wp2_with fail
  refine wp_loop_rounds 1 ?_
  rw [rounds_succ]; go_wp2_with fail
  exact bodyPost_ret (v := .agg #[.int .u64 0, .int .u64 0, .int .u64 0, .int .u64 0]) (by simp [results, Tryd.results9, go_sem]) rfl ⟨rfl, below2 _ _ _⟩
theorem of_row {p : Option Addr} {n cap : Nat} {l : Nat → Int} {w : World} (h : ByteRow w p n l) (hn : n ≤ 1000) :
    Calls Tryd.prog 9 #[.slice p n cap] w fun e w' => e = .returned (.agg #[.int .u64 (ofw l n 0), .int .u64 (ofw l n 1), .int .u64 (ofw l n 2), .int .u64 (ofw l n 3)]) ∧ Below w.heap.size w w' := by
  obtain ⟨_, h0, h1, rfl | ⟨g, o, rfl, hg, hc⟩⟩ := h
  · exact of_none p cap w
  · exact of_any g o n cap l w hg (by omega) h0 h1 hc
theorem size_set (w : World) (a : Addr) (v : Value) : (w.setCell a v).heap.size = w.heap.size := by simp only [World.setCell, Array.size_modify]
theorem cell_one_set (w : World) (a : Addr) (y x : Value) (t : TypeId) : ∀ j u, [x][j]? = some u → ((w.setCell a y).alloc (.cells #[x] t)).cell? ((⟨w.heap.size, 0, none⟩ : Addr).add j) = some u := by
  have h := cell_one_new (w.setCell a y) x t
  rw [size_set] at h
  exact h
theorem ownsSet {w : World} {B : Nat} {e : TypeId} {v : Value} {n : Nat} {xs : List Value} (h : w.ownsRow B e 1 v n xs) {g : Nat} (hg : g < B) (o : Nat) (u : Value) : (w.setCell ⟨g, o, none⟩ u).ownsRow B e 1 v n xs := by
  refine ⟨h.1, ?_⟩
  rcases h.2 with h2 | ⟨b, cap, cur, rfl, hb', hh, r⟩
  · exact .inl h2
  · exact .inr ⟨b, cap, cur, rfl, hb', (Below.heap_setCell _ _ _ _ (by show b ≠ g; omega)).trans hh, r⟩
/-- What holds at the head of round k of the first loop. -/
def M1 (w : World) (gon gin : Nat) (l : Nat → Int) (k : Nat) (wr : World) : Prop :=
  wr.heap[gon]? = some (.cells (bl (onr l k)) 4) ∧ wr.heap[gin]? = some (.cells (bl fun _ => false) 4) ∧ Below w.heap.size w wr
/-- Is a byte in the range, and looked at? -/
def inr (lo hi b : Nat) (j : Nat) : Bool := decide (j < b) && decide (lo ≤ j ∧ j ≤ hi)
/-- .. of the second one. -/
def M2 (w : World) (gon gin B : Nat) (f : Nat → Bool) (lo hi b : Nat) (v : Value) (wr : World) : Prop :=
  wr.heap[gon]? = some (.cells (bl f) 4) ∧ wr.heap[gin]? = some (.cells (bl (inr lo hi b)) 4) ∧ wr.ownsRow B 5 1 v (lst f b).length (vals (lst f b)) ∧ B ≤ wr.heap.size ∧ Below w.heap.size w wr
theorem M1.step {w wr : World} {gon gin k j : Nat} {l : Nat → Int} (h : M1 w gon gin l k wr) (hne : gon ≠ gin) (hw : w.heap.size ≤ gon) (hj : l k = (j : Int)) : M1 w gon gin l (k + 1) (wr.setCell ⟨gon, j, none⟩ (.bool true)) := by
  refine ⟨?_, (Below.heap_setCell _ _ _ _ (Ne.symm hne)).trans h.2.1, h.2.2.setCell hw _⟩
  rw [Joins.block_setCell h.1 _, bl_set]
  congr 2
  refine bl_congr fun i _ => ?_
  show (if i = j then true else onr l k i) = (onr l k i || decide (l k = (i : Int)))
  rw [hj]
  by_cases e : i = j
  · subst e; simp
  · have : ¬ (j : Int) = (i : Int) := by omega
    simp [e, this]
theorem M2.store {w wr : World} {gon gin B lo hi b : Nat} {f : Nat → Bool} {v : Value} (h : M2 w gon gin B f lo hi b v wr) (hne : gon ≠ gin) (hw : w.heap.size ≤ gin) (hB : gin < B) :
    (wr.setCell ⟨gin, b, none⟩ (.bool (decide (lo ≤ b ∧ b ≤ hi)))).heap[gon]? = some (.cells (bl f) 4) ∧ (wr.setCell ⟨gin, b, none⟩ (.bool (decide (lo ≤ b ∧ b ≤ hi)))).heap[gin]? = some (.cells (bl (inr lo hi (b + 1))) 4) ∧
    (wr.setCell ⟨gin, b, none⟩ (.bool (decide (lo ≤ b ∧ b ≤ hi)))).ownsRow B 5 1 v (lst f b).length (vals (lst f b)) ∧ B ≤ (wr.setCell ⟨gin, b, none⟩ (.bool (decide (lo ≤ b ∧ b ≤ hi)))).heap.size ∧ Below w.heap.size w (wr.setCell ⟨gin, b, none⟩ (.bool (decide (lo ≤ b ∧ b ≤ hi)))) := by
  refine ⟨(Below.heap_setCell _ _ _ _ hne).trans h.1, ?_, ownsSet h.2.2.1 hB _ _, by simp only [World.setCell, Array.size_modify]; exact h.2.2.2.1, h.2.2.2.2.setCell hw _⟩
  rw [Joins.block_setCell h.2.1 _, bl_set]
  congr 2
  refine bl_congr fun i _ => ?_
  unfold inr
  by_cases e : i = b
  · subst e; simp
  · have : (i < b + 1) = (i < b) := by apply propext; omega
    simp [e, this]
theorem M2.no {w wr : World} {gon gin B lo hi b : Nat} {f : Nat → Bool} {v : Value} (h : M2 w gon gin B f lo hi b v wr) (hne : gon ≠ gin) (hw : w.heap.size ≤ gin) (hB : gin < B) {x : Bool} (hx : x = decide (lo ≤ b ∧ b ≤ hi)) (hf : f b = false) :
    M2 w gon gin B f lo hi (b + 1) v (wr.setCell ⟨gin, b, none⟩ (.bool x)) := by
  subst hx
  obtain ⟨h1, h2, h3, h4, h5⟩ := h.store hne hw hB
  exact ⟨h1, h2, by rw [lst_no hf]; exact h3, h4, h5⟩
theorem M2.yes {w wr w2 : World} {gon gin B lo hi b : Nat} {f : Nat → Bool} {v v' : Value} {o : Obj} (h : M2 w gon gin B f lo hi b v wr) (hne : gon ≠ gin) (hw : w.heap.size ≤ gin) (hB0 : gon < B) (hB : gin < B) (hwB : w.heap.size ≤ B) {x : Bool} (hx : x = decide (lo ≤ b ∧ b ≤ hi)) (hf : f b = true)
    (ho : w2.ownsRow B 5 1 v' ((lst f b).length + 1) (vals (lst f b) ++ [.int .u8 (b : Int)])) (hg : ((wr.setCell ⟨gin, b, none⟩ (.bool x)).alloc o).grownBy w2 v.ownBlock) :
    M2 w gon gin B f lo hi (b + 1) v' w2 := by
  subst hx
  obtain ⟨h1, h2, h3, h4, h5⟩ := h.store hne hw hB
  have hb := belowApp h3 hg h4
  refine ⟨(hb.block _ hB0).trans h1, (hb.block _ hB).trans h2, ?_, Nat.le_trans h4 hb.size, h5.trans (hb.mono hwB)⟩
  rw [lst_yes hf, vals_snoc, List.length_append]
  exact ho
/-- A set lies in a block, and memory is as it was as far as it went. -/
abbrev HeldS (W : World) (gs : Nat) (a b c d : Int) (w' : World) : Prop :=
  (w'.cell? ⟨gs, 0, none⟩ = some (.int .u64 a) ∧ w'.cell? ⟨gs, 1, none⟩ = some (.int .u64 b) ∧ w'.cell? ⟨gs, 2, none⟩ = some (.int .u64 c) ∧ w'.cell? ⟨gs, 3, none⟩ = some (.int .u64 d)) ∧ gs < w'.heap.size ∧ Below W.heap.size W w'
theorem heldS_below {W : World} {gs : Nat} {a b c d : Int} {X Y : World} (hb : Below X.heap.size X Y) (h : HeldS W gs a b c d X) : HeldS W gs a b c d Y := by
  obtain ⟨⟨h0, h1, h2, h3⟩, hg, hB⟩ := h
  exact ⟨⟨(hb.cell (p := ⟨gs, 0, none⟩) hg).trans h0, (hb.cell (p := ⟨gs, 1, none⟩) hg).trans h1, (hb.cell (p := ⟨gs, 2, none⟩) hg).trans h2, (hb.cell (p := ⟨gs, 3, none⟩) hg).trans h3⟩, Nat.lt_of_lt_of_le hg hb.size, hB.trans (hb.mono hB.size)⟩
theorem heldS_drew {W : World} {gs : Nat} {a b c d : Int} {X : World} (h : HeldS W gs a b c d X) : HeldS W gs a b c d X.drew := ⟨h.1, h.2.1, h.2.2.drew⟩
theorem BytesAt.slice {w : World} {v : Value} {xs : List Int} (h : BytesAt w v xs) : ∃ p c, v = .slice p xs.length c := by
  rcases h with ⟨rfl, rfl⟩ | ⟨g, cap, rfl, _, _⟩
  · exact ⟨none, 0, rfl⟩
  · exact ⟨_, cap, rfl⟩
theorem make_at {W wv : World} {gs g cap : Nat} {a b c d : Int} {f : Nat → Bool} (r0 r1 r2 r3 : Int) (h : BoolsAt W g f) (hH : HeldS W gs a b c d wv) (f0 : Fit r0) (f1 : Fit r1) (f2 : Fit r2) (f3 : Fit r3) (hf : ∀ n, n < 256 → memb r0 r1 r2 r3 n = f n) :
    Calls Tryd.prog 12 #[.slice (some ⟨g, 0, none⟩) 256 cap] wv fun e w' => e = .returned (.agg #[.int .u64 r0, .int .u64 r1, .int .u64 r2, .int .u64 r3]) ∧ Below wv.heap.size wv w' :=
  make_known r0 r1 r2 r3 (h.below hH.2.2 h.1) f0 f1 f2 f3 hf
theorem bytes_held {W wv : World} {gs : Nat} {a b c d : Int} {v : Value} {xs : List Int} (h : BytesAt W v xs) (hH : HeldS W gs a b c d wv) : BytesAt wv v xs := h.below hH.2.2 (Nat.le_refl _)
theorem inr_all (lo hi : Nat) (n : Nat) (hn : n < 256) (hh : hi < 256) : memb (rgw lo hi 0) (rgw lo hi 1) (rgw lo hi 2) (rgw lo hi 3) n = inr lo hi 256 n := by
  rw [memb_rgw lo hi n hh hn]; unfold inr; simp [hn]
theorem rgw_fit (lo hi k : Nat) : Fit (rgw lo hi k) := an_fit _ _
/-- Both answers on the least byte are one. -/
theorem firsts {f : Nat → Bool} {v : Value} {z : Int} (h1 : FirstIs f v) (h2 : RefFirstIs f z) : (v = .tuple #[.int .u8 0, .bool false] ∧ z = -1) ∨ ∃ n : Nat, n < 256 ∧ v = .tuple #[.int .u8 n, .bool true] ∧ z = n := by
  rcases h1 with ⟨h, hv⟩ | ⟨n, hn, hf, hl, hv⟩
  · rcases h2 with ⟨_, hz⟩ | ⟨m, hm, hg, _, _⟩
    · exact .inl ⟨hv, hz⟩
    · rw [h m hm] at hg; cases hg
  · rcases h2 with ⟨h, _⟩ | ⟨m, hm, hg, hk, hz⟩
    · rw [h n hn] at hf; cases hf
    · rcases Nat.lt_trichotomy n m with e | e | e
      · rw [hk n e] at hf; cases hf
      · subst e; exact .inr ⟨n, hn, hv, hz⟩
      · rw [hl m e] at hg; cases hg
end Go.Proofs.YtcpdobldconnaaaDoor
