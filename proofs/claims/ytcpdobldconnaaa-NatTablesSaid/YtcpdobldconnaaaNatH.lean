/- Contracts for tables: the product of two tables. -/
import Derived.Test.YtcpdobldconnaaaNatG
import Derived.Maps.AppendAt
namespace Go.Proofs.Ytcpdobldconnaaa
open Go Go.RowKit
theorem ownsLt {w : World} {B : Nat} {e : TypeId} {v : Value} {n : Nat} {xs : List Value} (h : w.ownsRow B e 1 v n xs) {g : Nat} (hg : v.ownBlock = some g) : B ≤ g ∧ g < w.heap.size := by
  rcases h.2 with ⟨rfl, _⟩ | ⟨b, cap, cur, rfl, hb, hh, _⟩
  · cases hg
  · obtain rfl : b = g := by simpa [Value.ownBlock] using hg
    refine ⟨hb, ?_⟩
    by_cases hlt : b < w.heap.size
    · exact hlt
    · have hn : w.heap[b]? = none := by simp; omega
      rw [hn] at hh; cases hh
theorem ownsKeep {w w1 : World} {B : Nat} {e : TypeId} {v : Value} {n : Nat} {xs : List Value} {row : Option Nat} (h : w.ownsRow B e 1 v n xs) (hg : w.grownBy w1 row) (hne : ∀ g, v.ownBlock = some g → row ≠ some g) : w1.ownsRow B e 1 v n xs := by
  refine ⟨h.1, ?_⟩
  rcases h.2 with h2 | ⟨b, cap, cur, rfl, hb, hh, r⟩
  · exact .inl h2
  · refine .inr ⟨b, cap, cur, rfl, hb, ?_, r⟩
    rw [hg.block b (ownsLt h rfl).2 (fun e => hne b rfl e.symm)]
    exact hh
theorem ownsBelow {w w1 : World} {B : Nat} {e : TypeId} {v : Value} {n : Nat} {xs : List Value} (h : w.ownsRow B e 1 v n xs) (hb : Below w.heap.size w w1) : w1.ownsRow B e 1 v n xs := by
  refine ⟨h.1, ?_⟩
  rcases h.2 with h2 | ⟨b, cap, cur, rfl, hb', hh, r⟩
  · exact .inl h2
  · exact .inr ⟨b, cap, cur, rfl, hb', (hb.block b (ownsLt h rfl).2).trans hh, r⟩
theorem grownAlloc (w : World) (o : Obj) : w.grownBy (w.alloc o) none := ⟨rfl, rfl, rfl, by simp, fun k hk _ => Below.heap_alloc w o k hk⟩
theorem ownsAlloc {w : World} {B : Nat} {e : TypeId} {v : Value} {n : Nat} {xs : List Value} (h : w.ownsRow B e 1 v n xs) (o : Obj) : (w.alloc o).ownsRow B e 1 v n xs := ownsKeep h (grownAlloc w o) (fun _ _ e => by cases e)
theorem belowApp {w w1 : World} {B : Nat} {e : TypeId} {v : Value} {n : Nat} {xs : List Value} {o : Obj} (h : w.ownsRow B e 1 v n xs) (hg : (w.alloc o).grownBy w1 v.ownBlock) (hB : B ≤ w.heap.size) : Below B w w1 :=
  ((Below.refl B w).alloc hB o).grown hg (by simp; omega) (fun k hk => (ownsLt h hk).1)
theorem sizeOfGet {w : World} {g : Nat} {o : Obj} (h : w.heap[g]? = some o) : g < w.heap.size := by
  by_cases hlt : g < w.heap.size
  · exact hlt
  · have hn : w.heap[g]? = none := by simp; omega
    rw [hn] at h; cases h
/-- The first k rows of a table, as cells. -/
def rowsOf (G : Nat → Nat) (W : Nat) (k : Nat) : List Value := (List.range k).map fun i => .slice (some ⟨G i, 0, none⟩) W W
theorem rowsOf_succ (G : Nat → Nat) (W k g : Nat) : rowsOf (fun i => if i = k then g else G i) W (k + 1) = rowsOf G W k ++ [.slice (some ⟨g, 0, none⟩) W W] := by
  unfold rowsOf
  rw [List.range_succ, List.map_append]
  congr 1
  · exact List.map_congr_left fun i hi => by
      have := List.mem_range.1 hi
      show Value.slice (some ⟨if i = k then g else G i, 0, none⟩) W W = _
      rw [if_neg (by omega)]
  · simp
/-- What holds of memory while a table is made. -/
def MatRel (w : World) (W : Nat) (F : Nat → Nat → Int) (k : Nat) (vm : Value) (wr : World) : Prop :=
  ∃ G : Nat → Nat, wr.ownsRow w.heap.size 42 1 vm k (rowsOf G W k) ∧ (∀ i, i < k → wr.heap[G i]? = some (.cells (il W (F i)) 3) ∧ vm.ownBlock ≠ some (G i)) ∧ Below w.heap.size w wr
theorem MatRel.next {w wr w1 w2 : World} {W k : Nat} {F : Nat → Nat → Int} {vm v' : Value} {o : Obj} {G : Nat → Nat} (h : wr.ownsRow w.heap.size 42 1 vm k (rowsOf G W k)) (hG : ∀ i, i < k → wr.heap[G i]? = some (.cells (il W (F i)) 3) ∧ vm.ownBlock ≠ some (G i)) (hb : Below w.heap.size w wr)
    (hc : CRel wr W (F k) w1) (ho : w2.ownsRow w.heap.size 42 1 v' (k + 1) (rowsOf G W k ++ [.slice (some ⟨wr.heap.size, 0, none⟩) W W])) (hg : (w1.alloc o).grownBy w2 vm.ownBlock) (hat : v'.ownBlock = vm.ownBlock ∨ v'.ownBlock = some (w1.alloc o).heap.size) :
    MatRel w W F (k + 1) v' w2 := by
  have hs := hc.2.size
  have hsa : (w1.alloc o).heap.size = w1.heap.size + 1 := by simp
  have hown1 := ownsBelow h hc.2
  have hne : ∀ i, i < k + 1 → vm.ownBlock ≠ some (if i = k then wr.heap.size else G i) := by
    intro i hi
    by_cases e : i = k
    · rw [if_pos e]; intro hq; have := (ownsLt h hq).2; omega
    · rw [if_neg e]; exact (hG i (by omega)).2
  have hblk : ∀ i, i < k + 1 → w1.heap[if i = k then wr.heap.size else G i]? = some (.cells (il W (F i)) 3) := by
    intro i hi
    by_cases e : i = k
    · subst e; rw [if_pos rfl]; exact hc.1
    · rw [if_neg e]
      have := (hG i (by omega)).1
      exact (hc.2.block _ (sizeOfGet this)).trans this
  refine ⟨fun i => if i = k then wr.heap.size else G i, by rw [rowsOf_succ]; exact ho, fun i hi => ⟨?_, ?_⟩, ?_⟩
  · have h1 := hblk i hi
    have hl := sizeOfGet h1
    show w2.heap[if i = k then wr.heap.size else G i]? = _
    rw [hg.block _ (by omega) (fun e => hne i hi e.symm), Below.heap_alloc w1 o _ hl]
    exact h1
  · rcases hat with e | e
    · rw [e]; exact hne i hi
    · rw [e, hsa]
      have hl := sizeOfGet (hblk i hi)
      intro hq
      have hq2 : w1.heap.size + 1 = if i = k then wr.heap.size else G i := Option.some.inj hq
      omega
  · exact hb.trans ((hc.2.mono hb.size).trans (belowApp hown1 hg (Nat.le_trans hb.size hs)))
theorem Try.infoRow : (Try.prog.info? 42).map (fun i => (i.zero, i.size, i.bytes)) = some (some (.slice none 0 0), 1, 24) := by kernel_rfl
theorem one_slice (g W : Nat) : ∀ u ∈ [Value.slice (some ⟨g, 0, none⟩) W W], u.oneCell' = true := by
  intro u hu
  obtain rfl : u = .slice (some ⟨g, 0, none⟩) W W := by simpa using hu
  rfl
theorem mk_rows (n : Nat) (hn : n ≤ 1000) (w : World) : ∃ w', (Instr.makeSlice 50 (.int .i64 0) (.int .i64 (n : Int))).run Try.prog w = .ok (.slice (some ⟨w.heap.size, 0, none⟩) 0 n) w' ∧
      w'.ownsRow w.heap.size 42 1 (.slice (some ⟨w.heap.size, 0, none⟩) 0 n) 0 [] ∧ w.grownBy w' none := by
  obtain ⟨i0, hi, hz0, hz1, hz2⟩ := info_parts Try.infoRow
  exact run_make_own (P := Try.prog) w w.heap.size 50 42 i0 _ 1 Try.underlying50 hi hz0 hz1 .i64 .i64 n (by rw [hz2]; omega) (by unfold maxLen; omega) (Nat.le_refl _)
set_option maxHeartbeats 4000000 in
theorem matrix_any (p q : Option Addr) (n m c c' : Nat) (A' : Nat → Option Addr) (L' C' : Nat → Nat) (Z' : Nat → Nat → Int) (A : Nat → Option Addr) (L C : Nat → Nat) (Z : Nat → Nat → Int) (w : World) (ha : RowsAt w p n A' L' C' Z') (hr : RowsAt w q m A L C Z) (hn : n ≤ 1000) (hL : ∀ j, j < m → L j ≤ 1000) :
    Calls Try.prog 35 #[.slice p n c, .slice q m c'] w fun e w' => ∃ vm, e = .returned vm ∧ MatRel w (wid L m) (fun i k => com (Z' i) L Z k (min (L' i) m)) n vm w' := by
  have hmk := mk_rows n hn w
  obtain ⟨w0, hmk, hown0, hgr0⟩ := hmk
  have HA := nhid ha
  have HR := nhid hr
  have hW := wid_le L 1000 m hL
  have HL := nhid fun j hj => le_wid L m j hj
  have HO := nhid (And.intro hown0 hgr0)
  clear ha hr hL hown0 hgr0
  go_enter Try.func35, Try.ntmps35
  go_wp2_with fail
  refine (width_any _ _ _ A L C Z _ HR.out).mono ?_
  rintro e w' ⟨rfl, rfl⟩
  go_wp2_with fail
  clear hmk
  obtain ⟨i0, hi, hz0, hz1, hz2⟩ := info_parts Try.infoRow
  go_loopw [6, 16] (fun vm i wr => ∃ k : Nat, k ≤ n ∧ i = .int .i64 k ∧ MatRel w (wid L m) (fun i k => com (Z' i) L Z k (min (L' i) m)) k vm wr) (fun _ i _ => n - (intOf i).toNat)
  case atStart => exact ⟨0, by omega, rfl, fun _ => 0, HO.out.1, fun i hi => absurd hi (by omega), (Below.refl _ _).grown HO.out.2 (Nat.le_refl _) (fun k hk => by cases hk)⟩
  case round =>
    obtain ⟨k, hk, rfl, G, hown, hG, hb⟩ := hrel
    by_cases hlt : k < n
    · obtain ⟨g, o, rfl, hg, hx⟩ := HA.out.2.resolve_left (by omega)
      have hcx : wr.cell? ⟨g, o + k, none⟩ = some (.slice (A' k) (L' k) (C' k)) := (hb.cell (p := ⟨g, o + k, none⟩) hg).trans (hx k hlt).1
      have HZ := nhid ((hx k hlt).2.below hb (Nat.le_refl _))
      have HRW := nhid (HR.out.below hb (Nat.le_refl _))
      have HOW := nhid hown
      have HG := nhid hG
      have HBB := nhid hb
      have hsz := hb.size
      clear hx hown hG hb HA HO
      go_wp2_with fail
      refine (combine_any _ _ _ _ _ _ _ _ A L C Z _ HZ.out HRW.out hW HL.out).mono ?_
      rintro e w1 ⟨rfl, hc⟩
      have HC := nhid hc
      have hsz1 := hc.2.size
      clear hc hcx
      go_wp2_with (at_builtin; refine wpList_append_own_at _ rfl (.tmp 20) (.tmp 25) 50 rfl w.heap.size 42 i0 (.slice none 0 0) 1 24 Try.underlying50 hi hz0 hz1 hz2 rfl (by decide) _ _ _ rfl (ownsAlloc (ownsBelow HOW.out HC.out.2) _) ⟨_, 0, none⟩ 1 1 _ rfl rfl (cell_one_new _ _ _) (one_slice _ _) (by unfold maxLen; omega) (by omega) (by simp; omega) ?_; intro v1 w1a ho hg _ hat; have HN := nhid (MatRel.next (F := fun i k => com (Z' i) L Z k (min (L' i) m)) HOW.out HG.out HBB.out HC.out ho hg hat); clear ho hg hat)
      exact ⟨⟨k + 1, by omega, by go_num, HN.out⟩, by simp [intOf]; omega⟩
    · have e1 : k = n := by omega
      subst e1
      have HM : Hid (MatRel w (wid L m) (fun i k => com (Z' i) L Z k (min (L' i) m)) k u6 wr) := nhid ⟨G, hown, hG, hb⟩
      clear hown hG hb
      go_wp2
      go_ret
      exact ⟨_, rfl, HM.out⟩
end Go.Proofs.Ytcpdobldconnaaa
