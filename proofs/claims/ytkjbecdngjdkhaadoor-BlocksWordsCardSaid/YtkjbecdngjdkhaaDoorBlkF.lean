/- Contracts of blocks: New. -/
import Derived.Test.YtkjbecdngjdkhaaDoorBlkE
namespace Go.Proofs.YtkjbecdngjdkhaaDoor
open Go Go.RowKit
attribute [local go_sem ↓] Go.wp_at_zero Go.wp_at_succ
attribute [local go_sem] eq4
/-- Two bytes that no set of a list tells apart. -/
def allE (L : List W4) (a b : Nat) : Bool := L.all fun t => t.mem a == t.mem b
theorem allE_iff (L : List W4) (a b : Nat) : allE L a b = true ↔ ∀ t ∈ L, t.mem a = t.mem b := by
  unfold allE
  rw [List.all_eq_true]
  constructor
  · intro h t ht; exact beq_iff_eq.1 (h t ht)
  · intro h t ht; exact beq_iff_eq.2 (h t ht)
theorem allE_sorts (L : List W4) : Sorts (allE L) where
  refl a := (allE_iff L a a).2 fun _ _ => rfl
  symm a b h := (allE_iff L b a).2 fun t ht => ((allE_iff L a b).1 h t ht).symm
  trans a b c h1 h2 := (allE_iff L a c).2 fun t ht => ((allE_iff L a b).1 h1 t ht).trans ((allE_iff L b c).1 h2 t ht)
theorem allE_snoc (L : List W4) (s : W4) (a b : Nat) : allE (L ++ [s]) a b = true ↔ allE L a b = true ∧ s.mem a = s.mem b := by
  rw [allE_iff, allE_iff]
  constructor
  · intro h; exact ⟨fun t ht => h t (by simp [ht]), h s (by simp)⟩
  · rintro ⟨h1, h2⟩ t ht
    rcases List.mem_append.1 ht with ht | ht
    · exact h1 t ht
    · rw [List.mem_singleton.1 ht]; exact h2
/-- In block g lie the blocks of a relation. -/
structure BlkIs (w : World) (g : Nat) (E : Nat → Nat → Bool) (ls : List W4) : Prop where
  blk : BlkAt w g (num E) ls
  len : ls.length = (leads E 256).length
  mem : ∀ (i : Nat) t, ls[i]? = some t → ∀ n, n < 256 → t.mem n = decide (num E n = i)
theorem BlkAt.congr {w : World} {g : Nat} {of of' : Nat → Nat} {l : List W4} (h : BlkAt w g of l) (he : ∀ b, b < 256 → of b = of' b) : BlkAt w g of' l :=
  ⟨h.lt, fun b hb => by rw [← he b hb]; exact h.cell b hb, h.row, h.fit, h.small⟩
theorem BlkIs.congr {w : World} {g : Nat} {E F : Nat → Nat → Bool} {ls : List W4} (hE : Sorts E) (hF : Sorts F) (he : ∀ a b, a < 256 → b < 256 → E a b = F a b) (h : BlkIs w g E ls) : BlkIs w g F ls :=
  ⟨h.blk.congr fun b hb => num_congr hE hF he hb, by rw [h.len, leads_congr he 256 (Nat.le_refl _)], fun i t ht n hn => by rw [← num_congr hE hF he hn]; exact h.mem i t ht n hn⟩
theorem BlkIs.below {B : Nat} {w w' : World} {g : Nat} {E : Nat → Nat → Bool} {ls : List W4} (h : BlkIs w g E ls) (hb : Below B w w') (hB : w.heap.size ≤ B) : BlkIs w' g E ls := ⟨h.blk.below hb hB, h.len, h.mem⟩
/-- The numbers, bounded everywhere. -/
def capN (E : Nat → Nat → Bool) (b : Nat) : Nat := if b < 256 then num E b else 0
theorem capN_eq {E : Nat → Nat → Bool} {b : Nat} (h : b < 256) : capN E b = num E b := if_pos h
theorem capN_lt {E : Nat → Nat → Bool} (hE : Sorts E) (b : Nat) : capN E b < 256 := by
  unfold capN
  split
  · exact Nat.lt_of_lt_of_le (num_lt hE (by assumption)) (leads_len E 256)
  · omega
theorem step_cut {w : World} {g : Nat} {L : List W4} {s : W4} {ls : List W4} (h : BlkIs w g (sigE (capN (allE L)) s) ls) : BlkIs w g (allE (L ++ [s])) ls := by
  refine h.congr (sigE_sorts _ _) (allE_sorts _) fun a b ha hb => ?_
  rw [Bool.eq_iff_iff, sigE_iff, allE_snoc]
  unfold sigF
  rw [Prod.mk.injEq, capN_eq ha, capN_eq hb, num_iff (allE_sorts L)]
theorem step_same {w : World} {g : Nat} {L : List W4} {s : W4} {ls : List W4} (h : BlkIs w g (allE L) ls) (hc : ls.any (cuts s) = false) : BlkIs w g (allE (L ++ [s])) ls := by
  refine h.congr (allE_sorts _) (allE_sorts _) fun a b ha hb => ?_
  rw [Bool.eq_iff_iff, allE_snoc]
  refine ⟨fun he => ⟨he, ?_⟩, fun he => he.1⟩
  have hn := (num_iff (allE_sorts L) a b).2 he
  have hl : num (allE L) a < ls.length := by rw [h.len]; exact num_lt (allE_sorts L) ha
  obtain ⟨t, ht⟩ : ∃ t, ls[num (allE L) a]? = some t := ⟨_, List.getElem?_eq_getElem hl⟩
  have ta : t.mem a = true := by rw [h.mem _ t ht a ha]; simp
  have tb : t.mem b = true := by rw [h.mem _ t ht b hb]; simp [hn]
  have hct : cuts s t = false := by
    rw [List.any_eq_false] at hc
    simpa using hc t (List.mem_of_getElem? ht)
  have ma := mem_meet t s a
  have mb := mem_meet t s b
  rw [ta, Bool.true_and] at ma
  rw [tb, Bool.true_and] at mb
  unfold cuts at hct
  by_cases e : eqW (t.meet s) t = true
  · rw [(eqW_iff _ _).1 e] at ma mb
    rw [← ma, ← mb, ta, tb]
  · have e2 : eqW (t.meet s) noW = true := by
      have : eqW (t.meet s) t = false := by simpa using e
      rw [this] at hct
      simpa using hct
    rw [(eqW_iff _ _).1 e2] at ma mb
    rw [← ma, ← mb, noW_mem, noW_mem]
/-- The set of all bytes. -/
def allW : W4 := ⟨nt 0, nt 0, nt 0, nt 0⟩
theorem allW_mem (n : Nat) : allW.mem n = true := by
  show memb (nt 0) (nt 0) (nt 0) (nt 0) n = true
  rw [memb_nt, memb_zero]; rfl
theorem allE_nil (a b : Nat) : allE [] a b = true := rfl
theorem num_nil (b : Nat) : num (allE []) b = 0 := num_of (allE_sorts []) (n := 1) (i := 0) (a := 0) rfl rfl
theorem leads_nil : ∀ n, (leads (allE []) (n + 1)) = [0] := by
  intro n
  induction n with
  | zero => rfl
  | succ n ih => rw [leads_succ, ih]; rfl
theorem zero_size : Tryd.zeroCells84.size = 257 := by kernel_rfl
theorem new_start (w : World) :
    BlkIs ((w.alloc (.cells #[.int .u64 (nt 0), .int .u64 (nt 0), .int .u64 (nt 0), .int .u64 (nt 0)] 35)).alloc (.cells (Tryd.zeroCells84.setIfInBounds 256 (.slice (some ⟨w.heap.size, 0, none⟩) 1 1)) 84)) (w.heap.size + 1) (allE []) [allW] := by
  obtain ⟨x1, h1⟩ : ∃ x1, x1 = w.alloc (.cells #[.int .u64 (nt 0), .int .u64 (nt 0), .int .u64 (nt 0), .int .u64 (nt 0)] 35) := ⟨_, rfl⟩
  have z1 : x1.heap.size = w.heap.size + 1 := by rw [h1]; simp
  have new : ∀ (W : World) (o : Obj), (W.alloc o).heap[W.heap.size]? = some o := fun W o => by
    show (W.heap.push o)[W.heap.size]? = _
    simp
  have at' : ∀ j : Nat, Tryd.zeroCells84[j]? = (List.replicate 256 (.int .i64 0) ++ [.slice none 0 0] : List Value)[j]? := fun j => by rw [← zero_row, Array.getElem?_toList]
  rw [← h1]
  obtain ⟨x2, h2⟩ : ∃ x2, x2 = x1.alloc (.cells (Tryd.zeroCells84.setIfInBounds 256 (.slice (some ⟨w.heap.size, 0, none⟩) 1 1)) 84) := ⟨_, rfl⟩
  rw [← h2]
  have z2 : x2.heap.size = w.heap.size + 2 := by rw [h2]; simp [z1]
  have c1 : x2.heap[w.heap.size]? = some (.cells #[.int .u64 (nt 0), .int .u64 (nt 0), .int .u64 (nt 0), .int .u64 (nt 0)] 35) := by
    rw [h2, Below.heap_alloc _ _ _ (by omega), h1]; exact new _ _
  have c2 : x2.heap[w.heap.size + 1]? = some (.cells (Tryd.zeroCells84.setIfInBounds 256 (.slice (some ⟨w.heap.size, 0, none⟩) 1 1)) 84) := by
    rw [h2, ← z1]; exact new _ _
  have one : ∀ (i : Nat) (t : W4), [allW][i]? = some t → i = 0 ∧ t = allW := fun i t h => by
    cases i with
    | zero => exact ⟨rfl, by simpa using h.symm⟩
    | succ i => simp at h
  refine ⟨⟨by omega, fun b hb => ?_, ⟨w.heap.size, 1, ?_, by omega, fun i t ht => ?_⟩, fun t ht => ?_, by simp⟩, by rw [leads_nil 255]; rfl, fun i t ht n hn => ?_⟩
  · rw [Joins.cell_of_block c2, Array.getElem?_setIfInBounds_ne (by omega), at', List.getElem?_append_left (by rw [List.length_replicate]; exact hb), List.getElem?_replicate, if_pos hb, num_nil]; rfl
  · exact (Joins.cell_of_block c2 256).trans (Array.getElem?_setIfInBounds_self_of_lt (by rw [zero_size]; omega))
  · obtain ⟨rfl, rfl⟩ := one i t ht
    exact ⟨Joins.cell_of_block c1 0, Joins.cell_of_block c1 1, Joins.cell_of_block c1 2, Joins.cell_of_block c1 3⟩
  · rw [List.mem_singleton.1 ht]; exact ⟨nt_fit _, nt_fit _, nt_fit _, nt_fit _⟩
  · obtain ⟨rfl, rfl⟩ := one i t ht
    rw [allW_mem, num_nil]; rfl
set_option maxRecDepth 100000 in
set_option maxHeartbeats 4000000 in
theorem new_any (p : Option Addr) (n cap : Nat) (L : List W4) (w : World) (hn : L.length = n) (hsmall : n ≤ 1000) (hfit : ∀ t ∈ L, t.fit)
    (hrow : ∀ (i : Nat) t, L[i]? = some t → ∃ g o, p = some ⟨g, o, none⟩ ∧ g < w.heap.size ∧ SetAt w g (o + i * 4) t) :
    Calls Tryd.prog 12 #[.slice p n cap] w fun e w' => ∃ g ls, e = .returned (.pointer (some ⟨g, 0, none⟩)) ∧ w.heap.size ≤ g ∧ BlkIs w' g (allE L) ls ∧ Below w.heap.size w w' := by
  have HROW := hid hrow
  have HFIT := hid hfit
  clear hrow hfit
  go_enter Tryd.func12, Tryd.ntmps12
  go_wp2_with fail
  refine (all_any _).mono ?_
  rintro e w1 ⟨rfl, hb⟩
  have HB := hid hb
  have hz1 := hb.size
  clear hb
  go_wp2_with fail
  go_loopw [12, 3] (fun i x wr => ∃ (k g : Nat) (ls : List W4), k ≤ n ∧ i = .int .i64 k ∧ x = .pointer (some ⟨g, 0, none⟩) ∧ w.heap.size ≤ g ∧ Hid (BlkIs wr g (allE (L.take k)) ls) ∧ Below w.heap.size w wr) (fun i _ _ => n - (intOf i).toNat)
  case atStart =>
    exact ⟨0, w1.heap.size + 1, [allW], by omega, rfl, rfl, by omega, new_start w1, ((HB.out).alloc hz1 _).alloc (by simp; omega) _⟩
  case round =>
    obtain ⟨k, g, ls, hk, rfl, rfl, hg, HX, hbe⟩ := hrel
    have HBE := hid hbe
    by_cases hlk : k < n
    · obtain ⟨s, hs⟩ : ∃ s, L[k]? = some s := ⟨L[k]'(by omega), List.getElem?_eq_getElem _⟩
      have HS := hid (HFIT.out s (List.mem_of_getElem? hs))
      have htk : L.take (k + 1) = L.take k ++ [s] := by rw [List.take_add_one, hs]; rfl
      obtain ⟨g0, o, rfl, hg0, hset⟩ := HROW.out k s hs
      obtain ⟨c0, c1, c2, c3⟩ := hset.below hbe hg0
      have hg0r : g0 < wr.heap.size := Nat.lt_of_lt_of_le hg0 hbe.size
      have HTK := hid htk
      have HX2 : Hid (BlkIs (wr.alloc (.cells #[.int .u64 s.a, .int .u64 s.b, .int .u64 s.c, .int .u64 s.d] 35)) g (allE (L.take k)) ls) := HX.out.below (below1 _ _) (Nat.le_refl _)
      have hsz := hbe.size
      clear hbe htk hset hs
      go_wp2_with fail
      refine (cut_any g _ ls s _ HX2.out.blk).mono ?_
      rintro e w2 ⟨rfl, hb2⟩
      obtain ⟨hc, _, hz⟩ := bcell hb2
      have HB2 := hid hb2
      have HX3 : Hid (BlkIs w2 g (allE (L.take k)) ls) := HX2.out.below hb2 (Nat.le_refl _)
      have HBE2 : Hid (Below w.heap.size w w2) := (HBE.out.alloc hsz _).trans (hb2.mono (by simp; omega))
      have hz2 : wr.heap.size + 1 ≤ w2.heap.size := by have := hb2.size; simpa using this
      have hsz2 := HBE2.out.size
      clear hb2
      by_cases hcut : ls.any (cuts s) = true
      · rw [hcut]
        have HM := hid (more_any g (capN (allE (L.take k))) ls s HS.out w2 (HX3.out.blk.congr fun b hb => (capN_eq hb).symm) (capN_lt (allE_sorts _)))
        go_wp2_with fail
        refine HM.out.mono ?_
        rintro e w3 ⟨rfl, hb3, ls', q1, q2, q3⟩
        have HX4 : Hid (BlkIs w3 (w2.heap.size + 1) (allE (L.take (k + 1))) ls') := by rw [HTK.out]; exact step_cut ⟨q1, q2, q3⟩
        have HBE3 : Hid (Below w.heap.size w w3) := HBE2.out.trans (hb3.mono hsz2)
        clear hb3 q1 q2 q3
        go_wp2_with fail
        exact ⟨⟨k + 1, _, _, by omega, by go_num, rfl, by omega, HX4, HBE3.out⟩, by simp [intOf]; omega⟩
      · have hcf : ls.any (cuts s) = false := by simpa using hcut
        rw [hcf]
        have HX4 : Hid (BlkIs w2 g (allE (L.take (k + 1))) ls) := by rw [HTK.out]; exact step_same HX3.out hcf
        go_wp2_with fail
        exact ⟨⟨k + 1, _, _, by omega, by go_num, rfl, hg, HX4, HBE2.out⟩, by simp [intOf]; omega⟩
    · obtain rfl : k = n := by omega
      have HX5 : Hid (BlkIs wr g (allE L) ls) := by have := HX.out; rw [← hn, List.take_length] at this; exact this
      go_wp2_with fail
      go_ret
      exact ⟨g, ls, rfl, hg, HX5.out, HBE.out⟩
end Go.Proofs.YtkjbecdngjdkhaaDoor
