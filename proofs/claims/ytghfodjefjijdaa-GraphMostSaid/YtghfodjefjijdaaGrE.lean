/- graph: next told: those to which arrows lead, each once, in whatever order. From told: they rise. -/
import Derived.Test.YtghfodjefjijdaaGrD
import Derived.Test.YtghfodjefjijdaaGrS
namespace Go.Proofs.Ytghfodjefjijdaa
section
open Go Go.RowKit Go.Shelf Go.Maps Go.Sort
attribute [local go_sem] Oper.semAt_some
/-- Those that have come are some of those of which q tells it, none twice. -/
def Some1 (q : Nat → Bool) (ys : List Nat) : Prop := ys.Nodup ∧ ∀ j ∈ ys, q j = true
/-- .. all of them. -/
def All1 (q : Nat → Bool) (ys : List Nat) : Prop := ys.Nodup ∧ ∀ j, j ∈ ys ↔ q j = true
theorem nats_of {D : DataW Unit} {q : Nat → Bool} (hD : ∀ x : Int, Maps.has D (.int .i64 x) = true ↔ ∃ j : Nat, x = (j : Int) ∧ q j = true) (ss : List Int) (h : ∀ x ∈ ss, Maps.has D (.int .i64 x) = true) : ss = (ss.map Int.toNat).map (fun j : Nat => (j : Int)) := by
  rw [List.map_map]
  have h1 : ss.map ((fun j : Nat => (j : Int)) ∘ Int.toNat) = ss.map id := List.map_congr_left (fun x hx => by
    obtain ⟨j, rfl, _⟩ := (hD x).1 (h x hx)
    rfl)
  rw [h1, List.map_id]
theorem some_of {D : DataW Unit} {q : Nat → Bool} (hD : ∀ x : Int, Maps.has D (.int .i64 x) = true ↔ ∃ j : Nat, x = (j : Int) ∧ q j = true) (ss : List Int) (hn : ss.Nodup) (h : ∀ x ∈ ss, Maps.has D (.int .i64 x) = true) : Some1 q (ss.map Int.toNat) := by
  refine ⟨List.pairwise_map.2 (hn.imp_of_mem (fun {a b} ha hb hab e => hab (by
    obtain ⟨i, rfl, _⟩ := (hD a).1 (h a ha)
    obtain ⟨k, rfl, _⟩ := (hD b).1 (h b hb)
    rw [show i = k by simpa using e]))), fun j hj => ?_⟩
  · obtain ⟨x, hx, rfl⟩ := List.mem_map.1 hj
    obtain ⟨i, rfl, hi⟩ := (hD x).1 (h x hx)
    simpa using hi
theorem all_of {D : DataW Unit} {q : Nat → Bool} (hD : ∀ x : Int, Maps.has D (.int .i64 x) = true ↔ ∃ j : Nat, x = (j : Int) ∧ q j = true) (ss : List Int) (hn : ss.Nodup) (h : ∀ x, x ∈ ss ↔ Maps.has D (.int .i64 x) = true) : All1 q (ss.map Int.toNat) := by
  obtain ⟨h1, h2⟩ := some_of hD ss hn (fun x hx => (h x).1 hx)
  exact ⟨h1, fun j => ⟨h2 j, fun hj => List.mem_map.2 ⟨(j : Int), (h _).2 ((hD _).2 ⟨j, rfl, hj⟩), by simp⟩⟩⟩
set_option maxRecDepth 100000 in
set_option maxHeartbeats 2000000 in
theorem gnext1_map {α : Type} (rep : Nat → α) (enc : α → Value) (n : Nat) (l Bg Bn gb tb nt mb K a : Nat) (q : Nat → Bool) (hq : ∀ j, q j = true → enc (rep j) = .int .i64 (j : Int)) (J Jx : List α → World → Prop)
    (hY : ∀ pre j W, J pre W → q j = true → pre.length < K → YieldAt Fence.wide (n - 1) Try.prog l #[enc (rep j)] W fun e W' =>
      (e = .returned (.bool true) ∧ J (pre ++ [rep j]) W' ∧ KeepsWalks W W') ∨ (e = .returned (.bool false) ∧ Jx (pre ++ [rep j]) W'))
    (W : World) (hJ : AbidesFrom W.heap.size J) (hg : W.cell? ⟨Bg, 0, none⟩ = some (.pointer (some ⟨gb, 0, none⟩))) (hn1 : W.cell? ⟨Bn, 0, none⟩ = some (.int .i64 (a : Int)))
    (hgb : W.cell? ⟨gb, 0, none⟩ = some (.slice (some ⟨tb, 0, none⟩) nt nt)) (ha : a < nt) (ht : W.cell? ⟨tb, a, none⟩ = some (.map (some mb))) (hm : ThAt W mb K q) (h0 : J [] W) :
    CallsIn Fence.wide n Try.prog 32 #[.func (.yield l) #[] #[], .pointer (some ⟨Bg, 0, none⟩), .pointer (some ⟨Bn, 0, none⟩)] W fun e W' => (∃ v, e = .returned v) ∧
      ((∃ ys : List Nat, All1 q ys ∧ J (ys.map rep) W') ∨ (∃ ys : List Nat, Some1 q ys ∧ Jx (ys.map rep) W')) := by
  obtain ⟨D0, hown, hD⟩ := hm
  have HD := qhid hD
  have hsz := hown.size_le
  refine callsIn_of_wp Try.func32 rfl trivial ?_ rfl
  simp only [Try.ntmps32, List.size_toArray, List.length_cons, List.length_nil, Nat.reduceAdd, Nat.reduceSub, Array.replicate_succ, Array.replicate_zero, List.push_toArray, List.append_toArray, List.nil_append, List.cons_append]
  clear hD
  obtain ⟨w0, hrange, hrg0, hg0, hs0⟩ := (show W.drew.ownsMap _ _ _ _ _ _ from hown).range (int_keyed Try.underlying3) Try.underlying68
  gi_wp2
  gi_region
  clear hrange hgb ht ha hn1 hg
  have HG := qhid hg0
  have HJ := qhid hJ
  have HY := qhid hY
  have hs0' : W.drew.heap.size = W.heap.size := rfl
  rw [hs0'] at hrg0
  clear hg0 hs0 hs0'
  gi_wp2
  gi_loopw [4] (fun _ wr => ∃ (left : Lit → Bool) (cnt : Nat) (ss : List Int), wr.ranges Try.prog 3 (unitElem (H := Unit)) mb W.heap.size K D0 left cnt ∧ ss.length + cnt ≤ Maps.size D0 ∧ CollectedI D0 left ss ∧ J ((ss.map Int.toNat).map rep) wr)
    (fun _ wr => wr.rangeLeft mb W.heap.size)
  case atStart =>
    exact ⟨_, _, [], hrg0, by simp, CollectedI.start D0, HJ.out [] W w0 none h0 ⟨HG.out.os, HG.out.tape, HG.out.output, HG.out.size, HG.out.block⟩ (fun r e => by cases e)⟩
  case round =>
    obtain ⟨left, cnt, ss, hrg, hcs, hC, hJs⟩ := hrel
    gi_wp2_with (first
      | (gi_at_next; refine wpListIn_next_ranges _ rfl _ rfl 3 (int_keyed Try.underlying3) _ encZ id (fun key kl hk => by obtain ⟨x, hx, _⟩ := Maps.keyOf_i64 Try.underlying3 hk; exact ⟨x, hx⟩) (fun v _ _ => ⟨v, rfl⟩) mb W.heap.size K _ _ _ rfl hrg ?_ ?_)
      | gi_in)
    · intro hc0 hl0
      gi_wp2
      go_end0
      have hm : ∀ x, x ∈ ss ↔ Maps.has D0 (.int .i64 x) = true := fun x => by rw [hC.2 x, hl0]; simp
      exact ⟨⟨_, rfl⟩, .inl ⟨_, all_of HD.out ss hC.1 hm, hJs⟩⟩
    · intro x c kl yd yp w2 cnt2 hkey hlk hv hat hrg2 hlt hg2 hs2 hen
      obtain ⟨x', ex, rfl, _⟩ := Maps.keyOf_i64 Try.underlying3 hkey
      obtain rfl : x = x' := encZ_inj ex
      have hJ2 : J ((ss.map Int.toNat).map rep) w2 := HJ.out _ wr w2 (some W.heap.size) hJs hg2 (fun r e => by cases e; exact ⟨Nat.le_refl _, hrg.iter_walk⟩)
      have hC2 := hC.step hlk hat
      have hx : Maps.has D0 (.int .i64 x) = true := ((hC2.2 x).1 (by simp)).1
      obtain ⟨j, rfl, hj⟩ := (HD.out x).1 hx
      obtain ⟨fn, tmps, assign, body, hy, hR⟩ := HY.out ((ss.map Int.toNat).map rep) j w2 hJ2 hj (by simp; omega)
      rw [hq j hj] at hy
      clear hs2
      gi_wp2
      refine ⟨fun h => absurd h (by decide), hR.mono ?_⟩
      rintro e W3 (⟨rfl, hJ3, hk3⟩ | ⟨rfl, hJx3⟩)
      · gi_wp2
        have hrg3 := hrg2.of_walks hk3
        go_roundw
        case rel => exact ⟨_, cnt2, ss ++ [(j : Int)], hrg3, by simp; omega, hC2, by simpa using hJ3⟩
        case measure => rw [hrg3.left_eq, hrg.left_eq]; exact hlt
      · gi_wp2
        refine bodyPost_ret (results_none rfl _ _ _) rfl ?_
        exact ⟨⟨_, rfl⟩, .inr ⟨((ss ++ [(j : Int)]).map Int.toNat), some_of HD.out _ hC2.1 (fun y hy => ((hC2.2 y).1 hy).1), by simpa using hJx3⟩⟩
set_option maxRecDepth 100000 in
set_option maxHeartbeats 2000000 in
theorem gnext1_nil {α : Type} (n : Nat) (l Bg Bn gb tb nt a : Nat) (J : List α → World → Prop)
    (W : World) (hJ : AbidesFrom W.heap.size J) (hg : W.cell? ⟨Bg, 0, none⟩ = some (.pointer (some ⟨gb, 0, none⟩))) (hn1 : W.cell? ⟨Bn, 0, none⟩ = some (.int .i64 (a : Int)))
    (hgb : W.cell? ⟨gb, 0, none⟩ = some (.slice (some ⟨tb, 0, none⟩) nt nt)) (ha : a < nt) (ht : W.cell? ⟨tb, a, none⟩ = some (.map none)) (h0 : J [] W) :
    CallsIn Fence.wide n Try.prog 32 #[.func (.yield l) #[] #[], .pointer (some ⟨Bg, 0, none⟩), .pointer (some ⟨Bn, 0, none⟩)] W fun e W' => (∃ v, e = .returned v) ∧ J [] W' := by
  refine callsIn_of_wp Try.func32 rfl trivial ?_ rfl
  simp only [Try.ntmps32, List.size_toArray, List.length_cons, List.length_nil, Nat.reduceAdd, Nat.reduceSub, Array.replicate_succ, Array.replicate_zero, List.push_toArray, List.append_toArray, List.nil_append, List.cons_append]
  have hrg := run_range_nilMap (P := Try.prog) W.drew 68 3 75 Try.underlying68
  have hnx : ∀ ty, (Instr.next (.pointer (some ⟨W.heap.size, 0, none⟩)) false ty).run Try.prog ((W.alloc (.mapIter none 0 #[] 0)).drew) = _ := fun ty => run_next_nilMap W.drew ty 0 0 #[]
  have HJ := qhid hJ
  have H0 := qhid h0
  clear hJ h0
  gi_wp2
  gi_region
  gi_wp2
  refine wpIn_loop_rounds 1 ?_
  rw [roundsIn_succ]
  gi_wp2
  go_end0
  refine ⟨⟨_, rfl⟩, HJ.out [] W _ none H0.out ?_ (fun r e => by cases e)⟩
  have h := World.grownBy_alloc W.drew (.mapIter none 0 #[] 0) none
  exact ⟨h.os, h.tape, h.output, h.size, h.block⟩
/-- **next's iterator, for every loop body.** -/
theorem gnext_stops {α : Type} (rep : Nat → α) (enc : α → Value) (n : Nat) (Bg Bn : Nat) {w : World} {B gb tb nt K : Nat} {mp : Nat → Option Nat} {m : Nat → Nat → Bool} {cnt : Nat} (h : GrAt w B gb tb nt K mp m cnt) (a : Nat) (ha : a < nt) (hq : ∀ j, m a j = true → enc (rep j) = .int .i64 (j : Int))
    (hg : w.cell? ⟨Bg, 0, none⟩ = some (.pointer (some ⟨gb, 0, none⟩))) (hn1 : w.cell? ⟨Bn, 0, none⟩ = some (.int .i64 (a : Int))) (hgl : Bg < w.heap.size) (hnl : Bn < w.heap.size) :
    SeqStopsK Fence.wide n Try.prog 32 #[.pointer (some ⟨Bg, 0, none⟩), .pointer (some ⟨Bn, 0, none⟩)] (fun x => #[enc x]) KeepsWalks (fun xs => ∃ ys, All1 (m a) ys ∧ xs = ys.map rep) (fun pre => ∃ ys, Some1 (m a) ys ∧ pre = ys.map rep) K w := fun l J Jx W hW hJ _ hY h0 => by
  have hgW := (hW.cell (p := ⟨Bg, 0, none⟩) hgl).trans hg
  have hnW := (hW.cell (p := ⟨Bn, 0, none⟩) hnl).trans hn1
  have h' := h.up hW
  have x0 : W.cell? ⟨gb, 0, none⟩ = some (.slice (some ⟨tb, 0, none⟩) nt nt) := by rw [Joins.cell_of_block h'.g 0]; rfl
  have t0 := h'.t.cell ha
  cases he : mp a with
  | none =>
    rw [he] at t0
    refine (gnext1_nil n l Bg Bn gb tb nt a J W hJ hgW hnW x0 ha t0 h0).mono ?_
    rintro e W' ⟨hv, hJ'⟩
    exact ⟨hv, .inl ⟨[], ⟨[], ⟨List.nodup_nil, fun j => by rw [h.no a ha he j]; simp⟩, rfl⟩, hJ'⟩⟩
  | some mb =>
    rw [he] at t0
    refine (gnext1_map rep enc n l Bg Bn gb tb nt mb K a (m a) hq J Jx (fun pre j W1 h1 _ h3 => hY pre (rep j) W1 h1 h3) W hJ hgW hnW x0 ha t0 (h'.th a mb ha he) h0).mono ?_
    rintro e W' ⟨hv, ⟨ys, h1, h2⟩ | ⟨ys, h1, h2⟩⟩
    · exact ⟨hv, .inl ⟨_, ⟨ys, h1, rfl⟩, h2⟩⟩
    · exact ⟨hv, .inr ⟨_, ⟨ys, h1, rfl⟩, h2⟩⟩
end
section
open Go Go.RowKit Go.Shelf Go.Maps Go.Sort
attribute [local go_sem ↓] Go.wp_at_zero Go.wp_at_succ
set_option maxRecDepth 100000 in
theorem gnext_any (pg : Option Addr) (x : Int) (w : World) :
    Calls Try.prog 23 #[.pointer pg, .int .i64 x] w fun e w' => e = .returned (.func (.func 32) #[] #[.pointer (some ⟨w.heap.size, 0, none⟩), .pointer (some ⟨w.heap.size + 1, 0, none⟩)]) ∧ w' = (w.alloc (.cells #[.pointer pg] 24)).alloc (.cells #[.int .i64 x] 3) := by
  go_enter Try.func23, Try.ntmps23
  go_wp2_with fail
  go_ret
  exact ⟨rfl, rfl⟩
/-- Those to which arrows lead, rising. -/
def succ (n : Nat) (q : Nat → Bool) : List Nat := (List.range n).filter q
theorem mem_succ {n : Nat} {q : Nat → Bool} (hq : ∀ j, q j = true → j < n) (j : Nat) : j ∈ succ n q ↔ q j = true := by
  unfold succ
  rw [List.mem_filter, List.mem_range]
  exact ⟨fun h => h.2, fun h => ⟨hq j h, h⟩⟩
theorem succ_nodup (n : Nat) (q : Nat → Bool) : (succ n q).Nodup := List.Pairwise.filter _ List.nodup_range
theorem succ_len (n : Nat) (q : Nat → Bool) : (succ n q).length ≤ n := by
  unfold succ
  exact Nat.le_trans (List.length_filter_le _ _) (by simp)
def intsV (ys : List Nat) : List Value := ys.map fun j : Nat => Value.int .i64 (j : Int)
theorem intsV_len (ys : List Nat) : (intsV ys).length = ys.length := by simp [intsV]
theorem succ_sorted {n : Nat} {q : Nat → Bool} (hq : ∀ j, q j = true → j < n) {ys : List Nat} (h : All1 q ys) : ((ys.map fun j : Nat => (j : Int)).mergeSort fun x y => decide (x ≤ y)) = (succ n q).map fun j : Nat => (j : Int) := by
  have hp : ys.Perm (succ n q) := (List.perm_ext_iff_of_nodup h.1 (succ_nodup n q)).2 (fun j => (h.2 j).trans (mem_succ hq j).symm)
  have h1 := mergeSort_of_perm_i (hp.map fun j : Nat => (j : Int))
  have e : leI = fun x y : Int => decide (x ≤ y) := rfl
  rw [e] at h1
  rw [h1]
  refine List.mergeSort_of_pairwise ?_
  rw [List.pairwise_map]
  refine (List.Pairwise.filter _ (List.pairwise_lt_range (n := n))).imp (fun {a b} hab => ?_)
  simp
  omega
set_option maxRecDepth 100000 in
set_option maxHeartbeats 2000000 in
theorem gfrom_any {w : World} {B gb tb nt K : Nat} {mp : Nat → Option Nat} {m : Nat → Nat → Bool} {cnt : Nat} (h : GrAt w B gb tb nt K mp m cnt) (a : Nat) (ha : a < nt) (hK : K ≤ 1000000) :
    Calls Try.prog 10 #[.pointer (some ⟨gb, 0, none⟩), .int .i64 (a : Int)] w fun e w' => ∃ v, e = .returned v ∧ w'.ownsRow w.heap.size 3 1 v (succ nt (m a)).length (intsV (succ nt (m a))) ∧ Below w.heap.size w w' := by
  have H1 := qhid (gthere_any h (a : Int))
  rw [inB_nat ha] at H1
  have H2 := qhid (gnext_any (some ⟨gb, 0, none⟩) (a : Int) w)
  obtain ⟨W1, hW1⟩ : ∃ X, X = (w.alloc (.cells #[.pointer (some ⟨gb, 0, none⟩)] 24)).alloc (.cells #[.int .i64 (a : Int)] 3) := ⟨_, rfl⟩
  have b1 : Below w.heap.size w W1 := by rw [hW1]; exact below2 w _ _
  have z1 : W1.heap.size = w.heap.size + 2 := by rw [hW1, World.size_alloc, World.size_alloc]
  have c1 : W1.heap[w.heap.size]? = some (.cells #[.pointer (some ⟨gb, 0, none⟩)] 24) := by rw [hW1]; exact heap_up (heap_new w _) (below1 _ _)
  have c2 : W1.heap[w.heap.size + 1]? = some (.cells #[.int .i64 (a : Int)] 3) := by
    rw [hW1]
    have := heap_new (w.alloc (.cells #[.pointer (some ⟨gb, 0, none⟩)] 24)) (.cells #[.int .i64 (a : Int)] 3)
    rw [World.size_alloc] at this
    exact this
  have x1 : W1.cell? ⟨w.heap.size, 0, none⟩ = some (.pointer (some ⟨gb, 0, none⟩)) := by rw [Joins.cell_of_block c1 0]; rfl
  have x2 : W1.cell? ⟨w.heap.size + 1, 0, none⟩ = some (.int .i64 (a : Int)) := by rw [Joins.cell_of_block c2 0]; rfl
  have hst := gnext_stops (α := Int) (fun j : Nat => (j : Int)) encZ 7 w.heap.size (w.heap.size + 1) (h.up b1) a ha (fun j _ => rfl) x1 x2 (by omega) (by omega)
  have hgv := SeqStops.gives (enc := encZ) hst
  have H3 := qhid ((callsIn_wide (n := 10)).1 (AnyZI.sorted_in Try.sorted22 Fence.wide 10 trivial trivial trivial trivial rfl (by omega)
    ⟨fun blk off cap ss W hH hblk hsz => callsIn_wide.2 (Try.slices_Sort_int blk off cap ss W hH hblk hsz), fun p cap W => callsIn_wide.2 (Try.slices_Sort_int_none p cap W)⟩
    (enters_of Try.func31 (by kernel_rfl) rfl) 32 #[.pointer (some ⟨w.heap.size, 0, none⟩), .pointer (some ⟨w.heap.size + 1, 0, none⟩)] trivial (enters_of Try.func32 (by kernel_rfl) rfl) _ K (by unfold maxLen; omega) (by omega) W1 hgv))
  have HB := qhid h.bd
  have HB1 := qhid b1
  rw [← hW1] at H2
  clear hgv hst x1 x2 c1 c2 hW1 b1 h
  go_enter Try.func10, Try.ntmps10
  go_wp2_with (first | (go_at_call 21; refine H1.out.mono ?_; clear H1; rintro e w1 ⟨rfl, hw⟩; obtain rfl : w = w1 := hw.symm) | (go_at_call 23; refine H2.out.mono ?_; clear H2; rintro e w2 ⟨rfl, hw2⟩; obtain rfl : W1 = w2 := hw2.symm) | (go_at_call 22; refine H3.out.mono ?_; clear H3; rintro e w3 ⟨v, ss, rfl, hS, hrow, _, hb⟩) | fail)
  obtain ⟨ys, hys, rfl⟩ := hS
  have hs := succ_sorted (n := nt) (fun j hj => (HB.out a j hj).2) hys
  have hl : (ys.map fun j : Nat => (j : Int)).length = (succ nt (m a)).length := by
    have := congrArg List.length hs
    rw [List.length_mergeSort] at this
    exact this.trans (by simp)
  rw [hs, hl] at hrow
  go_ret
  refine ⟨v, rfl, ?_, HB1.out.trans (hb.mono (by omega))⟩
  have e : List.map encZ ((succ nt (m a)).map fun j : Nat => (j : Int)) = intsV (succ nt (m a)) := by
    rw [List.map_map]
    rfl
  rw [e] at hrow
  exact ownsMono hrow (by omega)
set_option maxRecDepth 100000 in
theorem gfrom_bad {w : World} {B gb tb nt K : Nat} {mp : Nat → Option Nat} {m : Nat → Nat → Bool} {cnt : Nat} (h : GrAt w B gb tb nt K mp m cnt) (x : Int) (hx : inB nt x = false) :
    Calls Try.prog 10 #[.pointer (some ⟨gb, 0, none⟩), .int .i64 x] w fun e w' => e = .returned (.slice none 0 0) ∧ w' = w := by
  have H1 := qhid (gthere_any h x)
  rw [hx] at H1
  clear h
  go_enter Try.func10, Try.ntmps10
  go_wp2_with (first | (go_at_call 21; refine H1.out.mono ?_; clear H1; rintro e w1 ⟨rfl, hw⟩; obtain rfl : w = w1 := hw.symm) | fail)
  go_ret
  exact ⟨rfl, rfl⟩
set_option maxRecDepth 100000 in
theorem gfrom_nil (w : World) (x : Int) :
    Calls Try.prog 10 #[.pointer none, .int .i64 x] w fun e w' => e = .returned (.slice none 0 0) ∧ w' = w := by
  have H1 := qhid (gthere_nil w x)
  go_enter Try.func10, Try.ntmps10
  go_wp2_with (first | (go_at_call 21; refine H1.out.mono ?_; clear H1; rintro e w1 ⟨rfl, hw⟩; obtain rfl : w = w1 := hw.symm) | fail)
  go_ret
  exact ⟨rfl, rfl⟩
end
end Go.Proofs.Ytghfodjefjijdaa
