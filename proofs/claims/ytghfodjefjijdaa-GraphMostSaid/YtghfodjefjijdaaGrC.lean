/- graph: a graph in memory; New, Len, there, add, Arrow, Arrows told. -/
import Derived.Test.YtghfodjefjijdaaGrB
namespace Go.Proofs.Ytghfodjefjijdaa
section
open Go Go.RowKit Go.Shelf Go.Maps
attribute [local go_sem ↓] Go.wp_at_zero Go.wp_at_succ
/-- Map b is the set of those numbers of which q tells it. -/
def ThAt (w : World) (b K : Nat) (q : Nat → Bool) : Prop :=
  ∃ D : DataW Unit, w.ownsMap Try.prog 3 (unitElem (H := Unit)) b K D ∧ ∀ x : Int, Maps.has D (.int .i64 x) = true ↔ ∃ j : Nat, x = (j : Int) ∧ q j = true
theorem ThAt.kept {w w' : World} {b K : Nat} {q : Nat → Bool} {row : Option Nat} (h : ThAt w b K q) (hg : w.grownBy w' row) (hne : some b ≠ row) : ThAt w' b K q := by
  obtain ⟨D, h1, h2⟩ := h
  exact ⟨D, h1.kept hg hne, h2⟩
theorem ThAt.lt {w : World} {b K : Nat} {q : Nat → Bool} (h : ThAt w b K q) : b < w.heap.size := by
  obtain ⟨D, h1, _⟩ := h
  exact h1.lt
theorem ThAt.mono {w : World} {b K K' : Nat} {q : Nat → Bool} (h : ThAt w b K q) (hK : K ≤ K') : ThAt w b K' q := by
  obtain ⟨D, h1, h2⟩ := h
  exact ⟨D, h1.mono hK, h2⟩
theorem ThAt.map {w : World} {b K : Nat} {q : Nat → Bool} (h : ThAt w b K q) : ∃ es c, w.heap[b]? = some (.map es c) := by
  obtain ⟨D, ⟨es, c, hb, _⟩, _⟩ := h
  exact ⟨es, c, hb⟩
theorem ThAt.made (w : World) : ThAt (w.alloc (.map #[] 0)) w.heap.size 0 (fun _ => false) :=
  ⟨_, World.ownsMap_made w _ _ _, fun x => by simp [Maps.has]⟩
theorem Try.zeroUn : ∀ w : World, (zeroValue 75).run Try.prog w = .ok (.agg #[]) w := by intro w; kernel_rfl
theorem wf_nat {j : Nat} (h : j ≤ 1099511627776) : (Lit.int .i64 (j : Int)).wf = true := WalkArith.wf_i64 (by omega)
theorem ThAt.put {w1 : World} {b K x : Nat} {q : Nat → Bool} (D : DataW Unit) (hD : ∀ x : Int, Maps.has D (.int .i64 x) = true ↔ ∃ j : Nat, x = (j : Int) ∧ q j = true) (hm : IsMap D) (hown : w1.ownsMap Try.prog 3 (unitElem (H := Unit)) b (K + 1) (D.put (.int .i64 (x : Int)) (.agg []))) (hx : x ≤ 1099511627776) : ThAt w1 b (K + 1) (upd q x true) := by
  refine ⟨_, hown, fun y => ?_⟩
  by_cases e : y = (x : Int)
  · subst e
    rw [has_put_same hm ((int_keyed Try.underlying3).key (keyOf_int_mk Try.underlying3 (wf_nat hx)))]
    exact ⟨fun _ => ⟨x, rfl, upd_same _ _ _⟩, fun _ => rfl⟩
  · rw [has_put_other (by intro e'; exact e (by injection e')), hD]
    constructor
    · rintro ⟨j, rfl, hj⟩
      exact ⟨j, rfl, by rw [upd_other _ _ (by omega)]; exact hj⟩
    · rintro ⟨j, rfl, hj⟩
      exact ⟨j, rfl, by rw [upd_other _ _ (by omega)] at hj; exact hj⟩
set_option maxRecDepth 100000 in
set_option maxHeartbeats 2000000 in
/-- add: the set has one more; true, if it is new. -/
theorem gadd_any (b K x : Nat) (q : Nat → Bool) (w : World) (h : ThAt w b K q) (hK : K ≤ 1099511627776) (hx : x ≤ 1099511627776) :
    Calls Try.prog 26 #[.map (some b), .int .i64 (x : Int)] w fun e w' => e = .returned (.bool (!q x)) ∧ ThAt w' b (K + 1) (upd q x true) ∧ w.grownBy w' (some b) := by
  obtain ⟨D, hown, hD⟩ := h
  have hq : Maps.has D (.int .i64 (x : Int)) = q x := by
    cases e : q x with
    | true => exact (hD x).2 ⟨x, rfl, e⟩
    | false =>
      cases e2 : Maps.has D (.int .i64 (x : Int)) with
      | false => rfl
      | true =>
        obtain ⟨j, e3, e4⟩ := (hD x).1 e2
        obtain rfl : x = j := by omega
        rw [e] at e4
        exact e4.symm
  have hkey := keyOf_int_mk Try.underlying3 (wf_nat hx)
  have HM := qhid hown.isMap
  have HD := qhid hD
  clear hD
  go_enter Try.func26, Try.ntmps26
  go_wp2_with (first
    | (at_lookup; refine wpList_lookup_own_unit _ rfl _ _ 68 rfl 3 75 (int_keyed Try.underlying3) Try.underlying68 (Try.zeroUn _) b K _ rfl hown _ _ rfl hkey ?_)
    | (at_mapUpdate; refine wpList_mapUpdate_own _ rfl _ _ _ 68 rfl 3 75 (int_keyed Try.underlying3) Try.underlying68 _ b K _ rfl (hown.alloc _) (by unfold maxLen; omega) _ _ _ rfl rfl hkey _ [] unitElem_mk ?_; intro w1 hown1 hgrow1)
    | fail)
  go_ret
  exact ⟨rfl, ThAt.put D HD.out HM.out hown1 hx, (World.grownBy_alloc _ _ _).trans hgrow1⟩
/-- A graph of n things in memory: gb its struct, tb its table of sets. -/
structure GrAt (w : World) (B gb tb n K : Nat) (mp : Nat → Option Nat) (m : Nat → Nat → Bool) (cnt : Nat) : Prop where
  g : w.heap[gb]? = some (.cells #[.slice (some ⟨tb, 0, none⟩) n n, .int .i64 (cnt : Int)] 50 (0, 0))
  t : Vec w tb 68 n (fun i => .map (mp i))
  no : ∀ i, i < n → mp i = none → ∀ j, m i j = false
  th : ∀ i b, i < n → mp i = some b → ThAt w b K (m i)
  ne : ∀ i j b, i < n → j < n → mp i = some b → mp j = some b → i = j
  lb : B ≤ gb ∧ B ≤ tb ∧ ∀ i b, i < n → mp i = some b → B ≤ b
  bd : ∀ i j, m i j = true → i < n ∧ j < n
theorem GrAt.kept {w w' : World} {B gb tb n K : Nat} {mp : Nat → Option Nat} {m : Nat → Nat → Bool} {cnt : Nat} {row : Option Nat} (h : GrAt w B gb tb n K mp m cnt) (hg : w.grownBy w' row) (hr : ∀ r, row = some r → r ≠ gb ∧ r ≠ tb ∧ ∀ i b, i < n → mp i = some b → r ≠ b) : GrAt w' B gb tb n K mp m cnt :=
  { h with
    g := heap_kept h.g hg (fun e => (hr gb e.symm).1 rfl)
    t := heap_kept h.t hg (fun e => (hr tb e.symm).2.1 rfl)
    th := fun i b hi e => (h.th i b hi e).kept hg (fun e' => (hr b e'.symm).2.2 i b hi e rfl) }
theorem GrAt.up {w w' : World} {B gb tb n K : Nat} {mp : Nat → Option Nat} {m : Nat → Nat → Bool} {cnt : Nat} (h : GrAt w B gb tb n K mp m cnt) (hb : Below w.heap.size w w') : GrAt w' B gb tb n K mp m cnt :=
  h.kept (grown_below none hb) (fun r e => by cases e)
theorem GrAt.lt {w : World} {B gb tb n K : Nat} {mp : Nat → Option Nat} {m : Nat → Nat → Bool} {cnt : Nat} (h : GrAt w B gb tb n K mp m cnt) : gb < w.heap.size ∧ tb < w.heap.size ∧ ∀ i b, i < n → mp i = some b → b < w.heap.size :=
  ⟨Reg.size_of_get h.g, h.t.lt, fun i b hi e => (h.th i b hi e).lt⟩
/-- .. and while blocks behind it turn. -/
theorem GrAt.far {w w' : World} {B gb tb n K C : Nat} {mp : Nat → Option Nat} {m : Nat → Nat → Bool} {cnt : Nat} (h : GrAt w B gb tb n K mp m cnt) (hC : gb < C ∧ tb < C ∧ ∀ i b, i < n → mp i = some b → b < C) {row : Option Nat} (hg : w.grownBy w' row) (hr : ∀ r, row = some r → C ≤ r) : GrAt w' B gb tb n K mp m cnt :=
  h.kept hg (fun r e => by
    have h1 := hr r e
    refine ⟨fun e' => ?_, fun e' => ?_, fun i b hi e1 e' => ?_⟩
    · have := hC.1; omega
    · have := hC.2.1; omega
    · have := hC.2.2 i b hi e1; omega)
theorem GrAt.addmap {w : World} {B gb tb n K a : Nat} {mp : Nat → Option Nat} {m : Nat → Nat → Bool} {cnt : Nat} (h : GrAt w B gb tb n K mp m cnt) (ha : a < n) (he : mp a = none) (hB : B ≤ w.heap.size) :
    GrAt ((w.alloc (.map #[] 0)).setCell ⟨tb, a, none⟩ (.map (some w.heap.size))) B gb tb n K (upd mp a (some w.heap.size)) m cnt := by
  have h1 := h.kept (World.grownBy_alloc w (.map #[] 0) none) (fun r e => by cases e)
  have hlt := h.lt
  have hgt : gb ≠ tb := fun e => by
    have h2 := h.g
    rw [e] at h2
    have h3 := h.t
    unfold Vec at h3
    rw [h3] at h2
    injection h2 with h2
    injection h2 with _ h2
    exact absurd h2 (by decide)
  have hmt : ∀ i b, i < n → mp i = some b → b ≠ tb := fun i b hi e e' => by
    obtain ⟨es, c, h2⟩ := (h.th i b hi e).map
    have h3 := h.t
    unfold Vec at h3
    rw [e', h3] at h2
    cases h2
  have sg := set_grown (w.alloc (.map #[] 0)) tb a (.map (some w.heap.size))
  refine { g := heap_set_other _ h1.g hgt, t := ?_, no := fun i hi e => ?_, th := fun i b hi e => ?_, ne := fun i j b hi hj e1 e2 => ?_, lb := ⟨h.lb.1, h.lb.2.1, fun i b hi e => ?_⟩, bd := h.bd }
  · have := h1.t.set a (.map (some w.heap.size))
    have e : upd (fun i => Value.map (mp i)) a (Value.map (some w.heap.size)) = fun i => Value.map (upd mp a (some w.heap.size) i) := by
      funext i
      unfold upd
      split <;> rfl
    rw [e] at this
    exact this
  · by_cases e' : i = a
    · rw [e', upd_same] at e; cases e
    · rw [upd_other _ _ e'] at e
      exact h.no i hi e
  · by_cases e' : i = a
    · subst e'
      rw [upd_same] at e
      obtain rfl : w.heap.size = b := Option.some.inj e
      have hm : m i = fun _ => false := funext (fun j => h.no i ha he j)
      rw [hm]
      exact ((ThAt.made w).mono (Nat.zero_le K)).kept sg (fun e => by have := Option.some.inj e; have := hlt.2.1; omega)
    · rw [upd_other _ _ e'] at e
      exact (h1.th i b hi e).kept sg (fun e1 => hmt i b hi e (Option.some.inj e1))
  · by_cases ei : i = a <;> by_cases ej : j = a
    · rw [ei, ej]
    · rw [ei, upd_same] at e1
      rw [upd_other _ _ ej] at e2
      have := hlt.2.2 j b hj e2
      have := Option.some.inj e1
      omega
    · rw [ej, upd_same] at e2
      rw [upd_other _ _ ei] at e1
      have := hlt.2.2 i b hi e1
      have := Option.some.inj e2
      omega
    · rw [upd_other _ _ ei] at e1
      rw [upd_other _ _ ej] at e2
      exact h.ne i j b hi hj e1 e2
  · by_cases e' : i = a
    · rw [e', upd_same] at e
      have := Option.some.inj e
      omega
    · rw [upd_other _ _ e'] at e
      exact h.lb.2.2 i b hi e
theorem GrAt.addkey {w w' : World} {B gb tb n K a b mb : Nat} {mp : Nat → Option Nat} {m : Nat → Nat → Bool} {cnt : Nat} (h : GrAt w B gb tb n K mp m cnt) (ha : a < n) (hb : b < n) (he : mp a = some mb) (ht : ThAt w' mb (K + 1) (upd (m a) b true)) (hg : w.grownBy w' (some mb)) :
    GrAt w' B gb tb n (K + 1) mp (upd m a (upd (m a) b true)) cnt := by
  have hne : ∀ o, w.heap[mb]? = some o → ∃ es c, o = .map es c := fun o ho => by
    obtain ⟨es, c, h2⟩ := (h.th a mb ha he).map
    rw [h2] at ho
    exact ⟨es, c, (Option.some.inj ho).symm⟩
  refine { g := heap_kept h.g hg (fun e => ?_), t := heap_kept h.t hg (fun e => ?_), no := fun i hi e => ?_, th := fun i c hi e => ?_, ne := h.ne, lb := h.lb, bd := fun i j e => ?_ }
  · obtain ⟨es, c, e2⟩ := hne _ (by rw [← Option.some.inj e]; exact h.g)
    cases e2
  · obtain ⟨es, c, e2⟩ := hne _ (by rw [← Option.some.inj e]; exact h.t)
    cases e2
  · have e' : i ≠ a := fun e' => by rw [e', he] at e; cases e
    rw [upd_other _ _ e']
    exact h.no i hi e
  · by_cases e' : i = a
    · subst e'
      rw [he] at e
      obtain rfl := Option.some.inj e
      rw [upd_same]
      exact ht
    · rw [upd_other _ _ e']
      exact ((h.th i c hi e).kept hg (fun e1 => e' (h.ne i a c hi ha e (by rw [he, ← Option.some.inj e1])))).mono (Nat.le_succ _)
  · by_cases e1 : i = a
    · subst e1
      rw [upd_same] at e
      by_cases e2 : j = b
      · rw [e2]; exact ⟨ha, hb⟩
      · rw [upd_other _ _ e2] at e
        exact h.bd i j e
    · rw [upd_other _ _ e1] at e
      exact h.bd i j e
theorem GrAt.count {w : World} {B gb tb n K : Nat} {mp : Nat → Option Nat} {m : Nat → Nat → Bool} {cnt : Nat} (h : GrAt w B gb tb n K mp m cnt) (cnt' : Nat) :
    GrAt (w.setCell ⟨gb, 1, none⟩ (.int .i64 (cnt' : Int))) B gb tb n K mp m cnt' := by
  have hgt : gb ≠ tb := fun e => by
    have h2 := h.g
    rw [e] at h2
    have h3 := h.t
    unfold Vec at h3
    rw [h3] at h2
    injection h2 with h2
    injection h2 with _ h2
    exact absurd h2 (by decide)
  have sg := set_grown w gb 1 (.int .i64 (cnt' : Int))
  refine { h with g := (Joins.block_setCell h.g _).trans (by simp), t := heap_set_other _ h.t (Ne.symm hgt), th := fun i b hi e => (h.th i b hi e).kept sg (fun e1 => ?_) }
  obtain ⟨es, c, h2⟩ := (h.th i b hi e).map
  rw [Option.some.inj e1, h.g] at h2
  cases h2
/-- Cells of other types than a graph's are as they were. -/
structure KeepG (w w' : World) : Prop where
  size : w.heap.size ≤ w'.heap.size
  row : ∀ (g : Nat) (cs : Array Value) (t : TypeId) (fr : Nat × Nat), w.heap[g]? = some (.cells cs t fr) → t ≠ 50 → t ≠ 68 → w'.heap[g]? = some (.cells cs t fr)
theorem KeepG.refl (w : World) : KeepG w w := ⟨Nat.le_refl _, fun _ _ _ _ h _ _ => h⟩
theorem KeepG.trans {w w1 w2 : World} (h : KeepG w w1) (k : KeepG w1 w2) : KeepG w w2 := ⟨Nat.le_trans h.size k.size, fun g cs t fr e h1 h2 => k.row g cs t fr (h.row g cs t fr e h1 h2) h1 h2⟩
theorem KeepG.grown {w w' : World} {row : Option Nat} (hg : w.grownBy w' row) (hr : ∀ r, row = some r → ∃ o, w.heap[r]? = some o ∧ ∀ cs t fr, o = .cells cs t fr → t = 50 ∨ t = 68) : KeepG w w' :=
  ⟨hg.size, fun g cs t fr e h1 h2 => (hg.block g (Reg.size_of_get e) (fun e' => by
    obtain ⟨o, ho, hc⟩ := hr g e'.symm
    rw [e] at ho
    rcases hc cs t fr (Option.some.inj ho).symm with hc | hc
    · exact h1 hc
    · exact h2 hc)).trans e⟩

theorem Try.infoTh : (Try.prog.info? 68).map (fun i => (i.zero, i.size, i.bytes)) = some (some (.map none), 1, 8) := by kernel_rfl
theorem mk_things (n : Nat) (hn : n ≤ 1048576) (w : World) : (Instr.makeSlice 48 (.int .i64 (n : Int)) (.int .i64 (n : Int))).run Try.prog w = .ok (.slice (some ⟨w.heap.size, 0, none⟩) n n) (w.alloc (.cells (vl n fun _ => .map none) 68)) := by
  obtain ⟨i0, hi, hz0, hz1, hz2⟩ := info_parts Try.infoTh
  have h := run_make (P := Try.prog) w 48 68 i0 _ Try.underlying48 hi hz0 .i64 .i64 (n : Int) (n : Int) (by omega) (by omega) (by rw [hz2]; omega) (by omega)
  rw [h, hz1]
  simp only [Int.toNat_natCast, Nat.mul_one]
  rw [← made_vl]
  rfl
def noArrows : Nat → Nat → Bool := fun _ _ => false
set_option maxRecDepth 100000 in
set_option maxHeartbeats 2000000 in
/-- New: a graph without arrows. -/
theorem gnew_any (n : Nat) (hn : n ≤ 1048576) (w : World) :
    Calls Try.prog 17 #[.int .i64 (n : Int)] w fun e w' => e = .returned (.tuple #[.pointer (some ⟨w.heap.size + 1, 0, none⟩), .int .i64 0]) ∧ GrAt w' w.heap.size (w.heap.size + 1) w.heap.size n 0 (fun _ => none) noArrows 0 ∧ Below w.heap.size w w' ∧ w'.heap.size = w.heap.size + 2 := by
  have hmk := mk_things n hn
  have h1 : decide ((n : Int) < 0) = false := decide_eq_false (by omega)
  have h2' : decide ((1048576 : Int) < (n : Int)) = false := decide_eq_false (by omega)
  go_enter Try.func17, Try.ntmps17
  go_wp2_with fail
  go_ret2
  refine ⟨rfl, ?_, below2 _ _ _, by simp⟩
  refine { g := ?_, t := ?_, no := fun _ _ _ _ => rfl, th := fun i b _ e => (by cases e), ne := fun i j b _ _ e => (by cases e), lb := ⟨by omega, by omega, fun i b _ e => (by cases e)⟩, bd := fun i j e => (by cases e) }
  · have := heap_new (w.alloc (.cells (vl n fun _ => .map none) 68)) (.cells #[.slice (some ⟨w.heap.size, 0, none⟩) n n, .int .i64 0] 50)
    rw [World.size_alloc] at this
    exact this
  · exact heap_up (heap_new w (.cells (vl n fun _ => .map none) 68)) (below1 _ _)
set_option maxRecDepth 100000 in
set_option maxHeartbeats 2000000 in
theorem gnew_bad (x : Int) (hx : x < 0 ∨ 1048576 < x) (w : World) :
    Calls Try.prog 17 #[.int .i64 x] w fun e w' => e = .returned (.tuple #[.pointer none, .int .i64 1]) ∧ w' = w := by
  by_cases h : x < 0
  · have h1 : decide (x < 0) = true := by simpa using h
    go_enter Try.func17, Try.ntmps17
    go_wp2_with fail
    go_ret2
    exact ⟨rfl, rfl⟩
  · have h1 : decide (x < 0) = false := by simpa using h
    have h2 : decide (1048576 < x) = true := by simp; omega
    clear hx h
    go_enter Try.func17, Try.ntmps17
    go_wp2_with fail
    go_ret2
    exact ⟨rfl, rfl⟩
set_option maxRecDepth 100000 in
theorem glen_any {w : World} {B gb tb n K : Nat} {mp : Nat → Option Nat} {m : Nat → Nat → Bool} {cnt : Nat} (h : GrAt w B gb tb n K mp m cnt) :
    Calls Try.prog 7 #[.pointer (some ⟨gb, 0, none⟩)] w fun e w' => e = .returned (.int .i64 (n : Int)) ∧ w' = w := by
  have x0 := Joins.cell_of_block h.g 0
  simp only [List.getElem?_toArray, List.getElem?_cons_zero] at x0
  clear h
  go_enter Try.func7, Try.ntmps7
  go_wp2_with fail
  go_ret
  exact ⟨rfl, rfl⟩
set_option maxRecDepth 100000 in
theorem glen_nil (w : World) : Calls Try.prog 7 #[.pointer none] w fun e w' => e = .returned (.int .i64 0) ∧ w' = w := by
  go_enter Try.func7, Try.ntmps7
  go_wp2_with fail
  go_ret
  exact ⟨rfl, rfl⟩
set_option maxRecDepth 100000 in
theorem garrows_any {w : World} {B gb tb n K : Nat} {mp : Nat → Option Nat} {m : Nat → Nat → Bool} {cnt : Nat} (h : GrAt w B gb tb n K mp m cnt) :
    Calls Try.prog 14 #[.pointer (some ⟨gb, 0, none⟩)] w fun e w' => e = .returned (.int .i64 (cnt : Int)) ∧ w' = w := by
  have x0 := Joins.cell_of_block h.g 1
  simp only [List.getElem?_toArray, List.getElem?_cons_zero, List.getElem?_cons_succ] at x0
  clear h
  go_enter Try.func14, Try.ntmps14
  go_wp2_with fail
  go_ret
  exact ⟨rfl, rfl⟩
set_option maxRecDepth 100000 in
theorem garrows_nil (w : World) : Calls Try.prog 14 #[.pointer none] w fun e w' => e = .returned (.int .i64 0) ∧ w' = w := by
  go_enter Try.func14, Try.ntmps14
  go_wp2_with fail
  go_ret
  exact ⟨rfl, rfl⟩
/-- Is thing x there? -/
def inB (n : Nat) (x : Int) : Bool := decide (0 ≤ x) && decide (x < (n : Int))
set_option maxRecDepth 100000 in
theorem gthere_any {w : World} {B gb tb n K : Nat} {mp : Nat → Option Nat} {m : Nat → Nat → Bool} {cnt : Nat} (h : GrAt w B gb tb n K mp m cnt) (x : Int) :
    Calls Try.prog 21 #[.pointer (some ⟨gb, 0, none⟩), .int .i64 x] w fun e w' => e = .returned (.bool (inB n x)) ∧ w' = w := by
  have hL := glen_any h
  clear h
  by_cases h0 : 0 ≤ x
  · have h1 : decide (0 ≤ x) = true := by simpa using h0
    have e : inB n x = decide (x < (n : Int)) := by simp [inB, h0]
    rw [e]
    clear h0 e
    go_enter Try.func21, Try.ntmps21
    go_wp2_with (go_at_call 7; refine hL.mono ?_; rintro e w1 ⟨rfl, rfl⟩)
    go_ret
    exact ⟨rfl, rfl⟩
  · have h1 : decide (0 ≤ x) = false := by simpa using h0
    have e : inB n x = false := by simp [inB, h0]
    rw [e]
    clear h0 e hL
    go_enter Try.func21, Try.ntmps21
    go_wp2_with fail
    go_ret
    exact ⟨rfl, rfl⟩
set_option maxRecDepth 100000 in
theorem gthere_nil (w : World) (x : Int) :
    Calls Try.prog 21 #[.pointer none, .int .i64 x] w fun e w' => e = .returned (.bool false) ∧ w' = w := by
  have hL := glen_nil w
  by_cases h0 : 0 ≤ x
  · have h1 : decide (0 ≤ x) = true := by simpa using h0
    have h2 : decide (x < 0) = false := by simpa using h0
    clear h0
    go_enter Try.func21, Try.ntmps21
    go_wp2_with (go_at_call 7; refine hL.mono ?_; rintro e w1 ⟨rfl, rfl⟩)
    go_ret
    exact ⟨rfl, rfl⟩
  · have h1 : decide (0 ≤ x) = false := by simpa using h0
    clear h0 hL
    go_enter Try.func21, Try.ntmps21
    go_wp2_with fail
    go_ret
    exact ⟨rfl, rfl⟩
end
end Go.Proofs.Ytghfodjefjijdaa
