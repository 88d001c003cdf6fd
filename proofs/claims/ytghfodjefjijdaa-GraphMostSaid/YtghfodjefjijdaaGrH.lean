/- graph: Reach and Ring told. -/
import Derived.Test.YtghfodjefjijdaaGrG
namespace Go.Proofs.Ytghfodjefjijdaa
section
open Go Go.RowKit Go.Shelf
/-- The arrows of a table. -/
def Em (m : Nat → Nat → Bool) : Nat → Nat → Prop := fun u x => m u x = true
theorem mem_range_succ {nt : Nat} {q : Nat → Bool} {j : Nat} (h : j ∈ succ nt q) : j < nt := by
  unfold succ at h
  exact List.mem_range.1 (List.mem_filter.1 h).1
theorem em_succ {nt : Nat} {m : Nat → Nat → Bool} (h : ∀ i j, m i j = true → i < nt ∧ j < nt) : (fun u x => x ∈ succ nt (m u)) = Em m := by
  funext u x
  exact propext (mem_succ (fun j hj => (h u j hj).2) x)
theorem OwnAll.and {β : Type} {B : Nat} {I K : β → World → Prop} (h : OwnAll B I) (k : OwnAll B K) : OwnAll B (fun s W => I s W ∧ K s W) := fun s _ _ _ hs hg hr => ⟨h s _ _ _ hs.1 hg hr, k s _ _ _ hs.2 hg hr⟩
theorem ownAll_heap {β : Type} {B : Nat} (b : β → Nat) (o : β → Obj) (hb : ∀ s, b s < B) : OwnAll B (fun s W => W.heap[b s]? = some (o s)) := fun s _ _ _ hs hg hr => heap_kept hs hg (fun e => by have := hr (b s) e.symm; have := hb s; omega)
theorem ownAll_below {β : Type} {B n0 : Nat} (w : World) (hn : n0 ≤ B) (hw : n0 ≤ w.heap.size) : OwnAll B (fun (_ : β) W => Below n0 w W) := fun _ _ _ _ hs hg hr => hs.grown hg (Nat.le_trans hw hs.size) (fun k e => Nat.le_trans hn (hr k e))
theorem ownAll_pure {β : Type} {B : Nat} (p : β → Prop) : OwnAll B (fun s (_ : World) => p s) := fun _ _ _ _ hs _ _ => hs
theorem ownAll_false {β : Type} {B : Nat} : OwnAll B (fun (_ : β) (_ : World) => False) := fun _ _ _ _ hs _ _ => hs
theorem Try.infoBool : (Try.prog.info? 4).map (fun i => (i.zero, i.size, i.bytes)) = some (some (.bool false), 1, 1) := by kernel_rfl
theorem mk_bools (n : Nat) (hn : n ≤ 1048576) (w : World) : (Instr.makeSlice 34 (.int .i64 (n : Int)) (.int .i64 (n : Int))).run Try.prog w = .ok (.slice (some ⟨w.heap.size, 0, none⟩) n n) (w.alloc (.cells (vl n fun _ => .bool false) 4)) := by
  obtain ⟨i0, hi, hz0, hz1, hz2⟩ := info_parts Try.infoBool
  have h := run_make (P := Try.prog) w 34 4 i0 _ Try.underlying34 hi hz0 .i64 .i64 (n : Int) (n : Int) (by omega) (by omega) (by rw [hz2]; omega) (by omega)
  rw [h, hz1]
  simp only [Int.toNat_natCast, Nat.mul_one]
  rw [← made_vl]
  rfl
/-- What is reached, as far as the arrows tell. -/
def rfn (a : Nat) (pre : List (Nat × Nat)) (j : Nat) : Bool := j == a || pre.any (fun p => p.2 == j)
theorem rfn_nil (a : Nat) : upd (fun _ => Value.bool false) a (.bool true) = fun j => .bool (rfn a [] j) := by
  funext j
  unfold upd rfn
  split
  · next e => simp [e]
  · next e => simp [e]
theorem rfn_snoc (a : Nat) (pre : List (Nat × Nat)) (x : Nat × Nat) : upd (fun j => Value.bool (rfn a pre j)) x.2 (.bool true) = fun j => .bool (rfn a (pre ++ [x]) j) := by
  funext j
  unfold upd rfn
  split
  · next e => simp [e]
  · next e =>
    have e2 : (x.2 == j) = false := by simpa using Ne.symm e
    simp [List.any_append, e2]
theorem rfn_all {nt a : Nat} {m : Nat → Nat → Bool} (h : ∀ i j, m i j = true → i < nt ∧ j < nt) {xs : List (Nat × Nat)} (hx : AllArcs (fun u => succ nt (m u)) a xs) (j : Nat) : rfn a xs j = true ↔ Rch (Em m) a j := by
  obtain ⟨l, hb, rfl⟩ := hx
  unfold rfn
  rw [Bool.or_eq_true, beq_iff_eq, List.any_eq_true]
  rw [← em_succ h]
  constructor
  · rintro (rfl | ⟨⟨x, y⟩, hp, e⟩)
    · exact .refl _
    · obtain ⟨h1, h2⟩ := (hb.arc_all x y).1 hp
      have e : y = j := by simpa using e
      rw [← e]
      exact .tail h1 h2
  · intro hr
    cases hr with
    | refl => exact .inl rfl
    | tail h1 e => exact .inr ⟨(_, j), (hb.arc_all _ j).2 ⟨h1, e⟩, by simp⟩
attribute [local go_sem] Oper.semAt_some
set_option maxRecDepth 100000 in
set_option maxHeartbeats 4000000 in
theorem greach_any {w : World} {B gb tb nt K : Nat} {mp : Nat → Option Nat} {m : Nat → Nat → Bool} {cnt : Nat} (h : GrAt w B gb tb nt K mp m cnt) (a : Nat) (ha : a < nt) (hnt : nt ≤ 1000) (hK : K ≤ 1000000) :
    Calls Try.prog 11 #[.pointer (some ⟨gb, 0, none⟩), .int .i64 (a : Int)] w fun e w' => ∃ (lb : Nat) (r : Nat → Bool), e = .returned (.slice (some ⟨lb, 0, none⟩) nt nt) ∧ Vec w' lb 4 nt (fun j => .bool (r j)) ∧ (∀ j, r j = true ↔ Rch (Em m) a j) ∧ w.heap.size ≤ lb ∧ Below w.heap.size w w' := by
  have H1 := qhid (gthere_any h (a : Int))
  rw [inB_nat ha] at H1
  have H2 := qhid (glen_any h)
  have hmk := mk_bools nt (by omega)
  have hva := vl_at nt (fun _ => Value.bool false) a ha
  have HH := qhid h
  clear h
  refine (callsIn_wide (n := 40)).1 ?_
  refine callsIn_of_wp_marks Try.func11 rfl trivial ?_ rfl
  simp only [Try.ntmps11, List.size_toArray, List.length_cons, List.length_nil, Nat.reduceAdd, Nat.reduceSub, Array.replicate_succ, Array.replicate_zero, List.push_toArray, List.append_toArray, List.nil_append, List.cons_append]
  gi_wp2_with fail
  refine ⟨trivial, ?_⟩
  refine (callsIn_wide.2 H1.out).mono ?_
  rintro e w1 ⟨rfl, hw⟩
  obtain rfl : w = w1 := hw.symm
  gi_wp2_with fail
  refine ⟨trivial, ?_⟩
  refine (callsIn_wide.2 H2.out).mono ?_
  rintro e w1 ⟨rfl, hw⟩
  obtain rfl : w = w1 := hw.symm
  gi_wp2_with fail
  refine ⟨trivial, ?_⟩
  obtain ⟨W1, hW1⟩ : ∃ X, X = (w.alloc (.cells ((vl nt fun _ => Value.bool false).setIfInBounds a (.bool true)) 4)).alloc (.cells #[.slice (some ⟨w.heap.size, 0, none⟩) nt nt] 34) := ⟨_, rfl⟩
  have z1 : W1.heap.size = w.heap.size + 2 := by rw [hW1, World.size_alloc, World.size_alloc]
  have b1 : Below w.heap.size w W1 := by rw [hW1]; exact below2 w _ _
  have v1 : Vec W1 w.heap.size 4 nt (fun j => .bool (rfn a [] j)) := by
    rw [hW1, ← rfn_nil, vl_set]
    exact heap_up (heap_new w _) (below1 _ _)
  have x1 : Boxed W1 (w.heap.size + 1) 34 (.slice (some ⟨w.heap.size, 0, none⟩) nt nt) := by
    rw [hW1]
    have := Boxed.new (w.alloc (.cells ((vl nt fun _ => Value.bool false).setIfInBounds a (.bool true)) 4)) 34 (.slice (some ⟨w.heap.size, 0, none⟩) nt nt)
    rwa [World.size_alloc] at this
  rw [← hW1]
  clear hW1
  refine (callsIn_wide.2 (gspread_any _ _ W1)).mono ?_
  rintro e W2 ⟨rfl, hW2⟩
  have z2 : W2.heap.size = w.heap.size + 4 := by rw [hW2, World.size_alloc, World.size_alloc, z1]
  have b2 : Below w.heap.size w W2 := b1.trans (by rw [hW2]; exact (below2 W1 _ _).mono b1.size)
  have b12 : Below W1.heap.size W1 W2 := by rw [hW2]; exact below2 W1 _ _
  have v2 : Vec W2 w.heap.size 4 nt (fun j => .bool (rfn a [] j)) := heap_up v1 b12
  have x2 : Boxed W2 (w.heap.size + 1) 34 (.slice (some ⟨w.heap.size, 0, none⟩) nt nt) := heap_up x1 b12
  have bg : Boxed W2 (w.heap.size + 2) 24 (.pointer (some ⟨gb, 0, none⟩)) := by
    rw [hW2, ← z1]
    exact (Boxed.new W1 24 _).alloc _
  have bn : Boxed W2 (w.heap.size + 3) 3 (.int .i64 (a : Int)) := by
    rw [hW2]
    have := Boxed.new (W1.alloc (.cells #[.pointer (some ⟨gb, 0, none⟩)] 24)) 3 (.int .i64 (a : Int))
    rwa [World.size_alloc, z1] at this
  have hlt := HH.out.lt
  have HST := qhid (gspread_stops 39 (w.heap.size + 3) (w.heap.size + 2) a (· = w.heap.size) (HH.out.up b2) ha hnt hK bg bn (fun b e => by rw [e, z2]; omega) (by omega) (by omega) (fun i b hi e => by have := hlt.2.2 i b hi e; omega) (by omega))
  rw [z1]
  have HBD := qhid HH.out.bd
  have HV := qhid v2
  have HX := qhid x2
  have HB := qhid b2
  have HZ := qhid z2
  clear hW2 z1 z2 b1 b2 b12 v1 v2 x1 x2 bg bn hlt hmk hva HH
  obtain ⟨lb, hlb⟩ : ∃ b, b = w.heap.size := ⟨_, rfl⟩
  rw [← hlb] at HST HV HX ⊢
  have HLB := qhid hlb
  clear hlb
  rw [show lb + 2 + 1 = lb + 3 from rfl]
  gi_wp2_with fail
  refine wpIn_rangeFunc_all (by omega) (gf := 33) (lb := #[.pointer (some ⟨lb + 3, 0, none⟩), .pointer (some ⟨lb + 2, 0, none⟩)]) rfl (enters_of Try.func33 (by kernel_rfl) rfl)
    HST.out (fun b e => by rw [e, HZ.out, HLB.out]; omega) (Below.refl _ _) (fun _ => rfl)
    (fun pre W => W.heap[lb]? = some (.cells (vl nt fun j => .bool (rfn a pre j)) 4 (0, 0)) ∧ (W.heap[lb + 1]? = some (.cells #[.slice (some ⟨lb, 0, none⟩) nt nt] 34 (0, 0)) ∧ Below lb w W))
    (fun _ _ _ => False)
    ((ownAll_heap (fun _ => lb) _ (fun _ => by rw [HZ.out, HLB.out]; omega)).and ((ownAll_heap (fun _ => lb + 1) _ (fun _ => by rw [HZ.out, HLB.out]; omega)).and (ownAll_below w (by rw [HZ.out, HLB.out]; omega) (Nat.le_of_eq HLB.out))))
    (fun _ => ownAll_false)
    ⟨HV.out, HX.out, by rw [HLB.out]; exact HB.out⟩
    ?a1 ?assign ?body ?done ?stop
  case assign =>
    intro l x W K hK
    gi_wp2
    exact hK
  case stop =>
    rintro D c pre W _ _ h _
    exact h.elim
  case body =>
    rintro l pre x W ⟨hv, hx, hB⟩ hok _
    have hxl : x.2 < nt := by
      obtain ⟨_, _, _, _, _, h3, _, _⟩ := hok
      exact (mem_range_succ (List.mem_of_getElem? h3))
    have c1 := Boxed.cell hx
    have c2 := Vec.cell hv hxl
    have f2 := Vec.unfrozen hv x.2
    have HV := qhid hv
    have HX := qhid hx
    have HB := qhid hB
    clear hv hx hB hok
    gi_wp2
    refine ⟨KeepO.grown (set_grown W lb x.2 _) (fun r e => (Option.some.inj e).symm), ?_, ?_, HB.out.setCell (p := ⟨lb, x.2, none⟩) (Nat.le_refl _) _⟩
    · rw [← rfn_snoc]
      exact Vec.set HV.out x.2 _
    · exact heap_set_other _ HX.out (by omega)
  case done =>
    rintro D ys W hD hys ⟨hv, hx, hB⟩ hK
    have c1 := Boxed.cell hx
    have HV := qhid hv
    have HB := qhid hB
    have HK := qhid hK
    clear hv hx hB hK
    gi_wp2
    refine ⟨by simp, .inl ⟨_, _, rfl, run_takeDeferred HK.out, ?_⟩⟩
    have hg := grownBy_putObj' W D (.deferred none)
    have hne : D ≠ lb := by have := HZ.out; have := HLB.out; omega
    refine ⟨_, results_tmp rfl _ _ _, lb, rfn a ys, rfl, heap_kept HV.out hg (fun e => hne (Option.some.inj e).symm), rfn_all HBD.out hys, Nat.le_of_eq HLB.out.symm, ?_⟩
    have hB2 := HB.out
    rw [HLB.out] at hB2
    exact hB2.grown hg hB2.size (fun k e => by cases e; have := HZ.out; omega)
theorem spread_world {W1 W2 : World} {pg : Option Addr} {x : Int} (hW2 : W2 = (W1.alloc (.cells #[.pointer pg] 24)).alloc (.cells #[.int .i64 x] 3)) : W2.heap.size = W1.heap.size + 2 ∧ Below W1.heap.size W1 W2 ∧ Boxed W2 W1.heap.size 24 (.pointer pg) ∧ Boxed W2 (W1.heap.size + 1) 3 (.int .i64 x) := by
  refine ⟨by rw [hW2, World.size_alloc, World.size_alloc], by rw [hW2]; exact below2 W1 _ _, ?_, ?_⟩
  · rw [hW2]
    exact (Boxed.new W1 24 _).alloc _
  · rw [hW2]
    have := Boxed.new (W1.alloc (.cells #[.pointer pg] 24)) 3 (.int .i64 x)
    rwa [World.size_alloc] at this
theorem load_bool (W : World) (b : Nat) (v : Value) (hc : W.cell? ⟨b, 0, none⟩ = some v) : (loadVar 4 ⟨b, 0, none⟩).run Try.prog W = .ok v W := by
  simp [loadVar, go_sem, hc]
theorem results_bool {fn : Func} {p : Tmp} (h : fn.results = #[.cell p 4]) (tmps : Array Value) (W : World) (b : Nat) (v : Value) (hp : tmps.getD p undef = .pointer (some ⟨b, 0, none⟩)) (hc : W.cell? ⟨b, 0, none⟩ = some v) :
    (results fn tmps).run Try.prog W = .ok v W := by
  have hp' : tmps[p]?.getD undef = .pointer (some ⟨b, 0, none⟩) := by simpa using hp
  simp [results, h, hp', asAddr, load_bool W b v hc]
set_option maxRecDepth 100000 in
set_option maxHeartbeats 4000000 in
theorem gring_any {w : World} {B gb tb nt K : Nat} {mp : Nat → Option Nat} {m : Nat → Nat → Bool} {cnt : Nat} (h : GrAt w B gb tb nt K mp m cnt) (a : Nat) (ha : a < nt) (hnt : nt ≤ 1000) (hK : K ≤ 1000000) :
    Calls Try.prog 12 #[.pointer (some ⟨gb, 0, none⟩), .int .i64 (a : Int)] w fun e w' => ∃ r : Bool, e = .returned (.bool r) ∧ (r = true ↔ ∃ x, Rch (Em m) a x ∧ Em m x a) ∧ Below w.heap.size w w' := by
  obtain ⟨W1, hW1⟩ : ∃ X, X = (w.alloc (.cells #[.int .i64 (a : Int)] 3)).alloc (.cells #[.bool false] 4) := ⟨_, rfl⟩
  have z1 : W1.heap.size = w.heap.size + 2 := by rw [hW1, World.size_alloc, World.size_alloc]
  have b1 : Below w.heap.size w W1 := by rw [hW1]; exact below2 w _ _
  have x1 : Boxed W1 w.heap.size 3 (.int .i64 (a : Int)) := by rw [hW1]; exact (Boxed.new w 3 _).alloc _
  have r1 : Boxed W1 (w.heap.size + 1) 4 (.bool false) := by
    rw [hW1]
    have := Boxed.new (w.alloc (.cells #[.int .i64 (a : Int)] 3)) 4 (.bool false)
    rwa [World.size_alloc] at this
  have H1 := qhid (gthere_any (h.up b1) (a : Int))
  rw [inB_nat ha] at H1
  have HH := qhid h
  have c1 := x1.cell
  clear h
  refine (callsIn_wide (n := 40)).1 ?_
  refine callsIn_of_wp_marks Try.func12 rfl trivial ?_ rfl
  simp only [Try.ntmps12, List.size_toArray, List.length_cons, List.length_nil, Nat.reduceAdd, Nat.reduceSub, Array.replicate_succ, Array.replicate_zero, List.push_toArray, List.append_toArray, List.nil_append, List.cons_append]
  have HW1 := qhid hW1
  clear hW1
  gi_wp2_with fail
  rw [← HW1.out]
  refine ⟨trivial, ?_⟩
  refine (callsIn_wide.2 H1.out).mono ?_
  rintro e w1 ⟨rfl, hw⟩
  obtain rfl : W1 = w1 := hw.symm
  gi_wp2_with fail
  refine ⟨trivial, ?_⟩
  refine (callsIn_wide.2 (gspread_any _ _ W1)).mono ?_
  rintro e W2 ⟨rfl, hW2⟩
  obtain ⟨z2, b12, bg, bn⟩ := spread_world hW2
  have b2 : Below w.heap.size w W2 := b1.trans (b12.mono b1.size)
  have x2 : Boxed W2 w.heap.size 3 (.int .i64 (a : Int)) := heap_up x1 b12
  have r2 : Boxed W2 (w.heap.size + 1) 4 (.bool false) := heap_up r1 b12
  have hlt := HH.out.lt
  have HST := qhid (gspread_stops 39 (W1.heap.size + 1) W1.heap.size a (· = w.heap.size + 1) (HH.out.up b2) ha hnt hK bg bn (fun b e => by rw [e, z2, z1]; omega) (by omega) (by omega) (fun i b hi e => by have := hlt.2.2 i b hi e; omega) (by rw [z1]; omega))
  have HBD := qhid HH.out.bd
  have HX := qhid x2
  have HR := qhid r2
  have HB := qhid b2
  have HZ : Hid (W2.heap.size = w.heap.size + 4) := qhid (by rw [z2, z1])
  clear hW2 b1 b2 b12 x1 x2 r1 r2 bg bn hlt c1 HH HW1 z2
  have HZ1 := qhid z1
  rw [z1] at HST ⊢
  clear z1
  obtain ⟨lb, hlb⟩ : ∃ b, b = w.heap.size := ⟨_, rfl⟩
  rw [← hlb] at HST HX HR ⊢
  have HLB := qhid hlb
  clear hlb
  rw [show lb + 2 + 1 = lb + 3 from rfl] at HST ⊢
  have c1 := HX.out.cell
  have cr := HR.out.cell
  have fr := HR.out.frozen
  gi_wp2_with fail
  refine wpIn_rangeFunc_all (by omega) (gf := 33) (lb := #[.pointer (some ⟨lb + 3, 0, none⟩), .pointer (some ⟨lb + 2, 0, none⟩)]) rfl (enters_of Try.func33 (by kernel_rfl) rfl)
    HST.out (fun b e => by rw [e, HZ.out, HLB.out]; omega) (Below.refl _ _) (fun _ => rfl)
    (fun pre W => (W.heap[lb]? = some (.cells #[.int .i64 (a : Int)] 3 (0, 0)) ∧ (W.heap[lb + 1]? = some (.cells #[.bool false] 4 (0, 0)) ∧ Below lb w W)) ∧ ∀ p ∈ pre, p.2 ≠ a)
    (fun c pre W => (W.heap[lb + 1]? = some (.cells #[.bool true] 4 (0, 0)) ∧ Below lb w W) ∧ (c = .ret ∧ ∃ p ∈ pre, p.2 = a))
    (((ownAll_heap (fun _ => lb) _ (fun _ => by rw [HZ.out, HLB.out]; omega)).and ((ownAll_heap (fun _ => lb + 1) _ (fun _ => by rw [HZ.out, HLB.out]; omega)).and (ownAll_below w (by rw [HZ.out, HLB.out]; omega) (Nat.le_of_eq HLB.out)))).and (ownAll_pure (fun pre : List (Nat × Nat) => ∀ p ∈ pre, p.2 ≠ a)))
    (fun c => ((ownAll_heap (fun _ => lb + 1) _ (fun _ => by rw [HZ.out, HLB.out]; omega)).and (ownAll_below w (by rw [HZ.out, HLB.out]; omega) (Nat.le_of_eq HLB.out))).and (ownAll_pure (fun pre : List (Nat × Nat) => c = .ret ∧ ∃ p ∈ pre, p.2 = a)))
    ⟨⟨HX.out, HR.out, by rw [HLB.out]; exact HB.out⟩, fun p hp => by cases hp⟩
    ?a1 ?assign ?body ?done ?stop
  case assign =>
    intro l x W K hK
    gi_wp2
    exact hK
  case body =>
    rintro l pre x W ⟨⟨hx, hr, hB⟩, hp⟩ hok _
    clear c1 cr fr
    have c1 := Boxed.cell hx
    have cr := Boxed.cell hr
    have fr := Boxed.frozen hr
    have HX := qhid hx
    have HR := qhid hr
    have HB := qhid hB
    have HP := qhid hp
    clear hx hr hB hok hp
    by_cases hxa : x.2 = a
    · have hd : ((x.2 : Int) == (a : Int)) = true := by rw [hxa]; simp
      have HXA := qhid hxa
      clear hxa
      gi_wp2
      exact ⟨KeepO.grown (set_grown W (lb + 1) 0 _) (fun r e => (Option.some.inj e).symm), ⟨(show Boxed W (lb + 1) 4 (.bool false) from HR.out).set _, HB.out.setCell (p := ⟨lb + 1, 0, none⟩) (Nat.le_succ _) _⟩, rfl, x, by simp, HXA.out⟩
    · have hd : ((x.2 : Int) == (a : Int)) = false := by simp; omega
      have HXA := qhid hxa
      clear hxa
      gi_wp2
      exact ⟨KeepO.refl _ _, ⟨HX.out, HR.out, HB.out⟩, fun p hp => by
        rcases List.mem_append.1 hp with hp | hp
        · exact HP.out p hp
        · rw [List.mem_singleton.1 hp]; exact HXA.out⟩
  case done =>
    rintro D ys W hD hys ⟨⟨hx, hr, hB⟩, hp⟩ hK
    clear c1 cr fr
    have cr := Boxed.cell hr
    have fr := Boxed.frozen hr
    have HR := qhid hr
    have HB := qhid hB
    have HK := qhid hK
    have HP := qhid hp
    clear hx hr hB hK hp
    gi_wp2
    have hne : D ≠ lb + 1 := by have := HZ.out; have := HLB.out; omega
    have hK2 : (W.setCell ⟨lb + 1, 0, none⟩ (.bool false)).heap[D]? = some (.deferred (some [])) := heap_set_other _ HK.out hne
    have hg := grownBy_putObj' (W.setCell ⟨lb + 1, 0, none⟩ (.bool false)) D (.deferred none)
    have hb2 : Boxed ((W.setCell ⟨lb + 1, 0, none⟩ (.bool false)).putObj D (.deferred none)) (lb + 1) 4 (.bool false) := ((show Boxed W (lb + 1) 4 (.bool false) from HR.out).set _).kept hg (fun e => hne (Option.some.inj e).symm)
    refine ⟨by simp, .inl ⟨_, _, rfl, run_takeDeferred hK2, ?_⟩⟩
    refine ⟨_, results_bool rfl _ _ (lb + 1) _ rfl hb2.cell, false, rfl, ?_, ?_⟩
    · refine ⟨fun e => (by cases e), fun hx => ?_⟩
      obtain ⟨x, h1, h2⟩ := hx
      obtain ⟨l, hb, rfl⟩ := hys
      rw [← em_succ HBD.out] at h1 h2
      exact absurd rfl (HP.out (x, a) ((hb.arc_all x a).2 ⟨h1, h2⟩))
    · have hB2 := HB.out
      rw [HLB.out] at hB2
      rw [HLB.out] at hg ⊢
      exact (hB2.setCell (p := ⟨w.heap.size + 1, 0, none⟩) (Nat.le_succ _) _).grown hg (by simpa [World.setCell] using hB2.size) (fun k e => by cases e; have := HZ.out; omega)
  case stop =>
    rintro D c pre W hD hpre ⟨⟨hr, hB⟩, rfl, hp⟩ hK
    clear c1 cr fr
    have HR := qhid hr
    have HB := qhid hB
    have HK := qhid hK
    have HP := qhid hp
    clear hr hB hK hp
    gi_wp2
    have hg := grownBy_putObj' W D (.deferred none)
    have hne : D ≠ lb + 1 := by have := HZ.out; have := HLB.out; omega
    have hb2 : Boxed (W.putObj D (.deferred none)) (lb + 1) 4 (.bool true) := heap_kept HR.out hg (fun e => hne (Option.some.inj e).symm)
    refine ⟨by simp, .inl ⟨_, _, rfl, run_takeDeferred HK.out, ?_⟩⟩
    refine ⟨_, results_bool rfl _ _ (lb + 1) _ rfl hb2.cell, true, rfl, ?_, ?_⟩
    · refine ⟨fun _ => ?_, fun _ => rfl⟩
      obtain ⟨p, hp, e⟩ := HP.out
      obtain ⟨p0, x, ⟨l, i, j, hb, hi, he, hu, rfl⟩, rfl⟩ := hpre
      rw [← em_succ HBD.out]
      rcases List.mem_append.1 hp with hp | hp
      · obtain ⟨h1, h2⟩ := hb.arc p hp
        exact ⟨p.1, hb.inv.rc _ h1, by rw [← e]; exact h2⟩
      · rw [List.mem_singleton.1 hp] at e
        exact ⟨l.getD i 0, hb.inv.rc _ (getD_mem hi), by rw [← e]; exact List.mem_of_getElem? he⟩
    · have hB2 := HB.out
      rw [HLB.out] at hB2
      exact hB2.grown hg hB2.size (fun k e => by cases e; have := HZ.out; omega)
end
end Go.Proofs.Ytghfodjefjijdaa
