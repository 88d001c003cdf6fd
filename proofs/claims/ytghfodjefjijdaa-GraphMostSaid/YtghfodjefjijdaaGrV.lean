/- graph: Reach, Ring, Knots, Most of no graph or no thing; the law GraphNone told. -/
import Derived.Test.YtghfodjefjijdaaGrU
namespace Go.Proofs.Ytghfodjefjijdaa
section
open Go Go.RowKit Go.Shelf
attribute [local go_sem ↓] Go.wp_at_zero Go.wp_at_succ
theorem greach_bad {w : World} {B gb tb nt K : Nat} {mp : Nat → Option Nat} {m : Nat → Nat → Bool} {cnt : Nat} (h : GrAt w B gb tb nt K mp m cnt) (x : Int) (hx : inB nt x = false) :
    Calls Try.prog 11 #[.pointer (some ⟨gb, 0, none⟩), .int .i64 x] w fun e w' => e = .returned (.slice none 0 0) ∧ w' = w := by
  have H1 := qhid (gthere_any h x)
  rw [hx] at H1
  clear h
  go_enter Try.func11, Try.ntmps11
  go_wp2_with fail
  refine H1.out.mono ?_
  rintro e w1 ⟨rfl, hw⟩
  obtain rfl : w = w1 := hw.symm
  go_wp2_with fail
  go_ret
  exact ⟨rfl, rfl⟩
theorem greach_nil (w : World) (x : Int) :
    Calls Try.prog 11 #[.pointer none, .int .i64 x] w fun e w' => e = .returned (.slice none 0 0) ∧ w' = w := by
  have H1 := qhid (gthere_nil w x)
  go_enter Try.func11, Try.ntmps11
  go_wp2_with fail
  refine H1.out.mono ?_
  rintro e w1 ⟨rfl, hw⟩
  obtain rfl : w = w1 := hw.symm
  go_wp2_with fail
  go_ret
  exact ⟨rfl, rfl⟩
theorem gring_nil {w : World} (x : Int) :
    Calls Try.prog 12 #[.pointer none, .int .i64 x] w fun e w' => e = .returned (.bool false) ∧ Below w.heap.size w w' := by
  obtain ⟨W1, hW1⟩ : ∃ X, X = (w.alloc (.cells #[.int .i64 (x : Int)] 3)).alloc (.cells #[.bool false] 4) := ⟨_, rfl⟩
  have b1 : Below w.heap.size w W1 := by rw [hW1]; exact below2 w _ _
  have x1 : Boxed W1 w.heap.size 3 (.int .i64 (x : Int)) := by rw [hW1]; exact (Boxed.new w 3 _).alloc _
  have r1 : Boxed W1 (w.heap.size + 1) 4 (.bool false) := by
    rw [hW1]
    have := Boxed.new (w.alloc (.cells #[.int .i64 (x : Int)] 3)) 4 (.bool false)
    rwa [World.size_alloc] at this
  have H1 := qhid (gthere_nil W1 x)
  have c1 := x1.cell
  have cr := r1.cell
  have fr := r1.frozen
  have HS : Hid (Boxed (W1.setCell ⟨w.heap.size + 1, 0, none⟩ (.bool false)) (w.heap.size + 1) 4 (.bool false)) := qhid (r1.set _)
  have HB : Hid (Below w.heap.size w (W1.setCell ⟨w.heap.size + 1, 0, none⟩ (.bool false))) := qhid (b1.setCell (p := ⟨w.heap.size + 1, 0, none⟩) (Nat.le_succ _) _)
  refine (callsIn_wide (n := 40)).1 ?_
  refine callsIn_of_wp_marks Try.func12 rfl trivial ?_ rfl
  simp only [Try.ntmps12, List.size_toArray, List.length_cons, List.length_nil, Nat.reduceAdd, Nat.reduceSub, Array.replicate_succ, Array.replicate_zero, List.push_toArray, List.append_toArray, List.nil_append, List.cons_append]
  have HW1 := qhid hW1
  clear hW1 b1 x1 r1
  gi_wp2_with fail
  rw [← HW1.out]
  refine ⟨trivial, ?_⟩
  refine (callsIn_wide.2 H1.out).mono ?_
  rintro e w1 ⟨rfl, hw⟩
  obtain rfl : W1 = w1 := hw.symm
  gi_wp2_with fail
  exact ⟨_, results_bool rfl _ _ (w.heap.size + 1) _ rfl HS.out.cell, rfl, HB.out⟩
theorem gring_bad {w : World} {B gb tb nt K : Nat} {mp : Nat → Option Nat} {m : Nat → Nat → Bool} {cnt : Nat} (h : GrAt w B gb tb nt K mp m cnt) (x : Int) (hx : inB nt x = false) :
    Calls Try.prog 12 #[.pointer (some ⟨gb, 0, none⟩), .int .i64 x] w fun e w' => e = .returned (.bool false) ∧ Below w.heap.size w w' := by
  obtain ⟨W1, hW1⟩ : ∃ X, X = (w.alloc (.cells #[.int .i64 (x : Int)] 3)).alloc (.cells #[.bool false] 4) := ⟨_, rfl⟩
  have b1 : Below w.heap.size w W1 := by rw [hW1]; exact below2 w _ _
  have x1 : Boxed W1 w.heap.size 3 (.int .i64 (x : Int)) := by rw [hW1]; exact (Boxed.new w 3 _).alloc _
  have r1 : Boxed W1 (w.heap.size + 1) 4 (.bool false) := by
    rw [hW1]
    have := Boxed.new (w.alloc (.cells #[.int .i64 (x : Int)] 3)) 4 (.bool false)
    rwa [World.size_alloc] at this
  have H1 := qhid (gthere_any (h.up b1) x)
  rw [hx] at H1
  clear h
  have c1 := x1.cell
  have cr := r1.cell
  have fr := r1.frozen
  have HS : Hid (Boxed (W1.setCell ⟨w.heap.size + 1, 0, none⟩ (.bool false)) (w.heap.size + 1) 4 (.bool false)) := qhid (r1.set _)
  have HB : Hid (Below w.heap.size w (W1.setCell ⟨w.heap.size + 1, 0, none⟩ (.bool false))) := qhid (b1.setCell (p := ⟨w.heap.size + 1, 0, none⟩) (Nat.le_succ _) _)
  refine (callsIn_wide (n := 40)).1 ?_
  refine callsIn_of_wp_marks Try.func12 rfl trivial ?_ rfl
  simp only [Try.ntmps12, List.size_toArray, List.length_cons, List.length_nil, Nat.reduceAdd, Nat.reduceSub, Array.replicate_succ, Array.replicate_zero, List.push_toArray, List.append_toArray, List.nil_append, List.cons_append]
  have HW1 := qhid hW1
  clear hW1 b1 x1 r1
  gi_wp2_with fail
  rw [← HW1.out]
  refine ⟨trivial, ?_⟩
  refine (callsIn_wide.2 H1.out).mono ?_
  rintro e w1 ⟨rfl, hw⟩
  obtain rfl : W1 = w1 := hw.symm
  gi_wp2_with fail
  exact ⟨_, results_bool rfl _ _ (w.heap.size + 1) _ rfl HS.out.cell, rfl, HB.out⟩
theorem gknots_nil (w : World) :
    Calls Try.prog 9 #[.pointer none] w fun e w' => e = .returned (.tuple #[.slice none 0 0, .int .i64 0]) ∧ w' = w := by
  go_enter Try.func9, Try.ntmps9
  go_wp2_with fail
  go_ret2
  exact ⟨rfl, rfl⟩
theorem load_i64 (W : World) (b : Nat) (v : Value) (hc : W.cell? ⟨b, 0, none⟩ = some v) : (loadVar 3 ⟨b, 0, none⟩).run Try.prog W = .ok v W := by
  simp [loadVar, go_sem, hc]
theorem results_ib {fn : Func} {p q : Tmp} (h : fn.results = #[.cell p 3, .cell q 4]) (tmps : Array Value) (W : World) (b c : Nat) (u v : Value) (hp : tmps.getD p undef = .pointer (some ⟨b, 0, none⟩)) (hq : tmps.getD q undef = .pointer (some ⟨c, 0, none⟩)) (hc : W.cell? ⟨b, 0, none⟩ = some u) (hd : W.cell? ⟨c, 0, none⟩ = some v) :
    (results fn tmps).run Try.prog W = .ok (.tuple #[u, v]) W := by
  have hp' : tmps[p]?.getD undef = .pointer (some ⟨b, 0, none⟩) := by simpa using hp
  have hq' : tmps[q]?.getD undef = .pointer (some ⟨c, 0, none⟩) := by simpa using hq
  simp [results, h, hp', hq', asAddr, load_i64 W b u hc, load_bool W c v hd]
theorem gmost_nil (w : World) (v : Value) :
    Calls Try.prog 15 #[.pointer none, v] w fun e w' => e = .returned (.tuple #[.int .i64 0, .bool false]) ∧ Below w.heap.size w w' := by
  obtain ⟨W1, hW1⟩ : ∃ X, X = (w.alloc (.cells #[.int .i64 0] 3)).alloc (.cells #[.bool false] 4) := ⟨_, rfl⟩
  have b1 : Below w.heap.size w W1 := by rw [hW1]; exact below2 w _ _
  have x1 : Boxed W1 w.heap.size 3 (.int .i64 0) := by rw [hW1]; exact (Boxed.new w 3 _).alloc _
  have r1 : Boxed W1 (w.heap.size + 1) 4 (.bool false) := by
    rw [hW1]
    have := Boxed.new (w.alloc (.cells #[.int .i64 0] 3)) 4 (.bool false)
    rwa [World.size_alloc] at this
  have H1 := qhid (And.intro b1 (And.intro x1 r1))
  have HW1 := qhid hW1
  clear b1 x1 r1 hW1
  refine (callsIn_wide (n := 40)).1 ?_
  refine callsIn_of_wp_marks Try.func15 rfl trivial ?_ rfl
  simp only [Try.ntmps15, List.size_toArray, List.length_cons, List.length_nil, Nat.reduceAdd, Nat.reduceSub, Array.replicate_succ, Array.replicate_zero, List.push_toArray, List.append_toArray, List.nil_append, List.cons_append]
  gi_wp2_with fail
  rw [← HW1.out]
  exact ⟨_, results_ib rfl _ _ w.heap.size (w.heap.size + 1) _ _ rfl rfl H1.out.2.1.cell H1.out.2.2.cell, rfl, H1.out.1⟩
end
end Go.Proofs.Ytghfodjefjijdaa
