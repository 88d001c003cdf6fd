/- How many bytes a set has. (A part of Makes0, for seats that don't import that.) Contracts of token's reader: a range's bytes; what is laid beside a reader. -/
import Derived.Test.YtenibhmjcafbiaaGreatDoorTzC
import Derived.Test.YtenibhmjcafbiaaGreatDoorMade
import Derived.Test.YtenibhmjcafbiaaGreatDoorTokP
import Derived.Test.YtenibhmjcafbiaaGreatDoorLaid
namespace Go.Proofs.YtenibhmjcafbiaaGreatDoor
section
open Go Go.RowKit
theorem bits_len (n x : Nat) : Pop.bitsum n x = ((List.range n).filter fun i => x.testBit i).length := by
  induction n generalizing x with
  | zero => simp [Pop.bitsum]
  | succ n ih =>
    rw [List.range_succ_eq_map, List.filter_cons]
    have h : ((List.map Nat.succ (List.range n)).filter fun i => x.testBit i).length = ((List.range n).filter fun i => (x / 2).testBit i).length := by
      rw [List.filter_map, List.length_map]
      congr 1
      apply List.filter_congr
      intro i _
      simp [Nat.testBit_succ]
    simp only [Pop.bitsum]
    rw [ih]
    by_cases hb : x % 2 = 1
    · have : x.testBit 0 = true := by simp [hb]
      rw [if_pos this, List.length_cons, h]; omega
    · have : x.testBit 0 = false := by simp; omega
      rw [if_neg (by simp [this]), h]; omega
theorem range_part (f : Nat → Bool) (q : Nat) : ((List.range (64 * (q + 1))).filter f).length = ((List.range (64 * q)).filter f).length + ((List.range 64).filter fun i => f (64 * q + i)).length := by
  rw [show 64 * (q + 1) = 64 * q + 64 by omega, List.range_add, List.filter_append, List.length_append]
  congr 1
  rw [List.filter_map, List.length_map]
  rfl
theorem pw_part {a : Int} (fa : Fit a) (f : Nat → Bool) (q : Nat) (h : ∀ i, i < 64 → f (64 * q + i) = (V a).getLsbD i) : (((List.range 64).filter fun i => f (64 * q + i)).length : Int) = pw a := by
  unfold pw
  rw [bits_len]
  congr 2
  apply List.filter_congr
  intro i hi
  rw [h i (List.mem_range.1 hi), V_testBit fa]
theorem pw_lst {a b c d : Int} (fa : Fit a) (fb : Fit b) (fc : Fit c) (fd : Fit d) : pw a + pw b + pw c + pw d = ((lst (memb a b c d) 256).length : Int) := by
  unfold lst
  rw [List.length_map]
  have e0 := range_part (memb a b c d) 0
  have e1 := range_part (memb a b c d) 1
  have e2 := range_part (memb a b c d) 2
  have e3 := range_part (memb a b c d) 3
  have p0 := pw_part fa (memb a b c d) 0 (fun i hi => by rw [at_word _ _ _ _ 0 i hi]; rfl)
  have p1 := pw_part fb (memb a b c d) 1 (fun i hi => by rw [at_word _ _ _ _ 1 i hi]; rfl)
  have p2 := pw_part fc (memb a b c d) 2 (fun i hi => by rw [at_word _ _ _ _ 2 i hi]; rfl)
  have p3 := pw_part fd (memb a b c d) 3 (fun i hi => by rw [at_word _ _ _ _ 3 i hi]; rfl)
  have z : ((List.range (64 * 0)).filter (memb a b c d)).length = 0 := by simp
  rw [show 64 * (3 + 1) = 256 from rfl] at e3
  simp only [Nat.reduceAdd] at e0 e1 e2 e3
  omega
end
section
open Go Go.RowKit
attribute [local go_sem ↓] Go.wp_at_zero Go.wp_at_succ
attribute [local go_sem] eq4
/-- A set's block. -/
abbrev setOb (t : W4) : Obj := .cells #[.int .u64 t.a, .int .u64 t.b, .int .u64 t.c, .int .u64 t.d] 34
abbrev setVal (t : W4) : Value := .agg #[.int .u64 t.a, .int .u64 t.b, .int .u64 t.c, .int .u64 t.d]
/-- What lies in another block than the reader's stays so. -/
theorem Rd.kept {w w' : World} {g k b : Nat} {s : ByteArray} {o : Obj} (hr : Rd w w' g s k) (h : w.heap[b]? = some o) (hne : b ≠ g) : w'.heap[b]? = some o := by
  rw [hr.2.block b (Reg.size_of_get h) (by intro e; exact hne (Option.some.inj e))]
  exact h
theorem below_kept {w w' : World} {b : Nat} {o : Obj} (hb : Below w.heap.size w w') (h : w.heap[b]? = some o) : w'.heap[b]? = some o := by
  rw [hb.block b (Reg.size_of_get h)]; exact h
theorem Tab.rd {w w' : World} {g k : Nat} {s : ByteArray} (h : Tab w) (hr : Rd w w' g s k) (hne : 0 ≠ g) : Tab w' :=
  fun j hj => hr.2.cell (h j hj) (by intro e; exact hne (Option.some.inj e))
theorem errS {c : Int} (h : c = 0 ∨ c = 4 ∨ c = 5 ∨ c = 6) : c = 0 ∨ (c ≠ 0 ∧ ((c : Int) == 0) = false ∧ ((c : Int) != 0) = true) := by
  rcases h with rfl | rfl | rfl | rfl
  · exact .inl rfl
  · exact .inr ⟨by decide, by decide, by decide⟩
  · exact .inr ⟨by decide, by decide, by decide⟩
  · exact .inr ⟨by decide, by decide, by decide⟩
theorem only_len {t : W4} {a : Nat} (h : onlyW t = some a) : (ones t).length = 1 := by rw [onlyW_some h]; rfl
/-- A set lies in a block of the call's own, which may be stored into. -/
structure OwnSet (w : World) (b : Nat) (t : W4) : Prop where
  at_ : w.cell? ⟨b, 0, none⟩ = some (.int .u64 t.a) ∧ w.cell? ⟨b, 1, none⟩ = some (.int .u64 t.b) ∧ w.cell? ⟨b, 2, none⟩ = some (.int .u64 t.c) ∧ w.cell? ⟨b, 3, none⟩ = some (.int .u64 t.d)
  free : w.frozen? ⟨b, 0, none⟩ = false ∧ w.frozen? ⟨b, 1, none⟩ = false ∧ w.frozen? ⟨b, 2, none⟩ = false ∧ w.frozen? ⟨b, 3, none⟩ = false
  lt : b < w.heap.size
theorem OwnSet.of {w : World} {b : Nat} {t : W4} (h : w.heap[b]? = some (setOb t)) : OwnSet w b t :=
  ⟨⟨Joins.cell_of_block h 0, Joins.cell_of_block h 1, Joins.cell_of_block h 2, Joins.cell_of_block h 3⟩, ⟨Joins.unfrozen_of_block h 0, Joins.unfrozen_of_block h 1, Joins.unfrozen_of_block h 2, Joins.unfrozen_of_block h 3⟩, Reg.size_of_get h⟩
theorem OwnSet.same {w w' : World} {b : Nat} {t : W4} (h : OwnSet w b t) (e : w'.heap[b]? = w.heap[b]?) (hs : w.heap.size ≤ w'.heap.size) : OwnSet w' b t := by
  have c : ∀ o, w'.cell? ⟨b, o, none⟩ = w.cell? ⟨b, o, none⟩ := fun o => World.cell?_of_block (w := w) (a := ⟨b, o, none⟩) e
  have f : ∀ o, w'.frozen? ⟨b, o, none⟩ = w.frozen? ⟨b, o, none⟩ := fun o => World.frozen?_of_block (w := w) (a := ⟨b, o, none⟩) e
  exact ⟨⟨(c 0).trans h.at_.1, (c 1).trans h.at_.2.1, (c 2).trans h.at_.2.2.1, (c 3).trans h.at_.2.2.2⟩, ⟨(f 0).trans h.free.1, (f 1).trans h.free.2.1, (f 2).trans h.free.2.2.1, (f 3).trans h.free.2.2.2⟩, Nat.lt_of_lt_of_le h.lt hs⟩
theorem OwnSet.below {w w' : World} {b : Nat} {t : W4} (h : OwnSet w b t) (hb : Below w.heap.size w w') : OwnSet w' b t := h.same (hb.block b h.lt) hb.size
theorem OwnSet.rd {w w' : World} {b g k : Nat} {s : ByteArray} {t : W4} (h : OwnSet w b t) (hr : Rd w w' g s k) (hne : b ≠ g) : OwnSet w' b t :=
  h.same (hr.2.block b h.lt (by intro e; exact hne (Option.some.inj e))) hr.2.size
theorem OwnSet.drewN {w : World} {b : Nat} {t : W4} (h : OwnSet w b t) (n : Nat) : OwnSet (w.drewN n) b t := ⟨h.at_, h.free, h.lt⟩
theorem OwnSet.other {w : World} {b b' : Nat} {t t' : W4} (h : OwnSet w b t) (hne : b ≠ b') : OwnSet (setPut w b' t') b t := by
  refine h.same ?_ (by simp [setPut, World.setCell])
  unfold setPut
  rw [Below.heap_setCell _ _ _ _ (by simpa using hne), Below.heap_setCell _ _ _ _ (by simpa using hne), Below.heap_setCell _ _ _ _ (by simpa using hne), Below.heap_setCell _ _ _ _ (by simpa using hne)]
theorem OwnSet.put {w : World} {b : Nat} {t : W4} (h : OwnSet w b t) (t' : W4) : OwnSet (setPut w b t') b t' := by
  obtain ⟨⟨z0, z1, z2, z3⟩, ⟨f0, f1, f2, f3⟩, lt⟩ := h
  refine ⟨⟨?_, ?_, ?_, ?_⟩, ⟨?_, ?_, ?_, ?_⟩, by simpa [setPut, World.setCell] using lt⟩ <;> simp [setPut, go_sem, *]
theorem tcnt_any (t : W4) (ht : t.fit) (w : World) :
    Calls Tryz.prog 33 #[setVal t] w fun e w' => e = .returned (.int .i64 ((ones t).length : Int)) ∧ Below w.heap.size w w' := by
  refine (count_any t.a t.b t.c t.d w ht.1 ht.2.1 ht.2.2.1 ht.2.2.2).mono fun e w' ⟨he, hb⟩ => ⟨?_, hb⟩
  rw [he, pw_lst ht.1 ht.2.1 ht.2.2.1 ht.2.2.2, ones_len]
theorem tfirst_any (t : W4) (ht : t.fit) (a : Nat) (ha : onlyW t = some a) (w : World) (hT : Tab w) :
    Calls Tryz.prog 34 #[setVal t] w fun e w' => e = .returned (.tuple #[.int .u8 (a : Int), .bool true]) ∧ Below w.heap.size w w' := by
  refine (first_any t.a t.b t.c t.d w ht.1 ht.2.1 ht.2.2.1 ht.2.2.2 hT).mono fun e w' ⟨v, he, hv, hb⟩ => ⟨?_, hb⟩
  obtain ⟨h1, h2, h3⟩ := only_mem ha
  rcases hv with ⟨hno, _⟩ | ⟨n, hn, hm, _, hv⟩
  · have := hno a h1
    rw [show memb t.a t.b t.c t.d a = true from h2] at this
    cases this
  · rw [he, hv, h3 n hn hm]
set_option maxHeartbeats 1000000 in
theorem tbetween_any (t u : W4) (ht : t.fit) (hu : u.fit) (a b : Nat) (ha : onlyW t = some a) (hb : onlyW u = some b) (w : World) (hT : Tab w) :
    Calls Tryz.prog 135 #[setVal t, setVal u] w fun e w' => e = .returned (setVal (rngW a b)) ∧ Below w.heap.size w w' := by
  have F1 := qhid (fun W (hW : Tab W) => tfirst_any t ht a ha W hW)
  have F2 := qhid (fun W (hW : Tab W) => tfirst_any u hu b hb W hW)
  have RG : Hid (∀ W, Calls Tryz.prog 72 #[.int .u8 (a : Int), .int .u8 (b : Int)] W fun e w' => e = .returned (setVal (rngW a b)) ∧ Below W.heap.size W w') := qhid (fun W => range_any a b (only_mem ha).1 (only_mem hb).1 W)
  have HT := qhid hT
  generalize rngW a b = r at *
  clear ha hb hT ht hu
  go_enter Tryz.func135, Tryz.ntmps135
  go_wp2_with fail
  refine (F1.out _ ((HT.out.alloc _).alloc _ |>.alloc _)).mono ?_
  rintro e w1 ⟨rfl, hb1⟩
  have HB1 := qhid (Below.trans (below3 _ _ _ _) (hb1.mono (by simp; omega)))
  have HT1 : Hid (Tab w1) := qhid ((((HT.out.alloc _).alloc _).alloc _).up hb1)
  have hK1 : Hid (w1.heap[w.heap.size + 1]? = some (setOb u) ∧ w1.heap[w.heap.size + 1 + 1]? = some setObj) := qhid ⟨below_kept hb1 (by
    rw [Below.heap_alloc _ _ _ (by simp)]
    have h := heap_new (w.alloc (setOb t)) (setOb u)
    rwa [World.size_alloc] at h), below_kept hb1 (by
    have h := heap_new ((w.alloc (setOb t)).alloc (setOb u)) setObj
    rwa [World.size_alloc, World.size_alloc] at h)⟩
  clear hb1
  obtain ⟨⟨z0, z1, z2, z3⟩, hz⟩ := set_of_block hK1.out.1
  go_wp2_with fail
  refine (F2.out _ HT1.out).mono ?_
  rintro e w2 ⟨rfl, hb2⟩
  have HB2 := qhid (HB1.out.trans (hb2.mono HB1.out.size))
  have hK2 := qhid (below_kept hb2 hK1.out.2)
  clear hb2 z0 z1 z2 z3 hz hK1 HT1
  go_wp2_with fail
  refine (RG.out _).mono ?_
  rintro e w3 ⟨rfl, hb3⟩
  have HB3 := qhid (HB2.out.trans (hb3.mono HB2.out.size))
  obtain ⟨⟨q0, q1, q2, q3⟩, ⟨f0, f1, f2, f3⟩, _hsz⟩ := set_cells (below_kept hb3 hK2.out)
  clear hb3 hK2
  go_wp2_with fail
  refine bodyPost_ret (v := setVal r) (by simp [results, Tryz.results135, go_sem, q0, q1, q2, q3]) rfl ⟨rfl, ?_⟩
  exact below_set4 HB3.out (by omega) _ _ _ _
end
end Go.Proofs.YtenibhmjcafbiaaGreatDoor
