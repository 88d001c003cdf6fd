/- Plain mathematics: going through a graph by near things first; how far things are. -/
import Derived.Test.YtghfodjefjijdaaGrB
namespace Go.Proofs.Ytghfodjefjijdaa
section
/-- So many arrows, one behind the other. -/
inductive Wk (E : Nat → Nat → Prop) : Nat → Nat → Nat → Prop
  | zero (u : Nat) : Wk E 0 u u
  | succ {k u v w : Nat} : Wk E k u v → E v w → Wk E (k + 1) u w
theorem Wk.rch {E : Nat → Nat → Prop} {k u v : Nat} (h : Wk E k u v) : Rch E u v := by
  induction h with
  | zero => exact .refl _
  | succ _ e ih => exact .tail ih e
theorem Rch.wk {E : Nat → Nat → Prop} {u v : Nat} (h : Rch E u v) : ∃ k, Wk E k u v := by
  induction h with
  | refl => exact ⟨0, .zero _⟩
  | tail _ e ih =>
    obtain ⟨k, hk⟩ := ih
    exact ⟨k + 1, .succ hk e⟩
/-- How many arrows are needed. -/
noncomputable def dst (E : Nat → Nat → Prop) (u v : Nat) : Nat := leastN (fun k => Wk E k u v)
theorem dst_wk {E : Nat → Nat → Prop} {u v : Nat} (h : Rch E u v) : Wk E (dst E u v) u v := (leastN_spec h.wk).1
theorem dst_le {E : Nat → Nat → Prop} {k u v : Nat} (h : Wk E k u v) : dst E u v ≤ k := (leastN_spec ⟨k, h⟩).2 k h
theorem dst_self (E : Nat → Nat → Prop) (u : Nat) : dst E u u = 0 := Nat.le_zero.1 (dst_le (.zero u))
theorem dst_zero {E : Nat → Nat → Prop} {u v : Nat} (h : Rch E u v) (h0 : dst E u v = 0) : u = v := by
  have := dst_wk h
  rw [h0] at this
  cases this
  rfl
theorem dst_step {E : Nat → Nat → Prop} {u v w : Nat} (h : Rch E u v) (e : E v w) : dst E u w ≤ dst E u v + 1 := dst_le (.succ (dst_wk h) e)
theorem dst_pred {E : Nat → Nat → Prop} {u w d : Nat} (h : Rch E u w) (hd : dst E u w = d + 1) : ∃ v, Rch E u v ∧ dst E u v = d ∧ E v w := by
  have h1 := dst_wk h
  rw [hd] at h1
  cases h1 with
  | succ h2 e =>
    refine ⟨_, h2.rch, ?_, e⟩
    have h3 := dst_le h2
    have h4 := dst_step h2.rch e
    omega
/-- The arrows that were gone along: of the first i things in line all, of the next one j. -/
def ar (E : Nat → List Nat) (l : List Nat) (i j : Nat) : List (Nat × Nat) := (l.take i).flatMap (fun u => (E u).map (Prod.mk u)) ++ ((E (l.getD i 0)).take j).map (Prod.mk (l.getD i 0))
/-- Near things first. -/
inductive Bf (E : Nat → List Nat) (n : Nat) : List Nat → Nat → Nat → Prop
  | start : Bf E n [n] 0 0
  | old {l : List Nat} {i j x : Nat} : Bf E n l i j → i < l.length → (E (l.getD i 0))[j]? = some x → x ∈ l → Bf E n l i (j + 1)
  | new {l : List Nat} {i j x : Nat} : Bf E n l i j → i < l.length → (E (l.getD i 0))[j]? = some x → x ∉ l → Bf E n (l ++ [x]) i (j + 1)
  | next {l : List Nat} {i j : Nat} : Bf E n l i j → i < l.length → (E (l.getD i 0)).length = j → Bf E n l (i + 1) 0
theorem getD_append {l : List Nat} {i x : Nat} (h : i < l.length) : (l ++ [x]).getD i 0 = l.getD i 0 := by
  simp [List.getD, List.getElem?_append_left h]
theorem getD_get {l : List Nat} {i : Nat} (h : i < l.length) : l.getD i 0 = l[i] := by
  simp [List.getD, List.getElem?_eq_getElem h]
theorem getD_mem {l : List Nat} {i : Nat} (h : i < l.length) : l.getD i 0 ∈ l := by
  rw [getD_get h]
  exact List.getElem_mem _
theorem ar_append {E : Nat → List Nat} {l : List Nat} {i j x : Nat} (h : i < l.length) : ar E (l ++ [x]) i j = ar E l i j := by
  unfold ar
  rw [getD_append h, List.take_append_of_le_length (by omega)]
theorem ar_step {E : Nat → List Nat} {l : List Nat} {i j x : Nat} (hx : (E (l.getD i 0))[j]? = some x) : ar E l i (j + 1) = ar E l i j ++ [(l.getD i 0, x)] := by
  unfold ar
  rw [List.append_assoc, List.take_add_one, hx]
  simp
theorem ar_next {E : Nat → List Nat} {l : List Nat} {i j : Nat} (h : i < l.length) (hj : (E (l.getD i 0)).length = j) : ar E l (i + 1) 0 = ar E l i j := by
  have e : l.take (i + 1) = l.take i ++ [l[i]] := by rw [List.take_add_one, List.getElem?_eq_getElem h]; rfl
  unfold ar
  rw [List.take_of_length_le (Nat.le_of_eq hj), getD_get h, e, List.flatMap_append, List.take_zero, List.map_nil, List.append_nil, List.flatMap_cons, List.flatMap_nil, List.append_nil]
/-- Those in line, as the arrows tell them. -/
def lineOf (n : Nat) (pre : List (Nat × Nat)) : List Nat := pre.foldl (fun l x => if x.2 ∈ l then l else l ++ [x.2]) [n]
theorem lineOf_snoc (n : Nat) (pre : List (Nat × Nat)) (x : Nat × Nat) : lineOf n (pre ++ [x]) = if x.2 ∈ lineOf n pre then lineOf n pre else lineOf n pre ++ [x.2] := by
  unfold lineOf
  rw [List.foldl_append]
  rfl
theorem Bf.line {E : Nat → List Nat} {n : Nat} {l : List Nat} {i j : Nat} (h : Bf E n l i j) : lineOf n (ar E l i j) = l := by
  induction h with
  | start => simp [ar, lineOf]
  | old h1 h2 h3 h4 ih => rw [ar_step h3, lineOf_snoc, ih, if_pos h4]
  | new h1 h2 h3 h4 ih =>
    rw [ar_append h2, ar_step h3, lineOf_snoc, ih, if_neg h4]
  | next h1 h2 h3 ih => rw [ar_next h2 h3, ih]
structure BfI (E : Nat → List Nat) (n : Nat) (l : List Nat) (i j : Nat) : Prop where
  le : i ≤ l.length
  nd : l.Nodup
  hd : l.getD 0 0 = n ∧ 0 < l.length
  rc : ∀ v ∈ l, Rch (fun u x => x ∈ E u) n v
  jl : i < l.length → j ≤ (E (l.getD i 0)).length
  cl : ∀ k, k < i → ∀ x ∈ E (l.getD k 0), x ∈ l
  cj : ∀ x ∈ (E (l.getD i 0)).take j, x ∈ l
  jz : i = l.length → j = 0
theorem Bf.inv {E : Nat → List Nat} {n : Nat} {l : List Nat} {i j : Nat} (h : Bf E n l i j) : BfI E n l i j := by
  induction h with
  | start =>
    exact ⟨by simp, by simp, by simp, fun v hv => by rw [List.mem_singleton.1 hv]; exact .refl _, fun _ => Nat.zero_le _, fun k hk => absurd hk (Nat.not_lt_zero _), fun x hx => by simp at hx, fun _ => rfl⟩
  | old h1 h2 h3 h4 ih =>
    refine ⟨ih.le, ih.nd, ih.hd, ih.rc, fun _ => ?_, ih.cl, fun x hx => ?_, fun e => by omega⟩
    · have := (List.getElem?_eq_some_iff.1 h3).1
      omega
    · rw [List.take_add_one, h3] at hx
      rcases List.mem_append.1 hx with hx | hx
      · exact ih.cj x hx
      · simp at hx
        rw [hx]
        exact h4
  | new h1 h2 h3 h4 ih =>
    rename_i l' i' j' x'
    refine ⟨by rw [List.length_append]; have := ih.le; omega, ?_, ?_, fun v hv => ?_, fun _ => ?_, fun k hk x hx => ?_, fun x hx => ?_, fun e => by rw [List.length_append] at e; simp at e; omega⟩
    · rw [List.nodup_append]
      exact ⟨ih.nd, by simp, fun a ha b hb e => h4 (by rw [List.mem_singleton.1 hb] at e; rw [← e]; exact ha)⟩
    · exact ⟨by rw [getD_append ih.hd.2]; exact ih.hd.1, by rw [List.length_append]; have := ih.hd.2; omega⟩
    · rcases List.mem_append.1 hv with hv | hv
      · exact ih.rc v hv
      · rw [List.mem_singleton.1 hv]
        exact .tail (ih.rc _ (getD_mem h2)) (List.mem_of_getElem? h3)
    · rw [getD_append h2]
      have := (List.getElem?_eq_some_iff.1 h3).1
      omega
    · rw [getD_append (by omega)] at hx
      exact List.mem_append_left _ (ih.cl k hk x hx)
    · rw [getD_append h2, List.take_add_one, h3] at hx
      rcases List.mem_append.1 hx with hx | hx
      · exact List.mem_append_left _ (ih.cj x hx)
      · simp at hx
        rw [hx]
        simp
  | next h1 h2 h3 ih =>
    refine ⟨h2, ih.nd, ih.hd, ih.rc, fun _ => Nat.zero_le _, fun k hk x hx => ?_, fun x hx => by simp at hx, fun _ => rfl⟩
    rcases Nat.lt_succ_iff_lt_or_eq.1 hk with hk | rfl
    · exact ih.cl k hk x hx
    · exact ih.cj x (by rw [← h3, List.take_length]; exact hx)
theorem BfI.mem0 {E : Nat → List Nat} {n : Nat} {l : List Nat} {i j : Nat} (h : BfI E n l i j) : n ∈ l := by
  rw [← h.hd.1]
  exact getD_mem h.hd.2
/-- When all are gone through, those in line are those that are reached. -/
theorem Bf.all {E : Nat → List Nat} {n : Nat} {l : List Nat} (h : Bf E n l l.length 0) (v : Nat) : v ∈ l ↔ Rch (fun u x => x ∈ E u) n v := by
  have hI := h.inv
  refine ⟨hI.rc v, fun hr => hr.keeps (Q := fun v => v ∈ l) (fun a b ha hab => ?_) hI.mem0⟩
  obtain ⟨k, hk, e⟩ := List.mem_iff_getElem.1 ha
  exact hI.cl k hk b (by rw [getD_get hk, e]; exact hab)
/-- The arrows that are handed on are arrows of things that are reached. -/
theorem Bf.arc {E : Nat → List Nat} {n : Nat} {l : List Nat} {i j : Nat} (h : Bf E n l i j) : ∀ x ∈ ar E l i j, x.1 ∈ l ∧ x.2 ∈ E x.1 := by
  have hI := h.inv
  intro x hx
  unfold ar at hx
  rcases List.mem_append.1 hx with hx | hx
  · obtain ⟨u, hu, hx⟩ := List.mem_flatMap.1 hx
    obtain ⟨y, hy, rfl⟩ := List.mem_map.1 hx
    exact ⟨List.mem_of_mem_take hu, hy⟩
  · obtain ⟨y, hy, rfl⟩ := List.mem_map.1 hx
    by_cases hi : i < l.length
    · exact ⟨getD_mem hi, List.mem_of_mem_take hy⟩
    · have := hI.jz (Nat.le_antisymm hI.le (Nat.le_of_not_lt hi))
      rw [this] at hy
      simp at hy
theorem Bf.arc_all {E : Nat → List Nat} {n : Nat} {l : List Nat} (h : Bf E n l l.length 0) (x y : Nat) : (x, y) ∈ ar E l l.length 0 ↔ Rch (fun u x => x ∈ E u) n x ∧ y ∈ E x := by
  constructor
  · intro hx
    obtain ⟨h1, h2⟩ := h.arc _ hx
    exact ⟨(h.all x).1 h1, h2⟩
  · rintro ⟨h1, h2⟩
    unfold ar
    refine List.mem_append_left _ (List.mem_flatMap.2 ⟨x, ?_, List.mem_map.2 ⟨y, h2, rfl⟩⟩)
    rw [List.take_length]
    exact (h.all x).2 h1
/-- Those in line stand by how far they are. -/
structure BfD (E : Nat → List Nat) (n : Nat) (l : List Nat) (i : Nat) : Prop where
  so : l.Pairwise (fun a b => dst (fun u x => x ∈ E u) n a ≤ dst (fun u x => x ∈ E u) n b)
  mo : i < l.length → ∀ v ∈ l, dst (fun u x => x ∈ E u) n v ≤ dst (fun u x => x ∈ E u) n (l.getD i 0) + 1
theorem BfD.full {E : Nat → List Nat} {n : Nat} {l : List Nat} {i j : Nat} (h : BfD E n l i) (hI : BfI E n l i j) (hi : i < l.length) : ∀ (d v : Nat), Rch (fun u x => x ∈ E u) n v → dst (fun u x => x ∈ E u) n v = d → d ≤ dst (fun u x => x ∈ E u) n (l.getD i 0) → v ∈ l := by
  intro d
  induction d with
  | zero =>
    intro v hr hd _
    rw [← dst_zero hr hd]
    exact hI.mem0
  | succ d ih =>
    intro v hr hd hle
    obtain ⟨p, hp, hdp, hpv⟩ := dst_pred hr hd
    obtain ⟨k, hk, e⟩ := List.mem_iff_getElem.1 (ih p hp hdp (by omega))
    have hki : k < i := by
      refine Nat.lt_of_not_le (fun hik => ?_)
      rcases Nat.lt_or_eq_of_le hik with hik | rfl
      · have := List.pairwise_iff_getElem.1 h.so i k hi hk hik
        rw [e, hdp] at this
        rw [getD_get hi] at hle
        omega
      · rw [getD_get hi, e, hdp] at hle
        omega
    exact hI.cl k hki v (by rw [getD_get hk, e]; exact hpv)
theorem BfD.new_dst {E : Nat → List Nat} {n : Nat} {l : List Nat} {i j x : Nat} (h : BfD E n l i) (hI : BfI E n l i j) (hi : i < l.length) (hx : (E (l.getD i 0))[j]? = some x) (hn : x ∉ l) : dst (fun u x => x ∈ E u) n x = dst (fun u x => x ∈ E u) n (l.getD i 0) + 1 := by
  have hr := hI.rc _ (getD_mem hi)
  have he : x ∈ E (l.getD i 0) := List.mem_of_getElem? hx
  have h1 := dst_step hr he
  have h2 : ¬ dst (fun u x => x ∈ E u) n x ≤ dst (fun u x => x ∈ E u) n (l.getD i 0) := fun hle => hn (h.full hI hi _ x (.tail hr he) rfl hle)
  omega
theorem Bf.dist {E : Nat → List Nat} {n : Nat} {l : List Nat} {i j : Nat} (h : Bf E n l i j) : BfD E n l i := by
  induction h with
  | start => exact ⟨by simp, fun _ v hv => by rw [List.mem_singleton.1 hv]; simp⟩
  | old h1 h2 h3 h4 ih => exact ih
  | new h1 h2 h3 h4 ih =>
    have hd := ih.new_dst h1.inv h2 h3 h4
    refine ⟨?_, fun _ v hv => ?_⟩
    · rw [List.pairwise_append]
      refine ⟨ih.so, by simp, fun a ha b hb => ?_⟩
      rw [List.mem_singleton.1 hb, hd]
      exact ih.mo h2 a ha
    · rw [getD_append h2]
      rcases List.mem_append.1 hv with hv | hv
      · exact ih.mo h2 v hv
      · rw [List.mem_singleton.1 hv, hd]
        exact Nat.le_refl _
  | next h1 h2 h3 ih =>
    refine ⟨ih.so, fun hi v hv => ?_⟩
    have h4 := ih.mo h2 v hv
    rename_i l' i' j'
    have h5 := List.pairwise_iff_getElem.1 ih.so i' (i' + 1) h2 hi (Nat.lt_succ_self _)
    rw [getD_get h2] at h4
    rw [getD_get hi]
    omega
/-- What may come behind these arrows. -/
def NextArc (E : Nat → List Nat) (n : Nat) (pre : List (Nat × Nat)) (x : Nat × Nat) : Prop :=
  ∃ l i j, Bf E n l i j ∧ i < l.length ∧ (E (l.getD i 0))[j]? = some x.2 ∧ x.1 = l.getD i 0 ∧ pre = ar E l i j
def AllArcs (E : Nat → List Nat) (n : Nat) (xs : List (Nat × Nat)) : Prop := ∃ l, Bf E n l l.length 0 ∧ xs = ar E l l.length 0
def SomeArcs (E : Nat → List Nat) (n : Nat) (pre : List (Nat × Nat)) : Prop := ∃ p x, NextArc E n p x ∧ pre = p ++ [x]
/-- The one ahead, of each thing in line. -/
structure ParOK (E : Nat → List Nat) (n : Nat) (par : Nat → Option Nat) (l : List Nat) : Prop where
  fst : par n = some n
  mem : ∀ y, par y ≠ none ↔ y ∈ l
  one : ∀ y x, par y = some x → y ≠ n → x ∈ l ∧ y ∈ E x ∧ dst (fun u x => x ∈ E u) n y = dst (fun u x => x ∈ E u) n x + 1
theorem ParOK.start (E : Nat → List Nat) (n : Nat) : ParOK E n (upd (fun _ => none) n (some n)) [n] := by
  refine ⟨upd_same _ _ _, fun y => ?_, fun y x e hy => ?_⟩
  · by_cases e : y = n
    · subst e
      simp [upd_same]
    · rw [upd_other _ _ e]
      simp [e]
  · rw [upd_other _ _ hy] at e
    cases e
theorem ParOK.step {E : Nat → List Nat} {n : Nat} {par : Nat → Option Nat} {pre : List (Nat × Nat)} {x : Nat × Nat} (h : ParOK E n par (lineOf n pre)) (hx : NextArc E n pre x) :
    ParOK E n (if par x.2 = none then upd par x.2 (some x.1) else par) (lineOf n (pre ++ [x])) := by
  obtain ⟨l, i, j, hb, hi, he, hu, rfl⟩ := hx
  rw [lineOf_snoc]
  rw [hb.line] at h ⊢
  have hI := hb.inv
  by_cases hm : x.2 ∈ l
  · rw [if_pos hm, if_neg ((h.mem _).2 hm)]
    exact h
  · have hp : par x.2 = none := Classical.byContradiction fun hp => hm ((h.mem _).1 hp)
    rw [if_neg hm, if_pos hp]
    have hd := hb.dist.new_dst hI hi he hm
    have hn : n ≠ x.2 := fun e => hm (e ▸ hI.mem0)
    refine ⟨by rw [upd_other _ _ hn]; exact h.fst, fun y => ?_, fun y z e hy => ?_⟩
    · by_cases e : y = x.2
      · rw [e, upd_same]; simp
      · rw [upd_other _ _ e, h.mem y]; simp [e]
    · by_cases e2 : y = x.2
      · rw [e2, upd_same] at e
        obtain rfl := Option.some.inj e
        rw [e2, hu]
        exact ⟨List.mem_append_left _ (getD_mem hi), List.mem_of_getElem? he, hd⟩
      · rw [upd_other _ _ e2] at e
        obtain ⟨h1, h2, h3⟩ := h.one y z e hy
        exact ⟨List.mem_append_left _ h1, h2, h3⟩
end
end Go.Proofs.Ytghfodjefjijdaa
