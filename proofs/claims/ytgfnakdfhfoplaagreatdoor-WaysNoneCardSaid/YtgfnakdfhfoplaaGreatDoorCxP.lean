/- A region whose order is drawn, on what is known: what its run tells of each operation. Generic over the program. -/
import Derived.Test.YtgfnakdfhfoplaaGreatDoorCxO
namespace Go.Proofs.YtgfnakdfhfoplaaGreatDoor.Cx
open Go
theorem T.mem_keys {α : Type} : ∀ (t : T α) (k : Nat), t.get k ≠ none → k ∈ t.keys
  | .e, k, h => absurd (T.get_e k) h
  | .n l v r, 0, h => by
    cases v with
    | none => exact absurd rfl h
    | some v => simp [T.keys]
  | .n l v r, k + 1, h => by
    simp only [T.get] at h
    simp only [T.keys, List.mem_append, List.mem_map]
    cases e : (k % 2 == 0) with
    | true =>
      rw [e] at h
      exact .inl (.inr ⟨k / 2, T.mem_keys l _ h, by simp at e; omega⟩)
    | false =>
      rw [e] at h
      exact .inr ⟨k / 2, T.mem_keys r _ h, by simp at e; omega⟩
theorem restr_get {α : Type} {h : T α} : ∀ {l : List Nat} {b : Nat} {o : α}, (restr h l).get b = some o → h.get b = some o ∧ b ∈ l
  | [], b, o, e => by rw [restr, T.get_e] at e; cases e
  | k :: l, b, o, e => by
    unfold restr at e
    split at e
    · rename_i o2 ho
      cases hk : Nat.blt k lim with
      | true =>
        rw [hk] at e
        simp only [cond] at e
        rw [T.get_set (by rwa [Nat.blt_eq] at hk)] at e
        split at e
        · subst_vars; injection e with e; subst e; exact ⟨ho, List.mem_cons_self⟩
        · have := restr_get e; exact ⟨this.1, List.mem_cons_of_mem _ this.2⟩
      | false => rw [hk] at e; have := restr_get e; exact ⟨this.1, List.mem_cons_of_mem _ this.2⟩
    · have := restr_get e; exact ⟨this.1, List.mem_cons_of_mem _ this.2⟩
theorem dels_get {b : Nat} : ∀ {ks : List Nat} {h : T AObj}, (∀ k ∈ ks, k < lim) → (ks.foldl (fun h b => h.del b) h).get b = if b ∈ ks then none else h.get b
  | [], h, _ => by simp
  | k :: ks, h, hk => by
    rw [List.foldl_cons, dels_get (fun j hj => hk j (List.mem_cons_of_mem _ hj)), T.get_del (hk k List.mem_cons_self)]
    by_cases h1 : b ∈ ks <;> by_cases h2 : b = k <;> simp [h1, h2]
theorem puts_get {b : Nat} {g : T AObj} : ∀ {ks : List Nat} {h : T AObj}, (∀ k ∈ ks, k < lim) → (ks.foldl (fun h b => h.put 50 b (g.get b)) h).get b = if b ∈ ks then g.get b else h.get b
  | [], h, _ => by simp
  | k :: ks, h, hk => by
    rw [List.foldl_cons, puts_get (fun j hj => hk j (List.mem_cons_of_mem _ hj))]
    by_cases h2 : b = k
    · subst h2
      rw [T.get_put_self _ _ _ _ (lim_ok (hk b List.mem_cons_self))]; simp
    · rw [T.get_put_ne _ _ _ _ _ h2]
      by_cases h1 : b ∈ ks <;> simp [h1, h2]
theorem delRange_get {b k : Nat} : ∀ {n : Nat} {h : T AObj}, k + n ≤ lim → (delRange h k n).get b = if k ≤ b ∧ b < k + n then none else h.get b
  | 0, h, _ => by rw [delRange, if_neg (by omega)]
  | n + 1, h, hl => by
    rw [delRange, delRange_get (by omega), T.get_del (by omega)]
    by_cases h1 : k ≤ b ∧ b < k + n
    · rw [if_pos h1, if_pos (by omega)]
    · rw [if_neg h1]
      by_cases h2 : b = k + n
      · rw [if_pos h2, if_pos (by omega)]
      · rw [if_neg h2, if_neg (by omega)]
theorem layRange_get {b k : Nat} {g : T AObj} : ∀ {n : Nat} {h : T AObj}, k + n ≤ lim → (layRange h g k n).get b = if k ≤ b ∧ b < k + n then g.get b else h.get b
  | 0, h, _ => by rw [layRange, if_neg (by omega)]
  | n + 1, h, hl => by
    rw [layRange, layRange_get (by omega)]
    by_cases h1 : k ≤ b ∧ b < k + n
    · rw [if_pos h1, if_pos (by omega)]
    · rw [if_neg h1]
      by_cases h2 : b = k + n
      · subst h2; rw [T.get_put_self _ _ _ _ (lim_ok (by omega)), if_pos (by omega)]
      · rw [T.get_put_ne _ _ _ _ _ h2, if_neg (by omega)]
theorem touch_iff {r : Rc} {b : Nat} : touch r b = true ↔ r.post.wr.get b ≠ none ∨ (r.n0 ≤ b ∧ b < r.post.next) := by
  unfold touch
  rw [Bool.or_eq_true, Bool.and_eq_true, Nat.ble_eq, Nat.blt_eq]
  cases r.post.wr.get b <;> simp
theorem touch_not {r : Rc} {b : Nat} : touch r b = false ↔ r.post.wr.get b = none ∧ ¬ (r.n0 ≤ b ∧ b < r.post.next) := by
  rw [← Bool.not_eq_true, touch_iff]
  cases r.post.wr.get b <;> simp
theorem keys_iff {t : T Unit} {b : Nat} (hk : ∀ k ∈ t.keys, t.get k ≠ none) : b ∈ t.keys ↔ t.get b ≠ none := ⟨hk b, T.mem_keys t b⟩
theorem T.keys_get {α : Type} : ∀ (t : T α) (k : Nat), k ∈ t.keys → t.get k ≠ none
  | .e, k, h => by simp [T.keys] at h
  | .n l v r, k, h => by
    simp only [T.keys, List.mem_append, List.mem_map] at h
    rcases h with (h | ⟨j, h1, h2⟩) | ⟨j, h1, h2⟩
    · cases v with
      | none => cases h
      | some v => simp at h; subst h; simp [T.get]
    · subst h2
      simp only [T.get]
      have : ((2 * j) % 2 == 0) = true := by simp
      rw [this]
      have e : 2 * j / 2 = j := by omega
      simp only [cond, e]
      exact T.keys_get l j h1
    · subst h2
      simp only [T.get]
      have : ((2 * j + 1) % 2 == 0) = false := by simp
      rw [this]
      have e : (2 * j + 1) / 2 = j := by omega
      simp only [cond, e]
      exact T.keys_get r j h1
section
variable {r : Rc} {h : T AObj} {b : Nat}
theorem hide_get (hl : r.post.next < lim) (h01 : r.n0 ≤ r.post.next) (hk : ∀ b, r.post.wr.get b ≠ none → b < r.post.next) : (hide h r).get b = if touch r b then none else h.get b := by
  unfold hide
  rw [delRange_get (by omega), dels_get fun k hm => Nat.lt_trans (hk k (T.keys_get _ _ hm)) hl]
  by_cases ht : touch r b = true
  · rw [if_pos ht]
    rcases touch_iff.1 ht with h1 | h1
    · rw [if_pos (T.mem_keys _ _ h1)]; split <;> rfl
    · rw [if_pos (by omega)]
  · rw [if_neg ht]
    rw [Bool.not_eq_true, touch_not] at ht
    rw [if_neg (by omega), if_neg fun hm => T.keys_get _ _ hm ht.1]
theorem cover_get (hl : r.post.next < lim) (h01 : r.n0 ≤ r.post.next) (hk : ∀ b, r.post.wr.get b ≠ none → b < r.post.next) : (cover h r).get b = if touch r b then r.post.heap.get b else h.get b := by
  unfold cover
  rw [layRange_get (by omega), puts_get fun k hm => Nat.lt_trans (hk k (T.keys_get _ _ hm)) hl]
  by_cases ht : touch r b = true
  · rw [if_pos ht]
    rcases touch_iff.1 ht with h1 | h1
    · rw [if_pos (T.mem_keys _ _ h1)]; split <;> rfl
    · rw [if_pos (by omega)]
  · rw [if_neg ht]
    rw [Bool.not_eq_true, touch_not] at ht
    rw [if_neg (by omega), if_neg fun hm => T.keys_get _ _ hm ht.1]
end
/-- Of two operations of which neither waits for the other one, the later one and the earlier one. -/
structure Ap (q p : Rc) : Prop where
  w1 : ∀ b, q.post.wr.get b ≠ none → touch p b = false ∧ p.view.get b = none
  w2 : ∀ b, p.post.wr.get b ≠ none → touch q b = false
  d1 : ∀ d, p.o.dst = some d → d ∉ q.ns ∧ q.o.dst ≠ some d
  d2 : ∀ d, q.o.dst = some d → d ∉ p.ns
theorem apart_ok {q p : Rc} (h : apart q p = true) : Ap q p := by
  unfold apart at h
  rw [Bool.and_eq_true, Bool.and_eq_true, Bool.and_eq_true, List.all_eq_true, List.all_eq_true] at h
  obtain ⟨h1, h2, h3, h4⟩ := h
  refine ⟨fun b hb => ?_, fun b hb => ?_, fun d hd => ?_, fun d hd => ?_⟩
  · have := h1 b (T.mem_keys _ _ hb)
    rw [Bool.and_eq_true, Bool.not_eq_true'] at this
    refine ⟨this.1, ?_⟩
    cases e : p.view.get b with
    | none => rfl
    | some x => rw [e] at this; cases this.2
  · have := h2 b (T.mem_keys _ _ hb)
    rwa [Bool.not_eq_true'] at this
  · rw [hd] at h3
    dsimp only at h3
    rw [Bool.and_eq_true, Bool.not_eq_true'] at h3
    refine ⟨fun hm => (by have h5 := h3.1; rw [List.elem_eq_true_of_mem hm] at h5; cases h5), fun he => ?_⟩
    rw [he] at h3; dsimp only at h3; rw [Nat.beq_refl] at h3; cases h3.2
  · rw [hd] at h4
    dsimp only at h4
    rw [Bool.not_eq_true'] at h4
    exact fun hm => by rw [List.elem_eq_true_of_mem hm] at h4; cases h4
structure Good (P : Program) (F : T (Option FI)) (ih : Rec) (ops : Array Oper) (r : Rc) (l : List Rc) (a : Fr) (h : T AObj) (nx : Nat) : Prop where
  i : r.i = l.length
  get : ops[r.i]? = some r.o
  n0 : r.n0 = nx
  n1 : r.n0 ≤ r.post.next
  lt : r.post.next < lim
  wk : ∀ b, r.post.wr.get b ≠ none → b < r.post.next
  back : ∀ e ∈ r.o.after, Region.binds .any e = true → e.on < r.i
  mb : ∀ k, r.mask.testBit k = true → ∃ e ∈ r.o.after, Region.binds .any e = true ∧ (e.on = k ∨ ∃ p ∈ l, p.i = e.on ∧ p.mask.testBit k = true)
  ft : ∀ t v, r.a.t.get t = some v → a.t.get t = some v ∧ t ∈ r.ns
  fn : r.a.n = a.n
  fm : r.a.marks = a.marks
  pd : ∀ d, r.o.dst = some d → d < a.n
  vw : ∀ b o, r.view.get b = some o → h.get b = some o ∧ ∀ p ∈ l, r.mask.testBit p.i = false → touch p b = false
  ap : ∀ p ∈ l, r.mask.testBit p.i = false → Ap r p
  run : (awant ops r.a r.o = some true ∧ runOp P F ih r.o r.a { heap := r.view, next := r.n0, wr := .e } = some (r.v, r.post)) ∨
    (awant ops r.a r.o = some false ∧ r.v = undef ∧ r.post = { heap := r.view, next := r.n0, wr := .e })
inductive Tr (P : Program) (F : T (Option FI)) (ih : Rec) (ops : Array Oper) (a0 : Fr) (h0 : T AObj) (N0 : Nat) : List Rc → Fr → T AObj → Nat → Prop where
  | nil : Tr P F ih ops a0 h0 N0 [] a0 h0 N0
  | cons {l : List Rc} {a a' : Fr} {h : T AObj} {nx : Nat} {r : Rc} (t : Tr P F ih ops a0 h0 N0 l a h nx) (g : Good P F ih ops r l a h nx) (hp : a.put r.o.dst r.v = some a') :
      Tr P F ih ops a0 h0 N0 (r :: l) a' (cover h r) r.post.next
section
variable {P : Program} {F : T (Option FI)} {ih : Rec} {ops : Array Oper} {a0 a : Fr} {h0 h : T AObj} {N0 nx : Nat} {l : List Rc} {r : Rc}
theorem look_bit {k j : Nat} : ∀ {l : List Rc}, (look k l).testBit j = true → ∃ p ∈ l, p.i = k ∧ p.mask.testBit j = true
  | [], h => by simp [look] at h
  | r :: l, h => by
    unfold look at h
    cases e : Nat.beq r.i k with
    | true => rw [e] at h; exact ⟨r, List.mem_cons_self, Nat.eq_of_beq_eq_true e, h⟩
    | false => rw [e] at h; obtain ⟨p, h1, h2⟩ := look_bit h; exact ⟨p, List.mem_cons_of_mem _ h1, h2⟩
theorem mask_bit {k : Nat} : ∀ {es : List Edge}, (maskOf l es).testBit k = true → ∃ e ∈ es, Region.binds .any e = true ∧ (e.on = k ∨ ∃ p ∈ l, p.i = e.on ∧ p.mask.testBit k = true)
  | [], h => by simp [maskOf] at h
  | e :: es, h => by
    unfold maskOf at h
    cases hb : Region.binds .any e with
    | true =>
      rw [hb] at h
      simp only [cond, Nat.testBit_or, Bool.or_eq_true, Nat.testBit_two_pow, decide_eq_true_eq] at h
      rcases h with (h | h) | h
      · exact ⟨e, List.mem_cons_self, hb, .inl h⟩
      · exact ⟨e, List.mem_cons_self, hb, .inr (look_bit h)⟩
      · obtain ⟨e2, h1, h2⟩ := mask_bit h; exact ⟨e2, List.mem_cons_of_mem _ h1, h2⟩
    | false => rw [hb] at h; obtain ⟨e2, h1, h2⟩ := mask_bit h; exact ⟨e2, List.mem_cons_of_mem _ h1, h2⟩
theorem put_n {a a' : Fr} {d : Option Tmp} {v : Value} (hp : a.put d v = some a') : a'.n = a.n ∧ a'.marks = a.marks := by
  unfold Fr.put at hp
  cases d with
  | none => injection hp with hp; subst hp; exact ⟨rfl, rfl⟩
  | some d =>
    dsimp only at hp
    cases hc : (Nat.blt d a.n && Nat.blt d lim) with
    | false => rw [hc] at hp; cases hp
    | true => rw [hc] at hp; injection hp with hp; subst hp; exact ⟨rfl, rfl⟩
theorem Tr.each (t : Tr P F ih ops a0 h0 N0 l a h nx) : N0 ≤ nx ∧ a.n = a0.n ∧ a.marks = a0.marks ∧
    ∀ p ∈ l, N0 ≤ p.n0 ∧ p.n0 ≤ p.post.next ∧ p.post.next ≤ nx ∧ p.post.next < lim ∧ (∀ b, p.post.wr.get b ≠ none → b < p.post.next) ∧ p.i < l.length ∧ ops[p.i]? = some p.o := by
  induction t with
  | nil => exact ⟨Nat.le_refl _, rfl, rfl, fun p hp => absurd hp (by simp)⟩
  | cons t g hp ih =>
    obtain ⟨i1, i2, i3, i4⟩ := ih
    have h1 := g.n0
    have h2 := g.n1
    have hn := put_n hp
    refine ⟨by omega, hn.1.trans i2, hn.2.trans i3, fun p hm => ?_⟩
    rcases List.mem_cons.1 hm with rfl | hm
    · exact ⟨by omega, h2, Nat.le_refl _, g.lt, g.wk, by rw [g.i]; exact Nat.lt_succ_self _, g.get⟩
    · obtain ⟨j1, j2, j3, j4, j5, j6, j7⟩ := i4 p hm
      exact ⟨j1, j2, by omega, j4, j5, Nat.lt_succ_of_lt j6, j7⟩
theorem put_lt {a a' : Fr} {d : Tmp} {v : Value} (hp : a.put (some d) v = some a') : d < a.n ∧ d < lim ∧ a'.t = a.t.set d v := by
  unfold Fr.put at hp
  dsimp only at hp
  cases hc : (Nat.blt d a.n && Nat.blt d lim) with
  | false => rw [hc] at hp; cases hp
  | true =>
    rw [hc] at hp; injection hp with hp; subst hp
    rw [Bool.and_eq_true, Nat.blt_eq, Nat.blt_eq] at hc
    exact ⟨hc.1, hc.2, rfl⟩
theorem hides_get {b : Nat} {o : AObj} : ∀ {un : List Rc} {h : T AObj}, (∀ p ∈ un, p.n0 ≤ p.post.next ∧ p.post.next < lim ∧ ∀ b, p.post.wr.get b ≠ none → b < p.post.next) → (un.foldl hide h).get b = some o →
    h.get b = some o ∧ ∀ p ∈ un, touch p b = false
  | [], h, _, e => ⟨e, fun p hp => absurd hp (by simp)⟩
  | p :: un, h, hu, e => by
    rw [List.foldl_cons] at e
    obtain ⟨h1, h2⟩ := hides_get (fun q hq => hu q (List.mem_cons_of_mem _ hq)) e
    obtain ⟨u1, u2, u3⟩ := hu p List.mem_cons_self
    rw [hide_get u2 u1 u3] at h1
    split at h1
    · cases h1
    · rename_i ht
      rw [Bool.not_eq_true] at ht
      refine ⟨h1, fun q hq => ?_⟩
      rcases List.mem_cons.1 hq with rfl | hq
      · exact ht
      · exact h2 q hq
theorem mem_un {mask : Nat} {p : Rc} : p ∈ unOf mask l ↔ p ∈ l ∧ mask.testBit p.i = false := by
  unfold unOf
  rw [List.mem_filter, Bool.not_eq_true']
theorem mk_good {o : Oper} {i : Nat} (t : Tr P F ih ops a0 h0 N0 l a h nx) (hi : i = l.length) (ho : ops[i]? = some o) (hm : mkRc P F ih ops o i a h nx l = some r) (hc : checkRc r l = true) {a' : Fr} (hp : a.put o.dst r.v = some a') : r.o = o ∧ Good P F ih ops r l a h nx := by
  unfold checkRc at hc
  rw [Bool.and_eq_true, Bool.and_eq_true, Bool.and_eq_true, Bool.and_eq_true, Nat.ble_eq, Nat.blt_eq, List.all_eq_true, List.all_eq_true, List.all_eq_true] at hc
  obtain ⟨c1, c2, c3, c4, c5⟩ := hc
  have hpd : ∀ d, o.dst = some d → d < a.n := fun d hd => by rw [hd] at hp; exact (put_lt hp).1
  have hc3 : ∀ b, r.post.wr.get b ≠ none → b < r.post.next := fun b hb => by have := c3 b (T.mem_keys _ _ hb); rwa [Nat.blt_eq] at this
  unfold mkRc at hm
  dsimp only at hm
  split at hm
  · rename_i hw
    generalize hids : (bif wide o.op || !reads o.op then [] else _ : List Nat) = ids at hm
    cases hn : noTouch ids (unOf (maskOf l o.after.toList) l) with
    | false => rw [hn] at hm; cases hm
    | true =>
    rw [hn] at hm
    simp only [cond] at hm
    split at hm
    · rename_i v s hrun
      injection hm with hm; subst hm
      refine ⟨rfl, hi, ho, rfl, c1, c2, hc3, fun e he hb => ?_, fun k hk => ?_, fun t v e => restr_get e, rfl, rfl, hpd, fun b o2 e => ?_, fun p hp hk => apart_ok (c4 p (mem_un.2 ⟨hp, hk⟩)), .inl ⟨hw, hrun⟩⟩
      · have := c5 e (Array.mem_toList_iff.2 he); rw [hb] at this; simpa using this
      · obtain ⟨e, h1, h2⟩ := mask_bit hk; exact ⟨e, Array.mem_toList_iff.1 h1, h2⟩
      · dsimp only at e
        cases hwd : wide o.op with
        | true =>
          rw [hwd] at e
          obtain ⟨e1, e2⟩ := hides_get (fun p hp => let ⟨_, k2, _, k4, k5, _⟩ := t.each.2.2.2 p (mem_un.1 hp).1; ⟨k2, k4, k5⟩) e
          exact ⟨e1, fun p hp hk => e2 p (mem_un.2 ⟨hp, hk⟩)⟩
        | false =>
          rw [hwd] at e
          obtain ⟨e1, e2⟩ := restr_get e
          refine ⟨e1, fun p hp hk => ?_⟩
          unfold noTouch at hn
          rw [List.all_eq_true] at hn
          have := hn b e2
          rw [List.all_eq_true] at this
          have := this p (mem_un.2 ⟨hp, hk⟩)
          rwa [Bool.not_eq_true'] at this
    · cases hm
  · rename_i hw
    injection hm with hm; subst hm
    refine ⟨rfl, hi, ho, rfl, c1, c2, hc3, fun e he hb => ?_, fun k hk => ?_, fun t v e => restr_get e, rfl, rfl, hpd, fun b o e => ?_, fun p hp hk => apart_ok (c4 p (mem_un.2 ⟨hp, hk⟩)), .inr ⟨hw, rfl, rfl⟩⟩
    · have := c5 e (Array.mem_toList_iff.2 he); rw [hb] at this; simpa using this
    · obtain ⟨e, h1, h2⟩ := mask_bit hk; exact ⟨e, Array.mem_toList_iff.1 h1, h2⟩
    · dsimp only at e; rw [T.get_e] at e; cases e
  · cases hm
end
end Go.Proofs.YtgfnakdfhfoplaaGreatDoor.Cx
