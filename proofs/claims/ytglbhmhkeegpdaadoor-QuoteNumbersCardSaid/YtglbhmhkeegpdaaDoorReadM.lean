/- Plain mathematics: how a word is read, byte by byte, and how the reference looks for it. -/
import Derived.Test.YtglbhmhkeegpdaaDoorQuoteD
namespace Go.Proofs.YtglbhmhkeegpdaaDoor
open Go Go.RowKit
def hx (b : Nat) : Option Nat := if 48 ≤ b ∧ b ≤ 57 then some (b - 48) else if 97 ≤ b ∧ b ≤ 102 then some (b - 87) else none
def dg (may : Nat → Bool) (o : Option Nat) : Option Nat := (o.bind hx).filter may
def tk (may : Nat → Bool) (o : Option Nat) : Option Nat := o.filter may
def highOk (v : Nat) : Bool := hidd (16 * v) || hidd (16 * v + 15)
def shownB (b : Nat) : Bool := !hidd b
def escB (b : Nat) : Bool := b == 92 || b == 120
/-- The two digits of a hidden byte, and where that ends. -/
def pairF (l : List Nat) (k : Nat) : Option Nat × Nat :=
  match dg highOk l[k]? with
  | none => (none, k)
  | some h => match dg (fun v => hidd (16 * h + v)) l[k + 1]? with
    | none => (none, k + 1)
    | some v => (some (16 * h + v), k + 2)
/-- What tells one byte, and where that ends. -/
def oneF (l : List Nat) (k : Nat) : Option Nat × Nat :=
  match tk shownB l[k]? with
  | none => (none, k)
  | some b => if b = 92 then (match tk escB l[k + 1]? with
      | none => (none, k + 1)
      | some c => if c = 92 then (some 92, k + 2) else pairF l (k + 2))
    else (some b, k + 1)
def dn (n : Nat) : Nat := if n < 10 then 48 + n else 87 + n
/-- The word of a byte, as natural numbers. -/
def qn (b : Nat) : List Nat := if b < 33 ∨ 126 < b then [92, 120, dn (b / 16), dn (b % 16)] else if b = 92 then [92, 92] else [b]
theorem hidd_iff (b : Nat) : hidd b = true ↔ (b < 33 ∨ 126 < b) := by unfold hidd; exact decide_eq_true_iff
theorem hx_some {c h : Nat} (e : hx c = some h) : c = dn h ∧ h < 16 := by
  unfold hx at e
  split at e
  · have := Option.some.inj e; unfold dn; split <;> omega
  · split at e
    · have := Option.some.inj e; unfold dn; split <;> omega
    · cases e
theorem hx_dn {h : Nat} (e : h < 16) : hx (dn h) = some h := by
  have hall : ∀ n : Fin 16, hx (dn n.val) = some n.val := by decide +kernel
  exact hall ⟨h, e⟩
theorem dg_some {may : Nat → Bool} {o : Option Nat} {h : Nat} (e : dg may o = some h) : ∃ c, o = some c ∧ hx c = some h ∧ may h = true := by
  unfold dg at e
  rw [Option.filter_eq_some_iff] at e
  obtain ⟨e1, e2⟩ := e
  obtain ⟨c, hc, hd⟩ := Option.bind_eq_some_iff.1 e1
  exact ⟨c, hc, hd, e2⟩
theorem dg_mk {may : Nat → Bool} {o : Option Nat} {h c : Nat} (e1 : o = some c) (e2 : hx c = some h) (e3 : may h = true) : dg may o = some h := by
  subst e1
  unfold dg
  rw [Option.bind_some, e2, Option.filter_eq_some_iff]
  exact ⟨rfl, e3⟩
theorem tk_some {may : Nat → Bool} {o : Option Nat} {h : Nat} (e : tk may o = some h) : o = some h ∧ may h = true := Option.filter_eq_some_iff.1 e
theorem tk_mk {may : Nat → Bool} {o : Option Nat} {h : Nat} (e1 : o = some h) (e2 : may h = true) : tk may o = some h := Option.filter_eq_some_iff.2 ⟨e1, e2⟩
/-- A list and a word agree at a place. -/
def Agree (a d : List Nat) (i : Nat) : Prop := ∃ x, a[i]? = some x ∧ d[i]? = some x
def lcp : List Nat → List Nat → Nat
  | x :: xs, y :: ys => if x = y then lcp xs ys + 1 else 0
  | _, _ => 0
theorem le_lcp (a : List Nat) : ∀ (d : List Nat) (m : Nat), m ≤ lcp a d ↔ ∀ i, i < m → Agree a d i := by
  induction a with
  | nil =>
    intro d m
    constructor
    · intro h i hi; simp [lcp] at h; omega
    · intro h
      by_cases hm : m = 0
      · omega
      · obtain ⟨x, h1, _⟩ := h 0 (by omega)
        simp at h1
  | cons x xs ih =>
    intro d m
    match d with
    | [] =>
      constructor
      · intro h i hi; simp [lcp] at h; omega
      · intro h
        by_cases hm : m = 0
        · omega
        · obtain ⟨x, _, h1⟩ := h 0 (by omega)
          simp at h1
    | y :: ys =>
      by_cases e : x = y
      · subst e
        have e1 : lcp (x :: xs) (x :: ys) = lcp xs ys + 1 := by simp [lcp]
        rw [e1]
        constructor
        · intro h i hi
          match i, hi with
          | 0, _ => exact ⟨x, rfl, rfl⟩
          | i + 1, hi => 
            obtain ⟨z, h1, h2⟩ := (ih ys (m - 1)).1 (by omega) i (by omega)
            exact ⟨z, by simpa using h1, by simpa using h2⟩
        · intro h
          have := (ih ys (m - 1)).2 (fun i hi => by
            obtain ⟨z, h1, h2⟩ := h (i + 1) (by omega)
            exact ⟨z, by simpa using h1, by simpa using h2⟩)
          omega
      · have e1 : lcp (x :: xs) (y :: ys) = 0 := by simp [lcp, e]
        rw [e1]
        constructor
        · intro h i hi; omega
        · intro h
          by_cases hm : m = 0
          · omega
          · obtain ⟨z, h1, h2⟩ := h 0 (by omega)
            simp at h1 h2
            exact absurd (h1.trans h2.symm) e
theorem lcp_eq {a d : List Nat} {n : Nat} (h : ∀ i, i < n → Agree a d i) (h2 : ¬ Agree a d n) : lcp a d = n := by
  have h3 := (le_lcp a d n).2 h
  have h4 : ¬ n + 1 ≤ lcp a d := fun x => h2 ((le_lcp a d (n + 1)).1 x n (by omega))
  omega
theorem drop_two {l : List Nat} {k x : Nat} (h : l[k]? = some x) : l.drop k = x :: l.drop (k + 1) := by
  obtain ⟨hk, rfl⟩ := List.getElem?_eq_some_iff.1 h
  exact List.drop_eq_getElem_cons hk
theorem pair_sound {l : List Nat} {k b k' : Nat} (h : pairF l k = (some b, k')) : b < 256 ∧ k' = k + 2 ∧ hidd b = true ∧ l.drop k = [dn (b / 16), dn (b % 16)] ++ l.drop k' := by
  unfold pairF at h
  split at h
  · cases h
  · rename_i x hx1
    split at h
    · cases h
    · rename_i y hy1
      injection h with h1 h2
      injection h1 with h1
      obtain ⟨c, hc1, hc2, hc3⟩ := dg_some hx1
      obtain ⟨e, he1, he2, he3⟩ := dg_some hy1
      obtain ⟨hc4, hc5⟩ := hx_some hc2
      obtain ⟨he4, he5⟩ := hx_some he2
      have q1 : b / 16 = x := by omega
      have q2 : b % 16 = y := by omega
      rw [q1, q2, drop_two hc1, drop_two he1, ← h2, hc4, he4]
      refine ⟨by omega, rfl, ?_, rfl⟩
      rw [← h1]; exact he3
theorem one_sound {l : List Nat} {k b k' : Nat} (h : oneF l k = (some b, k')) : b < 256 ∧ k' = k + (qn b).length ∧ l.drop k = qn b ++ l.drop k' := by
  unfold oneF at h
  split at h
  · cases h
  · rename_i x hx1
    obtain ⟨hx2, hx3⟩ := tk_some hx1
    have hx4 : ¬ (x < 33 ∨ 126 < x) := by
      rw [← hidd_iff]; unfold shownB at hx3; simpa using hx3
    split at h
    · rename_i h92
      split at h
      · cases h
      · rename_i y hy1
        obtain ⟨hy2, hy3⟩ := tk_some hy1
        split at h
        · rename_i hy92
          injection h with h1 h2
          injection h1 with h1
          subst h1
          rw [drop_two hx2, drop_two hy2, h92, hy92, ← h2]
          exact ⟨by omega, rfl, rfl⟩
        · rename_i hy92
          obtain ⟨p1, p2, p3, p4⟩ := pair_sound h
          have e120 : y = 120 := by
            unfold escB at hy3; simp at hy3; omega
          have eq : qn b = [92, 120, dn (b / 16), dn (b % 16)] := by unfold qn; rw [if_pos ((hidd_iff b).1 p3)]
          rw [drop_two hx2, drop_two hy2, h92, e120, eq, p4]
          exact ⟨p1, p2, rfl⟩
    · rename_i h92
      injection h with h1 h2
      injection h1 with h1
      subst h1
      have eq : qn x = [x] := by unfold qn; rw [if_neg hx4, if_neg h92]
      rw [drop_two hx2, eq, ← h2]
      exact ⟨by omega, rfl, rfl⟩
theorem at_drop {l d : List Nat} {k : Nat} (h : l.drop k = d) (i : Nat) : l[k + i]? = d[i]? := by
  rw [← h, List.getElem?_drop]
theorem one_complete {l rest : List Nat} {k b : Nat} (hb : b < 256) (h : l.drop k = qn b ++ rest) : oneF l k = (some b, k + (qn b).length) := by
  have h0 := at_drop h 0
  have h1 := at_drop h 1
  have h2 := at_drop h 2
  have h3 := at_drop h 3
  by_cases hh : b < 33 ∨ 126 < b
  · have eq : qn b = [92, 120, dn (b / 16), dn (b % 16)] := by unfold qn; rw [if_pos hh]
    rw [eq] at h0 h1 h2 h3 ⊢
    have e1 : tk shownB l[k]? = some 92 := tk_mk h0 (by decide)
    have e2 : tk escB l[k + 1]? = some 120 := tk_mk h1 (by decide)
    have e3 : dg highOk l[k + 2]? = some (b / 16) := dg_mk h2 (hx_dn (by omega)) (by
      unfold highOk; rw [Bool.or_eq_true, hidd_iff, hidd_iff]; omega)
    have e4 : dg (fun v => hidd (16 * (b / 16) + v)) l[k + 2 + 1]? = some (b % 16) := dg_mk h3 (hx_dn (by omega)) (by
      show hidd _ = true; rw [hidd_iff]; omega)
    have e5 : 16 * (b / 16) + b % 16 = b := by omega
    unfold oneF
    rw [e1]
    dsimp only
    rw [if_pos rfl, e2]
    dsimp only
    rw [if_neg (by decide)]
    unfold pairF
    rw [e3]
    dsimp only
    rw [e4]
    dsimp only
    rw [e5]
    rfl
  · by_cases h92 : b = 92
    · have eq : qn b = [92, 92] := by subst h92; rfl
      rw [eq] at h0 h1 ⊢
      have e1 : tk shownB l[k]? = some 92 := tk_mk h0 (by decide)
      have e2 : tk escB l[k + 1]? = some 92 := tk_mk h1 (by decide)
      unfold oneF
      rw [e1]
      dsimp only
      rw [if_pos rfl, e2]
      dsimp only
      rw [if_pos rfl, h92]
      rfl
    · have eq : qn b = [b] := by unfold qn; rw [if_neg hh, if_neg h92]
      rw [eq] at h0 ⊢
      have e1 : tk shownB l[k]? = some b := tk_mk h0 (by unfold shownB; rw [Bool.not_eq_true', ← Bool.not_eq_true, hidd_iff]; exact hh)
      unfold oneF
      rw [e1]
      dsimp only
      rw [if_neg h92]
      rfl
theorem qn_cases (b : Nat) : (hidd b = true ∧ qn b = [92, 120, dn (b / 16), dn (b % 16)]) ∨ (b = 92 ∧ qn b = [92, 92]) ∨ (hidd b = false ∧ b ≠ 92 ∧ qn b = [b]) := by
  by_cases hh : b < 33 ∨ 126 < b
  · exact .inl ⟨(hidd_iff b).2 hh, by unfold qn; rw [if_pos hh]⟩
  · by_cases h92 : b = 92
    · subst h92; exact .inr (.inl ⟨rfl, rfl⟩)
    · exact .inr (.inr ⟨by rw [← Bool.not_eq_true, hidd_iff]; exact hh, h92, by unfold qn; rw [if_neg hh, if_neg h92]⟩)
/-- Where no byte is told: no word goes further, and some word goes as far. -/
def FarIs (d : List Nat) (n : Nat) : Prop := (∀ b, b < 256 → lcp (qn b) d ≤ n) ∧ ∃ b, b < 256 ∧ n ≤ lcp (qn b) d
theorem agree_sub {l : List Nat} {k b m : Nat} (h : ¬ lcp (qn b) (l.drop k) ≤ m) (i : Nat) (hi : i ≤ m) : ∃ x, (qn b)[i]? = some x ∧ l[k + i]? = some x := by
  obtain ⟨x, h1, h2⟩ := (le_lcp (qn b) (l.drop k) (m + 1)).1 (by omega) i (by omega)
  exact ⟨x, h1, by rw [← List.getElem?_drop]; exact h2⟩
theorem one_far {l : List Nat} {k k' : Nat} (h : oneF l k = (none, k')) : k ≤ k' ∧ FarIs (l.drop k) (k' - k) := by
  unfold oneF at h
  split at h
  · rename_i hx1
    injection h with _ h2
    subst h2
    refine ⟨Nat.le_refl _, fun b hb => ?_, 0, by omega, by omega⟩
    apply Classical.byContradiction
    intro hc
    obtain ⟨x, a1, a2⟩ := agree_sub hc 0 (by omega)
    have : tk shownB l[k]? = some x := tk_mk a2 (by
      rcases qn_cases b with ⟨q1, q2⟩ | ⟨q1, q2⟩ | ⟨q1, _, q2⟩
      · rw [q2] at a1; simp at a1; subst a1; decide
      · rw [q2] at a1; simp at a1; subst a1; decide
      · rw [q2] at a1; simp at a1; subst a1; unfold shownB; rw [q1]; rfl)
    rw [hx1] at this; cases this
  · rename_i x hx1
    obtain ⟨hx2, hx3⟩ := tk_some hx1
    split at h
    · rename_i h92
      split at h
      · rename_i hy1
        injection h with _ h2
        subst h2
        refine ⟨by omega, fun b hb => ?_, 92, by omega, (le_lcp _ _ _).2 fun i hi => ?_⟩
        · apply Classical.byContradiction
          intro hc
          obtain ⟨y, a1, a2⟩ := agree_sub hc 1 (by omega)
          have : tk escB l[k + 1]? = some y := tk_mk a2 (by
            rcases qn_cases b with ⟨q1, q2⟩ | ⟨q1, q2⟩ | ⟨q1, _, q2⟩
            · rw [q2] at a1; simp at a1; subst a1; decide
            · rw [q2] at a1; simp at a1; subst a1; decide
            · rw [q2] at a1; simp at a1)
          rw [hy1] at this; cases this
        · obtain rfl : i = 0 := by omega
          exact ⟨92, rfl, by rw [drop_two hx2, h92]; rfl⟩
      · rename_i y hy1
        obtain ⟨hy2, hy3⟩ := tk_some hy1
        split at h
        · cases h
        · rename_i hy92
          have e120 : y = 120 := by
            unfold escB at hy3; simp at hy3; omega
          unfold pairF at h
          split at h
          · rename_i hp1
            injection h with _ h2
            subst h2
            refine ⟨by omega, fun b hb => ?_, 0, by omega, (le_lcp _ _ _).2 fun i hi => ?_⟩
            · apply Classical.byContradiction
              intro hc
              obtain ⟨z, a1, a2⟩ := agree_sub hc 2 (by omega)
              rcases qn_cases b with ⟨q1, q2⟩ | ⟨q1, q2⟩ | ⟨q1, _, q2⟩
              · rw [q2] at a1; simp at a1
                have := dg_mk (may := highOk) a2 (by rw [← a1]; exact hx_dn (by omega)) (by
                  unfold highOk; rw [Bool.or_eq_true, hidd_iff, hidd_iff]; have := (hidd_iff b).1 q1; omega)
                rw [hp1] at this; cases this
              · rw [q2] at a1; simp at a1
              · rw [q2] at a1; simp at a1
            · have hi2 : i = 0 ∨ i = 1 := by omega
              rcases hi2 with rfl | rfl
              · exact ⟨92, rfl, by rw [drop_two hx2, h92]; rfl⟩
              · exact ⟨120, rfl, by rw [drop_two hx2, drop_two hy2, e120]; rfl⟩
          · rename_i p hp1
            obtain ⟨c, hc1, hc2, hc3⟩ := dg_some hp1
            obtain ⟨hc4, hc5⟩ := hx_some hc2
            split at h
            · rename_i hr1
              injection h with _ h2
              subst h2
              have hdc : ∀ b, b / 16 = p → hidd b = true → 3 ≤ lcp (qn b) (l.drop k) := by
                intro b hb hh
                refine (le_lcp _ _ _).2 fun i hi => ?_
                rcases qn_cases b with ⟨q1, q2⟩ | ⟨q1, q2⟩ | ⟨q1, _, q2⟩
                · rw [q2, drop_two hx2, drop_two hy2, drop_two hc1, h92, e120, hb, hc4]
                  have hi2 : i = 0 ∨ i = 1 ∨ i = 2 := by omega
                  rcases hi2 with rfl | rfl | rfl
                  · exact ⟨92, rfl, rfl⟩
                  · exact ⟨120, rfl, rfl⟩
                  · exact ⟨dn p, rfl, rfl⟩
                · subst q1; exact absurd hh (by decide)
                · rw [q1] at hh; cases hh
              refine ⟨by omega, fun b hb => ?_, ?_⟩
              · apply Classical.byContradiction
                intro hc
                obtain ⟨y2, g1, g2⟩ := agree_sub hc 2 (by omega)
                obtain ⟨z, a1, a2⟩ := agree_sub hc 3 (by omega)
                rcases qn_cases b with ⟨q1, q2⟩ | ⟨q1, q2⟩ | ⟨q1, _, q2⟩
                · rw [q2] at a1 g1; simp at a1 g1
                  have e2 : hx y2 = some (b / 16) := by rw [← g1]; exact hx_dn (by omega)
                  rw [hc1] at g2
                  injection g2 with g2
                  rw [g2, e2] at hc2
                  injection hc2 with hc2
                  have := dg_mk (may := fun v => hidd (16 * p + v)) a2 (by rw [← a1]; exact hx_dn (by omega)) (by
                    show hidd _ = true
                    have e5 : 16 * p + b % 16 = b := by omega
                    rw [e5]; exact q1)
                  rw [hr1] at this; cases this
                · rw [q2] at a1; simp at a1
                · rw [q2] at a1; simp at a1
              · unfold highOk at hc3
                rw [Bool.or_eq_true] at hc3
                rcases hc3 with hc3 | hc3
                · exact ⟨16 * p, by omega, by have := hdc (16 * p) (by omega) hc3; omega⟩
                · exact ⟨16 * p + 15, by omega, by have := hdc (16 * p + 15) (by omega) hc3; omega⟩
            · cases h
    · cases h
def farTo (d : List Nat) : Nat → Nat
  | 0 => 0
  | b + 1 => max (farTo d b) (lcp (qn b) d)
theorem farTo_le {d : List Nat} {m : Nat} (n : Nat) (h : ∀ b, b < n → lcp (qn b) d ≤ m) : farTo d n ≤ m := by
  induction n with
  | zero => exact Nat.zero_le _
  | succ n ih =>
    show max _ _ ≤ m
    exact Nat.max_le.2 ⟨ih fun b hb => h b (by omega), h n (by omega)⟩
theorem le_farTo {d : List Nat} {b : Nat} (n : Nat) (h : b < n) : lcp (qn b) d ≤ farTo d n := by
  induction n with
  | zero => omega
  | succ n ih =>
    show _ ≤ max _ _
    by_cases e : b = n
    · subst e; exact Nat.le_max_right _ _
    · exact Nat.le_trans (ih (by omega)) (Nat.le_max_left _ _)
theorem far_eq {d : List Nat} {n : Nat} (h : FarIs d n) : farTo d 256 = n := by
  obtain ⟨h1, b, hb, h2⟩ := h
  have := farTo_le 256 h1
  have := le_farTo (d := d) 256 hb
  omega
def foundTo (d : List Nat) : Nat → Int
  | 0 => -1
  | b + 1 => if (qn b).isPrefixOf d = true then b else foundTo d b
theorem found_none {d : List Nat} (n : Nat) (h : ∀ b, b < n → ¬ (qn b).isPrefixOf d = true) : foundTo d n = -1 := by
  induction n with
  | zero => rfl
  | succ n ih =>
    show (if _ then _ else _) = _
    rw [if_neg (h n (by omega))]
    exact ih fun b hb => h b (by omega)
theorem found_some {d : List Nat} {b : Nat} (n : Nat) (hb : b < n) (h : (qn b).isPrefixOf d = true) (hu : ∀ c, c < n → (qn c).isPrefixOf d = true → c = b) : foundTo d n = b := by
  induction n with
  | zero => omega
  | succ n ih =>
    show (if _ then _ else _) = _
    by_cases hn : (qn n).isPrefixOf d = true
    · rw [if_pos hn, hu n (by omega) hn]
    · rw [if_neg hn]
      have : b ≠ n := fun e => hn (e ▸ h)
      exact ih (by omega) fun c hc => hu c (by omega)
theorem pre_drop {a d : List Nat} (h : a.isPrefixOf d = true) : ∃ r, d = a ++ r := by
  obtain ⟨r, hr⟩ := List.isPrefixOf_iff_prefix.1 h
  exact ⟨r, hr.symm⟩
theorem one_found {l : List Nat} {k b k' : Nat} (h : oneF l k = (some b, k')) : foundTo (l.drop k) 256 = b := by
  obtain ⟨h1, _, h3⟩ := one_sound h
  refine found_some 256 h1 (List.isPrefixOf_iff_prefix.2 ⟨l.drop k', h3.symm⟩) fun c hc hp => ?_
  obtain ⟨r, hr⟩ := pre_drop hp
  have := one_complete hc hr
  rw [h] at this
  injection this with h4 _
  injection h4 with h4
  exact h4.symm
theorem one_lost {l : List Nat} {k k' : Nat} (h : oneF l k = (none, k')) : foundTo (l.drop k) 256 = -1 := by
  refine found_none 256 fun c hc hp => ?_
  obtain ⟨r, hr⟩ := pre_drop hp
  have := one_complete hc hr
  rw [h] at this
  cases this
/-- A word's bytes from a place on, behind those that were told; or where it can't go on. -/
def wordF (l : List Nat) : Nat → Nat → List Nat → Option (List Nat) × Nat
  | 0, k, _ => (none, k)
  | n + 1, k, acc => match oneF l k with
    | (none, k') => (none, k')
    | (some b, k') => if k' = l.length then (some (acc ++ [b]), k') else wordF l n k' (acc ++ [b])
theorem qn_pos (b : Nat) : 0 < (qn b).length := by
  rcases qn_cases b with ⟨_, q⟩ | ⟨_, q⟩ | ⟨_, _, q⟩ <;> rw [q] <;> simp
theorem one_on {l : List Nat} {k b k' : Nat} (h : oneF l k = (some b, k')) : k < k' ∧ k' ≤ l.length := by
  obtain ⟨_, h2, h3⟩ := one_sound h
  have := qn_pos b
  have e := congrArg List.length h3
  rw [List.length_append, List.length_drop, List.length_drop] at e
  omega
theorem wordF_fuel {l : List Nat} : ∀ (n m k : Nat) (acc : List Nat), l.length - k < n → l.length - k < m → wordF l n k acc = wordF l m k acc := by
  intro n
  induction n with
  | zero => intro m k acc h; omega
  | succ n ih =>
    intro m k acc h1 h2
    match m, h2 with
    | m + 1, h2 =>
      unfold wordF
      split
      · rfl
      · rename_i b k' ho
        have := one_on ho
        split
        · rfl
        · exact ih m k' _ (by omega) (by omega)
end Go.Proofs.YtglbhmhkeegpdaaDoor
