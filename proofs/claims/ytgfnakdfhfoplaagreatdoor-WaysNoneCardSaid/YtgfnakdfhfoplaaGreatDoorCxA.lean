/- A concrete run, for every order and every capacity: tries, related values, related memory. Generic over the program. -/
import Derived.CallsIn
namespace Go.Proofs.YtgfnakdfhfoplaaGreatDoor.Cx
open Go
/-- A map from numbers, kept so that the kernel finds a number in few steps. -/
inductive T (α : Type) where
  | e
  | n (l : T α) (v : Option α) (r : T α)
variable {α β : Type}
def T.get : T α → Nat → Option α
  | .e, _ => none
  | .n _ v _, 0 => v
  | .n l _ r, k + 1 => bif k % 2 == 0 then l.get (k / 2) else r.get (k / 2)
def T.put : Nat → T α → Nat → Option α → T α
  | 0, t, _, _ => t
  | _ + 1, .e, 0, v => .n .e v .e
  | _ + 1, .n l _ r, 0, v => .n l v r
  | f + 1, .e, k + 1, v => bif k % 2 == 0 then .n (T.put f .e (k / 2) v) none .e else .n .e none (T.put f .e (k / 2) v)
  | f + 1, .n l x r, k + 1, v => bif k % 2 == 0 then .n (T.put f l (k / 2) v) x r else .n l x (T.put f r (k / 2) v)
theorem T.get_e (k : Nat) : (T.e : T α).get k = none := by cases k <;> rfl
theorem T.get_put_self : ∀ (f : Nat) (t : T α) (k : Nat) (v : Option α), k + 1 < 2 ^ f → (t.put f k v).get k = v
  | 0, _, _, _, h => absurd h (by simp)
  | f + 1, t, 0, v, _ => by cases t <;> rfl
  | f + 1, t, k + 1, v, h => by
    have h2 : k / 2 + 1 < 2 ^ f := by rw [Nat.pow_succ] at h; omega
    have ih := fun t => T.get_put_self f t (k / 2) v h2
    cases t <;> simp only [T.put] <;> cases e : (k % 2 == 0) <;> simp only [cond, T.get, e] <;> exact ih _
theorem T.get_put_ne : ∀ (f : Nat) (t : T α) (k j : Nat) (v : Option α), j ≠ k → (t.put f k v).get j = t.get j
  | 0, _, _, _, _, _ => rfl
  | f + 1, t, 0, j, v, h => by
    cases j with
    | zero => exact absurd rfl h
    | succ j => cases t <;> simp [T.put, T.get]
  | f + 1, t, k + 1, 0, v, _ => by cases t <;> simp only [T.put] <;> cases e : (k % 2 == 0) <;> simp [cond, T.get]
  | f + 1, t, k + 1, j + 1, v, h => by
    have ih := fun t (h2 : j / 2 ≠ k / 2) => T.get_put_ne f t (k / 2) (j / 2) v h2
    cases t <;> simp only [T.put] <;> cases e : (k % 2 == 0) <;> cases e2 : (j % 2 == 0) <;> simp only [cond, T.get, e2] <;> first
      | rfl
      | (rw [T.get_e])
      | (rw [ih _ (by simp at e e2; omega)]; done)
      | (rw [ih _ (by simp at e e2; omega), T.get_e])
      | (rw [ih _ (by simp at e e2; omega)]; rfl)
/-- Numbers below this one can be kept. -/
abbrev lim : Nat := 1125899906842623
def T.set (t : T α) (k : Nat) (v : α) : T α := t.put 50 k (some v)
def T.del (t : T α) (k : Nat) : T α := t.put 50 k none
theorem lim_ok {k : Nat} (h : k < lim) : k + 1 < 2 ^ 50 := Nat.succ_lt_succ h
theorem T.get_set {t : T α} {k j : Nat} {v : α} (h : k < lim) : (t.set k v).get j = if j = k then some v else t.get j := by
  unfold T.set
  split
  · subst_vars; exact T.get_put_self _ _ _ _ (lim_ok h)
  · exact T.get_put_ne _ _ _ _ _ ‹_›
theorem T.get_set_ne {t : T α} {k j : Nat} {v : α} (h : j ≠ k) : (t.set k v).get j = t.get j := T.get_put_ne _ _ _ _ _ h
theorem T.get_del {t : T α} {k j : Nat} (h : k < lim) : (t.del k).get j = if j = k then none else t.get j := by
  unfold T.del
  split
  · subst_vars; exact T.get_put_self _ _ _ _ (lim_ok h)
  · exact T.get_put_ne _ _ _ _ _ ‹_›
/-- A list, kept from a number on. -/
def T.lay : T α → Nat → List α → T α
  | t, _, [] => t
  | t, k, x :: l => T.lay (t.set k x) (k + 1) l
theorem T.get_lay : ∀ (l : List α) (t : T α) (k j : Nat), k + l.length < lim → (t.lay k l).get j = if k ≤ j ∧ j < k + l.length then l[j - k]? else t.get j
  | [], t, k, j, _ => by simp [T.lay]; omega
  | x :: l, t, k, j, h => by
    rw [List.length_cons] at h
    rw [T.lay, T.get_lay l (t.set k x) (k + 1) j (by omega), List.length_cons]
    by_cases h1 : k + 1 ≤ j ∧ j < k + 1 + l.length
    · rw [if_pos h1, if_pos (by omega), show j - k = (j - (k + 1)) + 1 by omega, List.getElem?_cons_succ]
    · rw [if_neg h1, T.get_set (by omega)]
      by_cases h2 : j = k
      · subst h2; rw [if_pos rfl, if_pos (by omega)]; simp
      · rw [if_neg h2, if_neg (by omega)]
def T.ofList (l : List α) : T α := T.lay .e 0 l
theorem T.get_ofList {l : List α} (h : l.length < lim) (j : Nat) : (T.ofList l).get j = l[j]? := by
  rw [T.ofList, T.get_lay l .e 0 j (by omega), T.get_e]
  split
  · rw [Nat.sub_zero]
  · exact (List.getElem?_eq_none (by omega)).symm
/-! ### Related values -/
/-- Where a block lies in memory, and how much room it has beyond what is known. -/
abbrev Mp := Nat → Option (Nat × Nat)
def Mp.le (m m' : Mp) : Prop := ∀ b x, m b = some x → m' b = some x
theorem Mp.le.refl (m : Mp) : m.le m := fun _ _ h => h
theorem Mp.le.trans {m1 m2 m3 : Mp} (h : m1.le m2) (h' : m2.le m3) : m1.le m3 := fun b x e => h' b x (h b x e)
inductive FR (m : Mp) : Fn → Fn → Prop where
  | func (f : FuncId) : FR m (.func f) (.func f)
  | yield {l c x : Nat} (h : m l = some (c, x)) : FR m (.yield l) (.yield c)
inductive VR (m : Mp) : Value → Value → Prop where
  | bool (b : Bool) : VR m (.bool b) (.bool b)
  | int (k : IntKind) (n : Int) : VR m (.int k n) (.int k n)
  | string (s : ByteArray) : VR m (.string s) (.string s)
  | pnil : VR m (.pointer none) (.pointer none)
  | ptr {b c x o : Nat} (h : m b = some (c, x)) : VR m (.pointer (some ⟨b, o, none⟩)) (.pointer (some ⟨c, o, none⟩))
  | snil (n k : Nat) : VR m (.slice none n k) (.slice none n k)
  | slice {b c x o n k : Nat} (h : m b = some (c, x)) : VR m (.slice (some ⟨b, o, none⟩) n k) (.slice (some ⟨c, o, none⟩) n (k + x))
  | ghost (b o q c o' k : Nat) : VR m (.slice (some ⟨b, o, some q⟩) 0 0) (.slice (some ⟨c, o', none⟩) 0 k)
  | mnil : VR m (.map none) (.map none)
  | map {b c x : Nat} (h : m b = some (c, x)) : VR m (.map (some b)) (.map (some c))
  | nilFunc : VR m .nilFunc .nilFunc
  | nilIface : VR m .nilIface .nilIface
  | func {f f' : Fn} {xs ys us vs : Array Value} (hf : FR m f f') (hx : xs.size = ys.size) (hxs : ∀ i, i < xs.size → VR m (xs.getD i undef) (ys.getD i undef))
      (hu : us.size = vs.size) (hus : ∀ i, i < us.size → VR m (us.getD i undef) (vs.getD i undef)) : VR m (.func f xs us) (.func f' ys vs)
  | agg {xs ys : Array Value} (hs : xs.size = ys.size) (h : ∀ i, i < xs.size → VR m (xs.getD i undef) (ys.getD i undef)) : VR m (.agg xs) (.agg ys)
  | tuple {xs ys : Array Value} (hs : xs.size = ys.size) (h : ∀ i, i < xs.size → VR m (xs.getD i undef) (ys.getD i undef)) : VR m (.tuple xs) (.tuple ys)
theorem FR.mono {m m' : Mp} (hm : m.le m') {f f' : Fn} (h : FR m f f') : FR m' f f' := by
  cases h with
  | func f => exact .func f
  | yield h => exact .yield (hm _ _ h)
theorem VR.mono {m m' : Mp} (hm : m.le m') {v v' : Value} (h : VR m v v') : VR m' v v' := by
  induction h with
  | bool b => exact .bool b
  | int k n => exact .int k n
  | string s => exact .string s
  | pnil => exact .pnil
  | ptr h => exact .ptr (hm _ _ h)
  | snil n k => exact .snil n k
  | slice h => exact .slice (hm _ _ h)
  | ghost b o q c o' k => exact .ghost b o q c o' k
  | mnil => exact .mnil
  | map h => exact .map (hm _ _ h)
  | nilFunc => exact .nilFunc
  | nilIface => exact .nilIface
  | func hf hx _ hu _ ih1 ih2 => exact .func (hf.mono hm) hx ih1 hu ih2
  | agg hs _ ih => exact .agg hs ih
  | tuple hs _ ih => exact .tuple hs ih
/-- Rows of values. -/
def AR (m : Mp) (xs ys : Array Value) : Prop := xs.size = ys.size ∧ ∀ i, i < xs.size → VR m (xs.getD i undef) (ys.getD i undef)
theorem AR.mono {m m' : Mp} (hm : m.le m') {xs ys : Array Value} (h : AR m xs ys) : AR m' xs ys := ⟨h.1, fun i hi => (h.2 i hi).mono hm⟩
theorem AR.get {m : Mp} {xs ys : Array Value} (h : AR m xs ys) {i : Nat} {x : Value} (hx : xs[i]? = some x) : ∃ y, ys[i]? = some y ∧ VR m x y := by
  obtain ⟨hi, hx⟩ := Array.getElem?_eq_some_iff.1 hx
  have h2 := h.2 i hi
  have hi2 : i < ys.size := h.1 ▸ hi
  refine ⟨ys[i], Array.getElem?_eq_some_iff.2 ⟨hi2, rfl⟩, ?_⟩
  rw [Array.getD_eq_getD_getElem?, Array.getD_eq_getD_getElem?, Array.getElem?_eq_getElem hi, Array.getElem?_eq_getElem hi2] at h2
  simpa [hx] using h2
theorem AR.none {m : Mp} {xs ys : Array Value} (h : AR m xs ys) {i : Nat} (hx : xs[i]? = none) : ys[i]? = none := by
  rw [Array.getElem?_eq_none_iff] at hx ⊢; rw [← h.1]; exact hx
/-- Rows, as lists. -/
inductive LR (m : Mp) : List Value → List Value → Prop where
  | nil : LR m [] []
  | cons {x y : Value} {xs ys : List Value} (h : VR m x y) (t : LR m xs ys) : LR m (x :: xs) (y :: ys)
theorem LR.mono {m m' : Mp} (hm : m.le m') {xs ys : List Value} (h : LR m xs ys) : LR m' xs ys := by
  induction h with
  | nil => exact .nil
  | cons h _ ih => exact .cons (h.mono hm) ih
theorem LR.length {m : Mp} {xs ys : List Value} (h : LR m xs ys) : xs.length = ys.length := by
  induction h with
  | nil => rfl
  | cons _ _ ih => simp [ih]
theorem LR.get {m : Mp} {xs ys : List Value} (h : LR m xs ys) : ∀ {i : Nat} {x : Value}, xs[i]? = some x → ∃ y, ys[i]? = some y ∧ VR m x y := by
  induction h with
  | nil => intro i x hx; simp at hx
  | cons h _ ih =>
    intro i x hx
    cases i with
    | zero => simp at hx; exact ⟨_, rfl, hx ▸ h⟩
    | succ i => exact ih (by simpa using hx)
theorem LR.of_get {m : Mp} : ∀ {xs ys : List Value}, xs.length = ys.length → (∀ (i : Nat) (x y : Value), xs[i]? = some x → ys[i]? = some y → VR m x y) → LR m xs ys
  | [], [], _, _ => .nil
  | x :: xs, y :: ys, hl, h => .cons (h 0 x y rfl rfl) (LR.of_get (by simpa using hl) fun i x y hx hy => h (i + 1) x y (by simpa using hx) (by simpa using hy))
theorem LR.append {m : Mp} {xs ys us vs : List Value} (h : LR m xs ys) (h' : LR m us vs) : LR m (xs ++ us) (ys ++ vs) := by
  induction h with
  | nil => exact h'
  | cons h _ ih => exact .cons h ih
theorem ar_iff {m : Mp} {xs ys : Array Value} : AR m xs ys ↔ LR m xs.toList ys.toList := by
  constructor
  · intro h
    refine LR.of_get (by simpa using h.1) fun i x y hx hy => ?_
    obtain ⟨y', hy', hv⟩ := h.get (i := i) (x := x) (by simpa using hx)
    rw [show ys[i]? = some y by simpa using hy] at hy'
    injection hy' with e; exact e ▸ hv
  · intro h
    refine ⟨by simpa using h.length, fun i hi => ?_⟩
    obtain ⟨y, hy, hv⟩ := h.get (i := i) (x := xs[i]) (by simp [hi])
    have hy2 : ys[i]? = some y := by simpa using hy
    rw [Array.getD_eq_getD_getElem?, Array.getD_eq_getD_getElem?, hy2, Array.getElem?_eq_getElem hi]; exact hv
theorem AR.agg {m : Mp} {xs ys : Array Value} (h : AR m xs ys) : VR m (.agg xs) (.agg ys) := .agg h.1 h.2
theorem AR.tuple {m : Mp} {xs ys : Array Value} (h : AR m xs ys) : VR m (.tuple xs) (.tuple ys) := .tuple h.1 h.2
theorem vr_undef (m : Mp) : VR m undef undef := .tuple rfl (fun i hi => absurd hi (by simp))
theorem AR.append {m : Mp} {xs ys us vs : Array Value} (h : AR m xs ys) (h' : AR m us vs) : AR m (xs ++ us) (ys ++ vs) := by
  rw [ar_iff] at *; simpa using h.append h'
theorem AR.push {m : Mp} {xs ys : Array Value} {x y : Value} (h : AR m xs ys) (h' : VR m x y) : AR m (xs.push x) (ys.push y) := by
  rw [ar_iff] at *; simpa using h.append (.cons h' .nil)
theorem AR.nil {m : Mp} : AR m #[] #[] := ⟨rfl, fun i hi => absurd hi (by simp)⟩
theorem AR.extract {m : Mp} {xs ys : Array Value} (h : AR m xs ys) (i j : Nat) : AR m (xs.extract i j) (ys.extract i j) := by
  rw [ar_iff]
  refine LR.of_get (by simp [h.1]) fun k x y hx hy => ?_
  have hx' : (xs.extract i j)[k]? = some x := by rw [← Array.getElem?_toList]; exact hx
  have hy' : (ys.extract i j)[k]? = some y := by rw [← Array.getElem?_toList]; exact hy
  rw [Array.getElem?_extract] at hx' hy'
  split at hx'
  · rw [if_pos (by rw [← h.1]; assumption)] at hy'
    obtain ⟨y', e, hv⟩ := h.get hx'
    rw [hy'] at e; injection e with e; exact e ▸ hv
  · cases hx'
theorem AR.set {m : Mp} {xs ys : Array Value} {x y : Value} (h : AR m xs ys) (i : Nat) (h' : VR m x y) : AR m (xs.setIfInBounds i x) (ys.setIfInBounds i y) := by
  refine ⟨by simp [h.1], fun k hk => ?_⟩
  have hk2 : k < xs.size := by simpa using hk
  have := h.2 k hk2
  rw [Array.getD_eq_getD_getElem?, Array.getD_eq_getD_getElem?, Array.getElem?_setIfInBounds, Array.getElem?_setIfInBounds]
  by_cases e : i = k
  · subst e; rw [if_pos rfl, if_pos rfl, if_pos hk2, if_pos (h.1 ▸ hk2)]; exact h'
  · rw [if_neg e, if_neg e]; rwa [Array.getD_eq_getD_getElem?, Array.getD_eq_getD_getElem?] at this
/-- The cells of a value. -/
theorem VR.cells {m : Mp} {v v' : Value} (h : VR m v v') : AR m v.cells v'.cells := by
  have one : ∀ {v v' : Value}, VR m v v' → AR m #[v] #[v'] := fun h => by rw [ar_iff]; exact .cons h .nil
  cases h with
  | agg hs h => exact ⟨hs, h⟩
  | bool b => exact one (.bool b)
  | int k n => exact one (.int k n)
  | string s => exact one (.string s)
  | pnil => exact one .pnil
  | ptr h => exact one (.ptr h)
  | snil n k => exact one (.snil n k)
  | slice h => exact one (.slice h)
  | ghost b o q c o' k => exact one (.ghost b o q c o' k)
  | mnil => exact one .mnil
  | map h => exact one (.map h)
  | nilFunc => exact one .nilFunc
  | nilIface => exact one .nilIface
  | func a b c d e => exact one (.func a b c d e)
  | tuple a b => exact one (.tuple a b)
/-- Values that hold no address. -/
def flat1 : Value → Bool
  | .bool _ | .int .. | .string _ | .pointer none | .slice none _ _ | .map none | .nilFunc | .nilIface => true
  | _ => false
def flat : Value → Bool
  | .agg xs => xs.toList.all flat1
  | .tuple xs => xs.toList.all flat1
  | v => flat1 v
theorem vr_flat1 {m : Mp} {v : Value} (h : flat1 v = true) : VR m v v := by
  cases v with
  | bool b => exact .bool b
  | int k n => exact .int k n
  | string s => exact .string s
  | pointer a => cases a with
    | none => exact .pnil
    | some a => cases h
  | slice a n k => cases a with
    | none => exact .snil n k
    | some a => cases h
  | map r => cases r with
    | none => exact .mnil
    | some r => cases h
  | nilFunc => exact .nilFunc
  | nilIface => exact .nilIface
  | _ => cases h
theorem lr_flat {m : Mp} : ∀ {l : List Value}, l.all flat1 = true → LR m l l
  | [], _ => .nil
  | x :: l, h => by rw [List.all_cons, Bool.and_eq_true] at h; exact .cons (vr_flat1 h.1) (lr_flat h.2)
theorem vr_flat {m : Mp} {v : Value} (h : flat v = true) : VR m v v := by
  cases v with
  | agg xs => exact (ar_iff.2 (lr_flat h)).agg
  | tuple xs => exact (ar_iff.2 (lr_flat h)).tuple
  | _ => exact vr_flat1 h
end Go.Proofs.YtgfnakdfhfoplaaGreatDoor.Cx
