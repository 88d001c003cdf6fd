/- The steps of a computation on what is known: each holds in memory. Generic over the program. -/
import Derived.Test.YtgfnakdfhfoplaaGreatDoorCxB
namespace Go.Proofs.YtgfnakdfhfoplaaGreatDoor.Cx
open Go
inductive AdR (m : Mp) : Addr → Addr → Prop where
  | mk {b c x o : Nat} (h : m b = some (c, x)) : AdR m ⟨b, o, none⟩ ⟨c, o, none⟩
theorem AdR.mono {m m' : Mp} (hm : m.le m') {a a' : Addr} (h : AdR m a a') : AdR m' a a' := by obtain ⟨h⟩ := h; exact .mk (hm _ _ h)
theorem AdR.add {m : Mp} {a a' : Addr} (h : AdR m a a') (n : Nat) : AdR m (a.add n) (a'.add n) := by
  obtain ⟨h⟩ := h
  unfold Addr.add
  split
  · exact .mk h
  · exact .mk h
section
variable {P : Program} {m m0 m1 m2 m3 : Mp} {s s1 s2 s3 : St} {w w1 w2 w3 : World}
theorem getCell_ok (h : Ok P m s w) {a a' : Addr} (ha : AdR m a a') {v : Value} (hg : getCell s a = some v) : ∃ v', w.cell? a' = some v' ∧ VR m v v' ∧ w.frozen? a' = false := by
  obtain ⟨hb⟩ := ha
  rename_i b c x o
  unfold getCell at hg
  dsimp only at hg
  split at hg
  · rename_i n cs e g h1 _
    obtain ⟨c', x', o', h2, h3, h4⟩ := h.dom _ _ h1
    rw [hb] at h2; injection h2 with h2; injection h2 with e1 e2; subst e1; subst e2
    cases h4 with
    | exact _ hn hc =>
      obtain ⟨_, v', h5, h6⟩ := hc _ _ hg
      exact ⟨v', by simp [World.cell?, h3, h5], h6, by simp [World.frozen?, h3]⟩
    | grown _ hn hc =>
      obtain ⟨_, v', h5, h6⟩ := hc _ _ hg
      exact ⟨v', by simp [World.cell?, h3, h5], h6, by simp [World.frozen?, h3]⟩
  · cases hg
theorem sim_load {a a' : Addr} (ha : AdR m0 a a') (md : Mode := .plain) : Sim P VR m0 (load a md) (load a' md) := by
  intro m s w hm ho x s2 hr
  simp only [load, arun] at hr
  split at hr
  · rename_i v hg
    injection hr with hr; injection hr with e1 e2; subst e1; subst e2
    obtain ⟨v', h1, h2, _⟩ := getCell_ok ho (ha.mono hm) hg
    exact ⟨m, v', w, by simp only [load, Sem.run, h1], h2, .refl ho⟩
  · cases hr
theorem heap_setCell {w : World} {c o : Nat} {v : Value} {cs : Array Value} {e : TypeId} (h : w.heap[c]? = some (.cells cs e (0, 0))) (c' : Nat) :
    (w.setCell ⟨c, o, none⟩ v).heap[c']? = if c' = c then some (.cells (cs.setIfInBounds o v) e (0, 0)) else w.heap[c']? := by
  simp only [World.setCell, Array.getElem?_modify]
  by_cases e1 : c = c'
  · subst e1; simp [h]
  · rw [if_neg e1, if_neg (fun h => e1 h.symm)]
theorem OO.cells_inv {x : Nat} {n : Nat} {c : T Value} {e : TypeId} {g : Bool} {o' : Obj} (h : OO P m x (.cells n c e g) o') :
    ∃ cs, o' = .cells cs e (0, 0) ∧ n ≤ cs.size ∧ (∀ i v, c.get i = some v → i < n ∧ ∃ v', cs[i]? = some v' ∧ VR m v v') ∧
      ∀ (c2 : T Value) (cs2 : Array Value), cs2.size = cs.size → (∀ i v, c2.get i = some v → i < n ∧ ∃ v', cs2[i]? = some v' ∧ VR m v v') → OO P m x (.cells n c2 e g) (.cells cs2 e (0, 0)) := by
  cases h with
  | exact hx hn hc => exact ⟨_, rfl, by omega, hc, fun c2 cs2 hs h => .exact hx (by omega) h⟩
  | grown hk hn hc => exact ⟨_, rfl, by omega, hc, fun c2 cs2 hs h => .grown hk (by omega) h⟩
theorem putCell_ok (h : Ok P m s w) {a a' : Addr} (ha : AdR m a a') {v v' : Value} (hv : VR m v v') (hg : putCell s a v = some s2) :
    (∃ u, w.cell? a' = some u) ∧ w.frozen? a' = false ∧ one v = true ∧ Post P m s w m s2 (w.setCell a' v') := by
  obtain ⟨hb⟩ := ha
  rename_i b c x o
  unfold putCell at hg
  dsimp only at hg
  split at hg
  · rename_i n ct e g h1 _
    cases hc : (Nat.blt o n && (Nat.blt n lim && (Nat.blt b lim && one v))) with
    | false => rw [hc] at hg; cases hg
    | true =>
      rw [hc] at hg
      simp only [cond] at hg
      injection hg with hg; subst hg
      simp only [Bool.and_eq_true, Nat.blt_eq] at hc
      obtain ⟨h5, h6, h7, h8⟩ := hc
      obtain ⟨c', x', o', h2, h3, h4⟩ := h.dom _ _ h1
      rw [hb] at h2; injection h2 with h2; injection h2 with e1 e2; subst e1; subst e2
      obtain ⟨cs, rfl, hn, hcs, hmk⟩ := h4.cells_inv
      have hlt : o < cs.size := by omega
      refine ⟨⟨cs[o], by simp [World.cell?, h3, hlt]⟩, by simp [World.frozen?, h3], h8, ?_⟩
      have hget : ∀ j, (s.heap.set b (.cells n (ct.set o v) e g)).get j = if j = b then some (.cells n (ct.set o v) e g) else s.heap.get j := fun j => T.get_set h7
      refine ⟨⟨fun b' o1 hb' => ?_, fun b1 b2 o1 o2 c1 x1 x2 h1' h2' h3' h4' => ?_, h.glob, h.new⟩, .refl m, Nat.le_refl _, fun b' _ hb' => ?_, fun b' _ hb' => ?_, fun b' hb' => ?_, fun c1 hc1 hf => ?_, fun b1 c1 x1 h1' h2' => absurd (h1'.symm.trans h2') (by simp), ?_, rfl, rfl, rfl, fun _ _ => rfl, fun b1 o1 c1 x1 h1' h2' h3' => ?_⟩
      · dsimp only at hb'
        rw [hget] at hb'
        by_cases e1 : b' = b
        · subst e1
          rw [if_pos rfl] at hb'; injection hb' with hb'; subst hb'
          refine ⟨c, x, _, hb, by rw [heap_setCell h3, if_pos rfl], hmk _ _ (by simp) fun i u hu => ?_⟩
          rw [T.get_set (by omega)] at hu
          by_cases e2 : i = o
          · subst e2
            rw [if_pos rfl] at hu; injection hu with hu; subst hu
            exact ⟨h5, v', by simp [hlt], hv⟩
          · rw [if_neg e2] at hu
            obtain ⟨g1, u', g2, g3⟩ := hcs i u hu
            exact ⟨g1, u', by rw [Array.getElem?_setIfInBounds_ne (fun h => e2 h.symm)]; exact g2, g3⟩
        · rw [if_neg e1] at hb'
          obtain ⟨c2, x2, o2, g1, g2, g3⟩ := h.dom b' o1 hb'
          refine ⟨c2, x2, o2, g1, ?_, g3⟩
          rw [heap_setCell h3, if_neg fun e2 => e1 (h.inj b' b o1 _ c2 x2 x hb' h1 g1 (by rw [hb, e2]))]; exact g2
      · dsimp only at h1' h2'
        rw [hget] at h1' h2'
        have k1 : ∃ o, s.heap.get b1 = some o := by split at h1' <;> first | exact ⟨_, ‹b1 = b› ▸ h1⟩ | exact ⟨_, h1'⟩
        have k2 : ∃ o, s.heap.get b2 = some o := by split at h2' <;> first | exact ⟨_, ‹b2 = b› ▸ h1⟩ | exact ⟨_, h2'⟩
        obtain ⟨p1, k1⟩ := k1; obtain ⟨p2, k2⟩ := k2
        exact h.inj b1 b2 p1 p2 c1 x1 x2 k1 k2 h3' h4'
      · dsimp only at hb'
        rw [hget] at hb'
        split at hb'
        · rename_i e1; rw [e1, h1]; simp
        · exact hb'
      · dsimp only at hb' ⊢
        rw [T.get_set h7] at hb'
        rw [hget]
        split at hb'
        · cases hb'
        · rename_i e1; rw [if_neg e1]
      · dsimp only at hb'
        rw [T.get_set h7] at hb'
        split at hb'
        · cases hb'
        · exact hb'
      · rw [heap_setCell h3, if_neg fun e2 => hf b _ x h1 (by rw [hb, e2])]
      · simp [World.setCell]
      · dsimp only at h3'
        rw [T.get_set h7] at h3'
        split at h3'
        · cases h3'
        · rename_i e1
          rw [heap_setCell h3, if_neg fun e2 => e1 (h.inj b1 b o1 _ c1 x1 x h1' h1 h2' (by rw [hb, e2]))]
  · cases hg
theorem sim_store {a a' : Addr} (ha : AdR m0 a a') {v v' : Value} (hv : VR m0 v v') (md : Mode := .plain) : Sim P (fun _ _ _ => True) m0 (store a v md) (store a' v' md) := by
  intro m s w hm ho x s2 hr
  simp only [store, arun] at hr
  split at hr
  · rename_i s1 hg
    injection hr with hr; injection hr with e1 e2; subst e2
    obtain ⟨⟨u, h1⟩, h2, h3, h4⟩ := putCell_ok ho (ha.mono hm) (hv.mono hm) hg
    refine ⟨m, (), w.setCell a' v', ?_, trivial, h4⟩
    have hv' := hv
    cases hv with
    | agg => cases h3
    | tuple => cases h3
    | _ => simp only [store, Sem.run, h1, h2]; rfl
  · cases hr
theorem sim_frozen {a a' : Addr} (ha : AdR m0 a a') : Sim P (fun _ x y => x = y ∧ x = false) m0 (frozen a) (frozen a') := by
  intro m s w hm ho x s2 hr
  obtain ⟨hb⟩ := ha
  rename_i b c xx o
  simp only [frozen, arun] at hr
  split at hr
  · rename_i hg
    injection hr with hr; injection hr with e1 e2; subst e1; subst e2
    refine ⟨m, false, w, ?_, ⟨rfl, rfl⟩, .refl ho⟩
    unfold isCells at hg
    split at hg
    · rename_i n ct e g h1
      obtain ⟨c', x', o', h2, h3, h4⟩ := ho.dom _ _ h1
      rw [hm _ _ hb] at h2; injection h2 with h2; injection h2 with e1 e2; subst e1; subst e2
      obtain ⟨cs, rfl, _⟩ := h4.cells_inv
      simp [frozen, Sem.run, World.frozen?, h3]
    · cases hg
  · cases hr
theorem sim_shape {b c x : Nat} (hb : m0 b = some (c, x)) : Sim P (fun _ u v => u = v) m0 (shape b) (shape c) := by
  intro m s w hm ho u s2 hr
  simp only [shape, arun] at hr
  split at hr
  · rename_i r hg
    injection hr with hr; injection hr with e1 e2; subst e1; subst e2
    refine ⟨m, r, w, ?_, rfl, .refl ho⟩
    unfold shapeOf at hg
    split at hg
    · rename_i n ct e h1
      injection hg with hg; subst hg
      obtain ⟨c', x', o', h2, h3, h4⟩ := ho.dom _ _ h1
      rw [hm _ _ hb] at h2; injection h2 with h2; injection h2 with e1 e2; subst e1; subst e2
      cases h4 with
      | exact _ hn hc => simp [shape, Sem.run, World.shape?, h3, hn]
    · rename_i o h1
      injection hg with hg; subst hg
      obtain ⟨c', x', o', h2, h3, h4⟩ := ho.dom _ _ h1
      rw [hm _ _ hb] at h2; injection h2 with h2; injection h2 with e1 e2; subst e1; subst e2
      cases h4 with
      | obj _ h => cases h <;> simp [shape, Sem.run, World.shape?, h3]
    · cases hg
  · cases hr
theorem sim_getObj {b c x : Nat} (hb : m0 b = some (c, x)) : Sim P OR m0 (getObj b) (getObj c) := by
  intro m s w hm ho u s2 hr
  simp only [getObj, arun] at hr
  split at hr
  · rename_i r hg
    injection hr with hr; injection hr with e1 e2; subst e1; subst e2
    unfold objAt at hg
    split at hg
    · rename_i o h1
      injection hg with hg; subst hg
      obtain ⟨c', x', o', h2, h3, h4⟩ := ho.dom _ _ h1
      rw [hm _ _ hb] at h2; injection h2 with h2; injection h2 with e1 e2; subst e1; subst e2
      cases h4 with
      | obj _ h => exact ⟨m, o', w, by cases h <;> simp [getObj, Sem.run, h3], h, .refl ho⟩
    · cases hg
  · cases hr
end
end Go.Proofs.YtgfnakdfhfoplaaGreatDoor.Cx
