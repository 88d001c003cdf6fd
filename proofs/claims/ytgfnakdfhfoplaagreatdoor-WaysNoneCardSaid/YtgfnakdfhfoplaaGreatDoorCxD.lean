/- New blocks, objects; the small computations that all operations are made of. Generic over the program. -/
import Derived.Test.YtgfnakdfhfoplaaGreatDoorCxC
namespace Go.Proofs.YtgfnakdfhfoplaaGreatDoor.Cx
open Go
def Mp.add (m : Mp) (b c x : Nat) : Mp := fun j => if j = b then some (c, x) else m j
theorem Mp.add_self (m : Mp) (b c x : Nat) : m.add b c x b = some (c, x) := if_pos rfl
theorem Mp.le_add {m : Mp} {b c x : Nat} (h : m b = none) : m.le (m.add b c x) := fun j y e => by
  unfold Mp.add
  rw [if_neg (fun e2 => by rw [e2, h] at e; cases e)]; exact e
section
variable {P : Program} {m m0 m1 m2 m3 : Mp} {s s1 s2 s3 : St} {w w1 w2 w3 : World}
theorem alloc_ok (h : Ok P m s w) (hlt : s.next < lim) {o : AObj} {o' : Obj} {x : Nat} (hoo : OO P m x o o') :
    Post P m s w (m.add s.next w.heap.size x) { heap := s.heap.set s.next o, next := s.next + 1, wr := s.wr } { w with heap := w.heap.push o' } := by
  have hle : m.le (m.add s.next w.heap.size x) := Mp.le_add (h.new _ (Nat.le_refl _))
  have hget : ∀ j, (s.heap.set s.next o).get j = if j = s.next then some o else s.heap.get j := fun j => T.get_set hlt
  have hne : ∀ b o1, s.heap.get b = some o1 → b ≠ s.next := fun b o1 hb e => by
    obtain ⟨c, y, _, h1, _⟩ := h.dom b o1 hb
    rw [h.new b (by omega)] at h1; cases h1
  have hm : ∀ b, b ≠ s.next → (m.add s.next w.heap.size x) b = m b := fun b hb => if_neg hb
  have hsm : ∀ b o1 c y, s.heap.get b = some o1 → m b = some (c, y) → c < w.heap.size := fun b o1 c y hb hc => by
    obtain ⟨c2, y2, o2, h1, h2, _⟩ := h.dom b o1 hb
    rw [hc] at h1; injection h1 with h1; injection h1 with e1 _; subst e1
    exact (Array.getElem?_eq_some_iff.1 h2).1
  refine ⟨⟨fun b o1 hb => ?_, fun b1 b2 o1 o2 c x1 x2 h1 h2 h3 h4 => ?_, fun g hg => ?_, fun b hb => ?_⟩, hle, Nat.le_succ _, fun b hb h2 => ?_, fun b hb _ => ?_, fun b hb => hb, fun c hc _ => ?_, fun b c y h1 h2 => ?_, by simp, rfl, rfl, rfl, fun b hb => hm b (Nat.ne_of_lt hb), fun b o1 c y h1 h2 _ => ?_⟩
  · dsimp only at hb
    rw [hget] at hb
    split at hb
    · rename_i e; subst e; injection hb with hb; subst hb
      exact ⟨_, _, o', Mp.add_self .., by simp, hoo.mono hle⟩
    · obtain ⟨c, y, o2, h1, h2, h3⟩ := h.dom b o1 hb
      refine ⟨c, y, o2, hle _ _ h1, ?_, h3.mono hle⟩
      rw [Array.getElem?_push_lt (hsm b o1 c y hb h1), ← Array.getElem?_eq_getElem]; exact h2
  · dsimp only at h1 h2
    rw [hget] at h1 h2
    by_cases e1 : b1 = s.next <;> by_cases e2 : b2 = s.next
    · rw [e1, e2]
    · rw [if_neg e2] at h2; rw [e1, Mp.add_self] at h3; rw [hm _ e2] at h4
      injection h3 with h3; injection h3 with e3 _
      have := hsm _ _ _ _ h2 h4; omega
    · rw [if_neg e1] at h1; rw [e2, Mp.add_self] at h4; rw [hm _ e1] at h3
      injection h4 with h4; injection h4 with e3 _
      have := hsm _ _ _ _ h1 h3; omega
    · rw [if_neg e1] at h1; rw [if_neg e2] at h2; rw [hm _ e1] at h3; rw [hm _ e2] at h4
      exact h.inj b1 b2 o1 o2 c x1 x2 h1 h2 h3 h4
  · exact hle _ _ (h.glob g hg)
  · dsimp only at hb
    rw [hm _ (by omega)]; exact h.new b (by omega)
  · dsimp only at h2
    rw [hget, if_neg (by omega)] at h2; exact h2
  · dsimp only
    rw [hget, if_neg (by omega)]
  · dsimp only
    rw [Array.getElem?_push_lt hc, ← Array.getElem?_eq_getElem]
  · by_cases e : b = s.next
    · rw [e, Mp.add_self] at h2; injection h2 with h2; injection h2 with e1 _; exact .inl (by omega)
    · rw [hm _ e, h1] at h2; cases h2
  · dsimp only
    rw [Array.getElem?_push_lt (hsm b o1 c y h1 h2), ← Array.getElem?_eq_getElem]
theorem sim_newCells {c c' : Array Value} (hc : AR m0 c c') (e : TypeId) : Sim P (fun m r r' => m r = some (r', 0)) m0 (newObj (.cells c e)) (newObj (.cells c' e)) := by
  intro m s w hm ho x s2 hr
  simp only [newObj, arun, layObj] at hr
  cases hb : (Nat.blt s.next lim && Nat.blt c.size lim) with
  | false => rw [hb] at hr; cases hr
  | true =>
    rw [hb] at hr
    simp only [cond] at hr
    injection hr with hr; injection hr with e1 e2; subst e1; subst e2
    simp only [Bool.and_eq_true, Nat.blt_eq] at hb
    refine ⟨_, _, _, rfl, ?_, alloc_ok ho hb.1 (.exact rfl hc.1.symm fun i v hi => ?_)⟩
    · exact Mp.add_self ..
    · rw [T.get_ofList (by simpa using hb.2), Array.getElem?_toList] at hi
      obtain ⟨y, h1, h2⟩ := (hc.mono hm).get hi
      exact ⟨(Array.getElem?_eq_some_iff.1 hi).1, y, h1, h2⟩
theorem sim_newObj {o o' : Obj} (h : OR m0 o o') : Sim P (fun m r r' => m r = some (r', 0)) m0 (newObj o) (newObj o') := by
  intro m s w hm ho x s2 hr
  simp only [newObj, arun] at hr
  have hl : layObj s o = bif Nat.blt s.next lim && plainObj o then some { heap := s.heap.set s.next (.obj o), next := s.next + 1, wr := s.wr } else none := by cases h <;> rfl
  rw [hl] at hr
  cases hb : (Nat.blt s.next lim && plainObj o) with
  | false => rw [hb] at hr; cases hr
  | true =>
    rw [hb] at hr
    simp only [cond] at hr
    injection hr with hr; injection hr with e1 e2; subst e1; subst e2
    simp only [Bool.and_eq_true, Nat.blt_eq] at hb
    exact ⟨_, _, _, rfl, Mp.add_self .., alloc_ok ho hb.1 (.obj rfl (h.mono hm))⟩
/-- An object is turned into another one. -/
theorem put_ok (h : Ok P m s w) {b c x : Nat} {o o2 : AObj} {o2' : Obj} (hlt : b < lim) (hb : s.heap.get b = some o) (hc : m b = some (c, x)) (hoo : OO P m x o2 o2') :
    Post P m s w m { heap := s.heap.set b o2, next := s.next, wr := s.wr.set b () } { w with heap := w.heap.setIfInBounds c o2' } := by
  have hget : ∀ j, (s.heap.set b o2).get j = if j = b then some o2 else s.heap.get j := fun j => T.get_set hlt
  have hcs : c < w.heap.size := by
    obtain ⟨c2, y2, o3, h1, h2, _⟩ := h.dom b o hb
    rw [hc] at h1; injection h1 with h1; injection h1 with e1 _; subst e1
    exact (Array.getElem?_eq_some_iff.1 h2).1
  refine ⟨⟨fun b' o1 hb' => ?_, fun b1 b2 o1 o2 c1 x1 x2 h1' h2' h3' h4' => ?_, h.glob, h.new⟩, .refl m, Nat.le_refl _, fun b' _ hb' => ?_, fun b' _ hb' => ?_, fun b' hb' => ?_, fun c1 hc1 hf => ?_, fun b1 c1 x1 h1' h2' => absurd (h1'.symm.trans h2') (by simp), by simp, rfl, rfl, rfl, fun _ _ => rfl, fun b1 o1 c1 x1 h1' h2' h3' => ?_⟩
  · dsimp only at hb'
    rw [hget] at hb'
    by_cases e1 : b' = b
    · subst e1
      rw [if_pos rfl] at hb'; injection hb' with hb'; subst hb'
      exact ⟨c, x, _, hc, by simp [hcs], hoo⟩
    · rw [if_neg e1] at hb'
      obtain ⟨c2, x2, o3, g1, g2, g3⟩ := h.dom b' o1 hb'
      refine ⟨c2, x2, o3, g1, ?_, g3⟩
      rw [Array.getElem?_setIfInBounds_ne fun e2 => e1 (h.inj b' b o1 _ c2 x2 x hb' hb g1 (by rw [hc, e2]))]; exact g2
  · dsimp only at h1' h2'
    rw [hget] at h1' h2'
    have k1 : ∃ o, s.heap.get b1 = some o := by split at h1' <;> first | exact ⟨_, ‹b1 = b› ▸ hb⟩ | exact ⟨_, h1'⟩
    have k2 : ∃ o, s.heap.get b2 = some o := by split at h2' <;> first | exact ⟨_, ‹b2 = b› ▸ hb⟩ | exact ⟨_, h2'⟩
    obtain ⟨p1, k1⟩ := k1; obtain ⟨p2, k2⟩ := k2
    exact h.inj b1 b2 p1 p2 c1 x1 x2 k1 k2 h3' h4'
  · dsimp only at hb'
    rw [hget] at hb'
    split at hb'
    · rename_i e1; rw [e1, hb]; simp
    · exact hb'
  · dsimp only at hb' ⊢
    rw [T.get_set hlt] at hb'
    rw [hget]
    split at hb'
    · cases hb'
    · rename_i e1; rw [if_neg e1]
  · dsimp only at hb'
    rw [T.get_set hlt] at hb'
    split at hb'
    · cases hb'
    · exact hb'
  · dsimp only
    rw [Array.getElem?_setIfInBounds_ne fun e2 => hf b _ x hb (by rw [hc, e2])]
  · dsimp only at h3' ⊢
    rw [T.get_set hlt] at h3'
    split at h3'
    · cases h3'
    · rename_i e1
      rw [Array.getElem?_setIfInBounds_ne fun e2 => e1 (h.inj b1 b o1 _ c1 x1 x h1' hb h2' (by rw [hc, e2]))]
theorem sim_setObj {b c x : Nat} (hb : m0 b = some (c, x)) {o o' : Obj} (h : OR m0 o o') : Sim P (fun _ _ _ => True) m0 (setObj b o) (setObj c o') := by
  intro m s w hm ho u s2 hr
  simp only [setObj, arun, putObj] at hr
  split at hr
  · rename_i s1 hg
    injection hr with hr; injection hr with e1 e2; subst e2
    split at hg
    · rename_i o1 h1
      cases hq : (Nat.blt b lim && plainObj o) with
      | false => rw [hq] at hg; cases hg
      | true =>
        rw [hq] at hg
        simp only [cond] at hg
        injection hg with hg; subst hg
        simp only [Bool.and_eq_true, Nat.blt_eq] at hq
        obtain ⟨c', x', o2, h2, h3, h4⟩ := ho.dom _ _ h1
        rw [hm _ _ hb] at h2; injection h2 with h2; injection h2 with e1 e2; subst e1; subst e2
        cases h4 with
        | obj hx h4 =>
          refine ⟨m, (), _, ?_, trivial, put_ok ho hq.1 h1 (hm _ _ hb) (.obj hx (h.mono hm))⟩
          cases h4 <;> simp [setObj, Sem.run, h3]
    · cases hg
  · cases hr
theorem sim_choose (q : Question) : Sim P (fun _ x y => x = y) m0 (choose q) (choose q) := by
  intro m s w hm ho u s2 hr
  simp only [choose, arun] at hr
  split at hr
  · rename_i hg
    injection hr with hr; injection hr with e1 e2; subst e1; subst e2
    exact ⟨m, 0, w, by simp [choose, Sem.run, hg], rfl, .refl ho⟩
  · cases hr
/-! ### Computations made of these -/
def UR : Mp → Unit → Unit → Prop := fun _ _ _ => True
theorem sim_unit : Sim P UR m0 (Pure.pure () : Sem Unit) (Pure.pure ()) := Sim.pure trivial fun _ _ h => h
theorem sim_pureV {v v' : Value} (h : VR m0 v v') : Sim P VR m0 (Pure.pure v : Sem Value) (Pure.pure v') := Sim.pure h fun _ hm h => h.mono hm
theorem sim_pureA {v v' : Array Value} (h : AR m0 v v') : Sim P AR m0 (Pure.pure v : Sem (Array Value)) (Pure.pure v') := Sim.pure h fun _ hm h => h.mono hm
theorem sim_pureAd {v v' : Addr} (h : AdR m0 v v') : Sim P AdR m0 (Pure.pure v : Sem Addr) (Pure.pure v') := Sim.pure h fun _ hm h => h.mono hm
theorem sim_eq {α : Type} (x : α) : Sim P (fun _ x y => x = y) m0 (Pure.pure x : Sem α) (Pure.pure x) := Sim.pure rfl fun _ _ h => h
/-- Behind a quiet computation. -/
theorem Sim.quiet {α β γ : Type} {R : Mp → β → γ → Prop} {a : Sem α} {f : α → Sem β} {g : α → Sem γ} (h : Quiet P a) (hf : ∀ x, Sim P R m0 (f x) (g x)) : Sim P R m0 (a >>= f) (a >>= g) :=
  Sim.bind h.sim fun m x y hm e => by subst e; exact (hf x).weak hm
theorem sim_loadCellsFrom : ∀ (n i : Nat) {m0 : Mp} {a a' : Addr} (_ : AdR m0 a a') {xs ys : Array Value} (_ : AR m0 xs ys), Sim P AR m0 (loadCellsFrom a i n xs) (loadCellsFrom a' i n ys)
  | 0, _, _, _, _, _, _, _, h => sim_pureA h
  | n + 1, i, _, _, _, ha, _, _, h => Sim.bind (sim_load (ha.add i)) fun _ _ _ hm hv => sim_loadCellsFrom n (i + 1) (ha.mono hm) ((h.mono hm).push hv)
theorem sim_loadCells {a a' : Addr} (ha : AdR m0 a a') (n : Nat) : Sim P AR m0 (loadCells a n) (loadCells a' n) := sim_loadCellsFrom n 0 ha .nil
theorem sim_storeCells : ∀ {vs vs' : List Value} {m0 : Mp} (_ : LR m0 vs vs') (i : Nat) {a a' : Addr} (_ : AdR m0 a a'), Sim P UR m0 (storeCells a vs i) (storeCells a' vs' i)
  | [], _, _, .nil, _, _, _, _ => sim_unit
  | _ :: _, _, _, .cons hv ht, i, _, _, ha => Sim.bind (sim_store (ha.add i) hv) fun _ _ _ hm _ => sim_storeCells (ht.mono hm) (i + 1) (ha.mono hm)
theorem sim_loadVar {a a' : Addr} (ha : AdR m0 a a') (t : TypeId) : Sim P VR m0 (loadVar t a) (loadVar t a') := by
  unfold loadVar
  refine Sim.quiet (.isAgg t) fun b => ?_
  cases b
  · exact sim_load ha
  · exact Sim.quiet (.sizeOf t) fun n => Sim.bind (sim_loadCells ha n) fun m x y hm h => sim_pureV h.agg
theorem sim_storeVar {a a' : Addr} (ha : AdR m0 a a') (t : TypeId) {v v' : Value} (hv : VR m0 v v') : Sim P UR m0 (storeVar t a v) (storeVar t a' v') := by
  unfold storeVar
  refine Sim.quiet (.sizeOf t) fun n => ?_
  rw [hv.cells.1]
  split
  · exact Sim.bind (R := UR) Sim.halt fun m x y hm _ => sim_storeCells ((ar_iff.1 hv.cells).mono hm) 0 (ha.mono hm)
  · exact Sim.bind sim_unit fun m x y hm _ => sim_storeCells ((ar_iff.1 hv.cells).mono hm) 0 (ha.mono hm)
theorem sim_newRow {c c' : Array Value} (hc : AR m0 c c') (e : TypeId) : Sim P AdR m0 (newRow e c) (newRow e c') :=
  Sim.bind (sim_newCells hc e) fun _ _ _ _ h => sim_pureAd (.mk h)
/-- .. of which nothing is unknown. -/
inductive Ad0 (m : Mp) : Addr → Addr → Prop where
  | mk {b c o : Nat} (h : m b = some (c, 0)) : Ad0 m ⟨b, o, none⟩ ⟨c, o, none⟩
theorem sim_newRow0 {c c' : Array Value} (hc : AR m0 c c') (e : TypeId) : Sim P Ad0 m0 (newRow e c) (newRow e c') :=
  Sim.bind (sim_newCells hc e) fun _ _ _ _ h => Sim.pure (.mk h) fun _ hm h => by obtain ⟨h⟩ := h; exact .mk (hm _ _ h)
theorem Ad0.slice {m : Mp} {a a' : Addr} (h : Ad0 m a a') (n k : Nat) : VR m (.slice (some a) n k) (.slice (some a') n k) := by obtain ⟨h⟩ := h; exact .slice h
theorem sim_newVar {v v' : Value} (hc : VR m0 v v') (e : TypeId) : Sim P AdR m0 (newVar e v) (newVar e v') := sim_newRow hc.cells e
theorem ptr_of {m : Mp} {a a' : Addr} (h : AdR m a a') : VR m (.pointer (some a)) (.pointer (some a')) := by obtain ⟨h⟩ := h; exact .ptr h
theorem ptr_inv {m : Mp} {v' : Value} {a : Addr} (h : VR m (.pointer (some a)) v') : ∃ a', v' = .pointer (some a') ∧ AdR m a a' := by cases h with | ptr h => exact ⟨_, rfl, .mk h⟩
theorem sim_sureAddr {v v' : Value} (h : VR m0 v v') : Sim P AdR m0 (Instr.sureAddr v) (Instr.sureAddr v') := by
  cases h <;> first | exact Sim.halt | exact sim_pureAd (.mk ‹_›)
theorem sim_asInt {v v' : Value} (h : VR m0 v v') : Sim P (fun _ x y => x = y) m0 (asInt v) (asInt v') := by
  cases h with
  | int k n => exact (Quiet.asInt _).sim
  | ptr h => exact Sim.bind (R := fun _ x y => x = y) Sim.halt fun _ _ _ _ h => by subst h; exact sim_eq _
  | _ => exact Sim.bind (R := fun _ x y => x = y) Sim.halt fun _ _ _ _ h => by subst h; exact sim_eq _
end
end Go.Proofs.YtgfnakdfhfoplaaGreatDoor.Cx
