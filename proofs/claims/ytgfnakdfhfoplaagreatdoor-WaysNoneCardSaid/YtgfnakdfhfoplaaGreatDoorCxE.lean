/- The operations on what is known: each holds in memory. Generic over the program. -/
import Derived.Test.YtgfnakdfhfoplaaGreatDoorCxD
namespace Go.Proofs.YtgfnakdfhfoplaaGreatDoor.Cx
open Go
/-- A zero value that holds no address. -/
def zflat (P : Program) (t : TypeId) : Bool := match P.info? t with
  | some i => (match i.zero with
    | some z => flat z
    | none => true)
  | none => true
def solid (P : Program) (t : TypeId) : Bool := match P.info? t with
  | some i => i.size != 0
  | none => true
section
variable {P : Program} {m m0 m1 m2 m3 : Mp} {s s1 s2 s3 : St} {w w1 w2 w3 : World}
/-- A computation that is never run. -/
def Dead {α : Type} (P : Program) (a : Sem α) : Prop := ∀ s, arun P a s = none
theorem Dead.sim {α β : Type} {R : Mp → α → β → Prop} {a : Sem α} {c : Sem β} (h : Dead P a) : Sim P R m0 a c := fun _ s _ _ _ _ _ hr => by rw [h s] at hr; cases hr
theorem Dead.left {α β : Type} {a : Sem α} (h : Dead P a) (f : α → Sem β) : Dead P (a >>= f) := fun s => by
  show arun P (a.bind f) s = none
  rw [arun_bind, h s]; rfl
theorem Dead.right {α β : Type} (a : Sem α) {f : α → Sem β} (h : ∀ x, Dead P (f x)) : Dead P (a >>= f) := fun s => by
  show arun P (a.bind f) s = none
  rw [arun_bind]
  cases arun P a s with
  | none => rfl
  | some r => exact h r.1 r.2
theorem Dead.halt {α : Type} (h : Halt) : Dead P (Sem.halt h : Sem α) := fun _ => rfl
theorem dead_panic {α : Type} (e : RuntimeError) : Dead P (runtimePanic e : Sem α) := by
  unfold runtimePanic
  refine Dead.right _ fun p => ?_
  cases e <;> first | exact Dead.halt _ | exact Dead.right _ fun _ => Dead.right _ fun _ => Dead.halt _
theorem dead_bounds {α : Type} (k : IntKind) (x y : Int) (c : BoundsCode) : Dead P (boundsPanic k x y c : Sem α) := by
  unfold boundsPanic
  dsimp only
  split
  · exact Dead.right _ fun _ => dead_panic _
  · exact Dead.right _ fun _ => dead_panic _
theorem sim_zeroValue {t : TypeId} (hz : zflat P t = true) : Sim P VR m0 (zeroValue t) (zeroValue t) := by
  intro m s w hm ho x s2 hr
  obtain ⟨e, h⟩ := Quiet.zeroValue t s x s2 hr
  subst e
  refine ⟨m, x, w, h w, ?_, .refl ho⟩
  unfold zeroValue typeInfo Go.program at hr
  simp only [bind, Sem.bind, arun] at hr
  cases hi : P.info? t with
  | none => rw [hi] at hr; cases hr
  | some i =>
    rw [hi] at hr
    simp only [pure, Sem.bind] at hr
    unfold zflat at hz
    rw [hi] at hz
    dsimp only at hz hr
    cases hz2 : i.zero with
    | none => rw [hz2] at hr; cases hr
    | some z =>
      rw [hz2] at hz hr
      have hr : some (z, s2) = some (x, s2) := hr
      injection hr with hr; injection hr with e _; subst e
      exact vr_flat hz
theorem sim_alloc {t : TypeId} (hz : zflat P t = true) : Sim P VR m0 (Instr.alloc t true (.tuple #[])) (Instr.alloc t true (.tuple #[])) :=
  Sim.bind (sim_zeroValue hz) fun _ _ _ _ h => Sim.bind (sim_newVar h t) fun _ _ _ _ h => sim_pureV (ptr_of h)
theorem sim_box {v v' : Value} (h : VR m0 v v') (t : TypeId) : Sim P VR m0 (Instr.box t v) (Instr.box t v') := Sim.bind (sim_newVar h t) fun _ _ _ _ h => sim_pureV (ptr_of h)
theorem sim_loadAt {v v' : Value} (h : VR m0 v v') (t : TypeId) : Sim P VR m0 (Instr.loadAt t v) (Instr.loadAt t v') := Sim.bind (sim_sureAddr h) fun _ _ _ _ h => sim_loadVar h t
theorem sim_storeAt {v v' u u' : Value} (h : VR m0 v v') (hu : VR m0 u u') (t : TypeId) : Sim P UR m0 (Instr.storeAt t v u) (Instr.storeAt t v' u') := Sim.bind (sim_sureAddr h) fun _ _ _ hm h => sim_storeVar h t (hu.mono hm)
/-! ### Parts -/
inductive PR (m : Mp) : List (Nat × Value) → List (Nat × Value) → Prop where
  | nil : PR m [] []
  | cons {i : Nat} {v v' : Value} {l l' : List (Nat × Value)} (h : VR m v v') (t : PR m l l') : PR m ((i, v) :: l) ((i, v') :: l')
theorem PR.mono {m m' : Mp} (hm : m.le m') {l l' : List (Nat × Value)} (h : PR m l l') : PR m' l l' := by
  induction h with
  | nil => exact .nil
  | cons h _ ih => exact .cons (h.mono hm) ih
theorem fill_fold {m : Mp} (off : Nat) : ∀ {l l' : List Value} (_ : LR m l l') (k : Nat) {xs ys : Array Value} (_ : AR m xs ys),
    AR m ((l.zipIdx k).foldl (fun cs cj => cs.setIfInBounds (off + cj.2) cj.1) xs) ((l'.zipIdx k).foldl (fun cs cj => cs.setIfInBounds (off + cj.2) cj.1) ys)
  | [], _, .nil, _, _, _, h => h
  | _ :: _, _, .cons hv ht, k, _, _, h => by
    simp only [List.zipIdx_cons, List.foldl_cons]
    exact fill_fold off ht (k + 1) (h.set _ hv)
theorem fill_rel {m : Mp} (place : Nat → Option (Nat × Nat)) : ∀ {l l' : List (Nat × Value)} (_ : PR m l l') {xs ys : Array Value} (_ : AR m xs ys),
    (Instr.fill place xs l = none ∧ Instr.fill place ys l' = none) ∨ ∃ us vs, Instr.fill place xs l = some us ∧ Instr.fill place ys l' = some vs ∧ AR m us vs
  | [], _, .nil, _, _, h => .inr ⟨_, _, rfl, rfl, h⟩
  | (i, v) :: l, (_, v') :: l', .cons hv ht, xs, ys, h => by
    unfold Instr.fill
    cases place i with
    | none => exact .inl ⟨rfl, rfl⟩
    | some os =>
      obtain ⟨off, size⟩ := os
      dsimp only
      rw [← hv.cells.1, ← h.1]
      split
      · exact .inl ⟨rfl, rfl⟩
      · refine fill_rel place ht ?_
        have := fill_fold off (ar_iff.1 hv.cells) 0 h
        show AR m (Array.foldl _ xs v.cells.zipIdx) (Array.foldl _ ys v'.cells.zipIdx)
        rw [← Array.foldl_toList, ← Array.foldl_toList, Array.toList_zipIdx, Array.toList_zipIdx]
        exact this
theorem sim_build {t : TypeId} (hz : zflat P t = true) {ps ps' : Array (Nat × Value)} (h : PR m0 ps.toList ps'.toList) : Sim P VR m0 (Instr.build t ps) (Instr.build t ps') := by
  unfold Instr.build
  refine Sim.bind (sim_zeroValue hz) fun m z z' hm hv => Sim.quiet (.underlying t) fun d => ?_
  have h := h.mono hm
  cases d with
  | struct fields =>
    refine Sim.bind (R := fun _ x y => x = y) (Quiet.sim ?_) fun m2 x y hm2 e => ?_
    · intro s x s2 hr
      have key : ∀ (l : List Field) (s : St) (x : List (Nat × Nat)) (s2 : St), arun P (l.mapM (m := Sem) fun f => do pure (f.offset, ← sizeOf f.type)) s = some (x, s2) →
          s2 = s ∧ ∀ w, (l.mapM (m := Sem) fun f => do pure (f.offset, ← sizeOf f.type)).run P w = .ok x w := by
        intro l
        induction l with
        | nil => exact fun s x s2 hr => Quiet.pure [] s x s2 hr
        | cons f l ih =>
          have hq : Quiet P ((f :: l).mapM (m := Sem) fun f => do pure (f.offset, ← sizeOf f.type)) := by
            rw [List.mapM_cons]
            exact Quiet.bind (Quiet.bind (.sizeOf _) fun _ => .pure _) fun _ => Quiet.bind (fun s x s2 hr => ih s x s2 hr) fun _ => .pure _
          exact fun s x s2 hr => hq s x s2 hr
      have hq : Quiet P (fields.mapM (m := Sem) fun f => do pure (f.offset, ← sizeOf f.type)) := by
        rw [← Array.toArray_toList (xs := fields), List.mapM_toArray]
        exact Quiet.bind (fun s x s2 hr => key fields.toList s x s2 hr) fun _ => .pure _
      exact hq s x s2 hr
    · subst e
      rcases fill_rel (x[·]?) (h.mono hm2) (hv.cells.mono hm2) with ⟨h1, h2⟩ | ⟨us, vs, h1, h2, h3⟩
      · rw [h1, h2]; exact Sim.halt
      · rw [h1, h2]; exact sim_pureV h3.agg
  | array n e =>
    refine Sim.quiet (.sizeOf e) fun size => ?_
    rcases fill_rel (fun i => some (i * size, size)) h hv.cells with ⟨h1, h2⟩ | ⟨us, vs, h1, h2, h3⟩
    · rw [h1, h2]; exact Sim.halt
    · rw [h1, h2]; exact sim_pureV h3.agg
  | _ => exact Sim.halt
theorem rep_rel {z z' : Array Value} (h : AR m0 z z') (n : Nat) : AR m0 ((Array.range n).map (fun i => z[i % z.size]!)) ((Array.range n).map (fun i => z'[i % z'.size]!)) := by
  refine ⟨by simp, fun i hi => ?_⟩
  have hi2 : i < n := by simpa using hi
  have e : ∀ (z : Array Value), ((Array.range n).map (fun i => z[i % z.size]!)).getD i undef = z[i % z.size]! := fun z => by simp [Array.getD_eq_getD_getElem?, hi2]
  rw [e, e, ← h.1]
  by_cases hz : z.size = 0
  · have hz2 : z'.size = 0 := h.1 ▸ hz
    rw [Array.eq_empty_of_size_eq_zero hz, Array.eq_empty_of_size_eq_zero hz2]
    simp only [getElem!_def]
    exact vr_flat1 rfl
  · have hlt : i % z.size < z.size := Nat.mod_lt _ (by omega)
    have := h.2 _ hlt
    simp only [Array.getD_eq_getD_getElem?] at this
    rw [getElem!_def, getElem!_def]
    rw [Array.getElem?_eq_getElem hlt, Array.getElem?_eq_getElem (h.1 ▸ hlt)] at this ⊢
    exact this
theorem sim_buildSlice {t : TypeId} (hz : ∀ e, P.underlying t = some (.slice e) → zflat P e = true) {len : Nat} {ps ps' : Array (Nat × Value)} (h : PR m0 ps.toList ps'.toList) : Sim P VR m0 (Instr.buildSlice t len ps) (Instr.buildSlice t len ps') := by
  unfold Instr.buildSlice underlying Go.program
  simp only [bind_assoc]
  refine Sim.bind (R := fun _ x y => x = y ∧ x = P) ?_ fun m p p' hm e => ?_
  · intro m s w hm ho x s2 hr
    have hr : some (P, s) = some (x, s2) := hr
    injection hr with hr; injection hr with e1 e2; subst e1; subst e2
    exact ⟨m, P, w, rfl, ⟨rfl, rfl⟩, .refl ho⟩
  obtain ⟨rfl, rfl⟩ := e
  have h := h.mono hm
  cases hd : p.underlying t with
  | none => exact Sim.halt
  | some d =>
    cases d with
    | slice e =>
      show Sim _ VR m ((Pure.pure (TypeDesc.slice e) : Sem TypeDesc) >>= _) ((Pure.pure (TypeDesc.slice e) : Sem TypeDesc) >>= _)
      rw [pure_bind, pure_bind]
      refine Sim.quiet (.sizeOf e) fun size => ?_
      split
      · exact Sim.halt
      · have tail : ∀ {m2 : Mp} {z z' : Array Value}, m.le m2 → AR m2 z z' → Sim p VR m2
            (match Instr.fill (fun i => some (i * size, size)) (Array.map (fun x => z[x % z.size]!) (Array.range (len * size))) ps.toList with
              | some cells => newRow e cells >>= fun a => Pure.pure (Value.slice (some a) len len)
              | _ => stuck "buildSlice: a part of the wrong size")
            (match Instr.fill (fun i => some (i * size, size)) (Array.map (fun x => z'[x % z'.size]!) (Array.range (len * size))) ps'.toList with
              | some cells => newRow e cells >>= fun a => Pure.pure (Value.slice (some a) len len)
              | _ => stuck "buildSlice: a part of the wrong size") := by
          intro m2 z z' hm2 hzz
          rcases fill_rel (fun i => some (i * size, size)) (h.mono hm2) (rep_rel hzz (len * size)) with ⟨h1, h2⟩ | ⟨us, vs, h1, h2, h3⟩
          · rw [h1, h2]; exact Sim.halt
          · rw [h1, h2]
            exact Sim.bind (sim_newRow0 h3 e) fun _ _ _ _ h => sim_pureV (h.slice _ _)
        split
        · exact tail (.refl _) .nil
        · exact Sim.bind (sim_zeroValue (hz e hd)) fun _ _ _ hm2 h => tail hm2 h.cells
    | _ => exact Sim.halt
end
end Go.Proofs.YtgfnakdfhfoplaaGreatDoor.Cx
