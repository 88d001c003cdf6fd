/- More operations on what is known. Generic over the program. -/
import Derived.Test.YtgfnakdfhfoplaaGreatDoorCxE
namespace Go.Proofs.YtgfnakdfhfoplaaGreatDoor.Cx
open Go
section
variable {P : Program} {m m0 m1 m2 m3 : Mp} {s s1 s2 s3 : St} {w w1 w2 w3 : World}
theorem sim_part {xs ys : Array Value} (h : AR m0 xs ys) (t : TypeId) (off : Nat) : Sim P VR m0 (part t xs off) (part t ys off) := by
  unfold part
  refine Sim.quiet (.isAgg t) fun b => ?_
  cases b
  · cases hx : xs[off]? with
    | none => exact Sim.halt
    | some x =>
      obtain ⟨y, hy, hv⟩ := h.get hx
      rw [hy]; exact sim_pureV hv
  · exact Sim.quiet (.sizeOf t) fun n => sim_pureV (h.extract _ _).agg
theorem sim_asAgg {v v' : Value} (h : VR m0 v v') : Sim P AR m0 (asAgg v) (asAgg v') := by
  cases h with
  | agg hs h => exact sim_pureA ⟨hs, h⟩
  | _ => exact Sim.halt
theorem sim_field {v v' : Value} (h : VR m0 v v') (t : TypeId) (i : Nat) : Sim P VR m0 (Instr.field t v i) (Instr.field t v' i) := by
  unfold Instr.field
  refine Sim.quiet (.underlying t) fun d => ?_
  cases d with
  | struct fs =>
    dsimp only
    cases fs[i]? with
    | none => exact Sim.halt
    | some f => exact Sim.bind (sim_asAgg h) fun _ _ _ _ h => sim_part h _ _
  | _ => exact Sim.halt
/-- What the operation knows of its types: the field takes room. -/
def fsolid (P : Program) (t : TypeId) (i : Nat) : Bool := match P.underlying t with
  | some (.struct fs) => (match fs[i]? with
    | some f => solid P f.type
    | none => true)
  | _ => true
/-- What a type is, known. -/
theorem sim_under {α β : Type} {R : Mp → α → β → Prop} (t : TypeId) {f : TypeDesc → Sem α} {g : TypeDesc → Sem β} (h : ∀ d, P.underlying t = some d → Sim P R m0 (f d) (g d)) : Sim P R m0 (underlying t >>= f) (underlying t >>= g) := by
  intro m s w hm ho x s2 hr
  have hr : arun P ((underlying t).bind f) s = some (x, s2) := hr
  rw [arun_bind] at hr
  unfold underlying Go.program at hr
  simp only [bind, Sem.bind, arun] at hr
  cases hd : P.underlying t with
  | none => rw [hd] at hr; cases hr
  | some d =>
    rw [hd] at hr
    have hr : arun P (f d) s = some (x, s2) := hr
    obtain ⟨m2, y, w2, e1, hR, hp⟩ := h d hd m s w hm ho x s2 hr
    refine ⟨m2, y, w2, ?_, hR, hp⟩
    rw [Sem.run_bind, show (underlying t).run P w = .ok d w by simp [underlying, Go.program, Sem.run, hd]]
    exact e1
theorem sim_sizeK {α β : Type} {R : Mp → α → β → Prop} (t : TypeId) {f : Nat → Sem α} {g : Nat → Sem β} (h : ∀ k, SizeIs P t k → Sim P R m0 (f k) (g k)) : Sim P R m0 (sizeOf t >>= f) (sizeOf t >>= g) := by
  intro m s w hm ho x s2 hr
  have hr : arun P ((sizeOf t).bind f) s = some (x, s2) := hr
  rw [arun_bind] at hr
  unfold sizeOf typeInfo Go.program at hr
  simp only [bind, Sem.bind, arun] at hr
  cases hd : P.info? t with
  | none => rw [hd] at hr; cases hr
  | some d =>
    rw [hd] at hr
    have hr : arun P (f d.size) s = some (x, s2) := hr
    obtain ⟨m2, y, w2, e1, hR, hp⟩ := h d.size ⟨d, hd, rfl⟩ m s w hm ho x s2 hr
    refine ⟨m2, y, w2, ?_, hR, hp⟩
    rw [Sem.run_bind, show (sizeOf t).run P w = .ok d.size w by simp [sizeOf, typeInfo, Go.program, Sem.run, hd]]
    exact e1
theorem sim_fieldAt {v v' : Value} (h : VR m0 v v') {t : TypeId} {i : Nat} (hs : fsolid P t i = true) : Sim P VR m0 (Instr.fieldAt t v i) (Instr.fieldAt t v' i) := by
  unfold Instr.fieldAt
  refine sim_under t fun d hd => ?_
  unfold fsolid at hs
  rw [hd] at hs
  cases d with
  | struct fs =>
    dsimp only at hs ⊢
    cases hf : fs[i]? with
    | none => exact Sim.halt
    | some f =>
      rw [hf] at hs
      dsimp only at hs ⊢
      refine Sim.bind (sim_sureAddr h) fun m a a' hm ha => ?_
      unfold fieldPlace
      rw [bind_assoc, bind_assoc]
      refine sim_sizeK f.type fun k hk => ?_
      obtain ⟨inf, h1, h2⟩ := hk
      unfold solid at hs
      rw [h1] at hs
      have hk : ¬ k = 0 := by rw [← h2]; simpa using hs
      rw [if_neg hk, if_neg hk, pure_bind, pure_bind]
      exact sim_pureV (ptr_of (ha.add _))
  | _ => exact Sim.halt
theorem sim_asIntOf {v v' : Value} (h : VR m0 v v') : Sim P (fun _ x y => x = y) m0 (asIntOf v) (asIntOf v') := by
  cases h <;> first | exact Sim.halt | exact sim_eq _
theorem sim_indexAt {v v' i i' : Value} (h : VR m0 v v') (hi : VR m0 i i') (t : TypeId) : Sim P VR m0 (Instr.indexAt t v i) (Instr.indexAt t v' i') := by
  unfold Instr.indexAt
  refine Sim.bind (sim_asIntOf hi) fun m x y hm e => ?_
  subst e
  obtain ⟨k, i⟩ := x
  dsimp only
  refine sim_under t fun d hd => ?_
  have h := h.mono hm
  have tail : ∀ {m2 : Mp} {b b' : Option Addr} (len : Nat) (elem : TypeId) (tiny : Bool), (b = none ∧ b' = none ∨ ∃ a a', b = some a ∧ b' = some a' ∧ AdR m2 a a') → Sim P VR m2
      (match b with
        | some a => if 0 ≤ i ∧ i < (len : Int) then sizeOf elem >>= fun z => Pure.pure (Value.pointer (some (a.add (i.toNat * z))))
          else if tiny = true then unsupported (.noEntry "op/indexAddr.an index out of range at an array of length 0 or 1 (ledger 616)") else boundsPanic k i len .index
        | none => boundsPanic k i 0 .index)
      (match b' with
        | some a => if 0 ≤ i ∧ i < (len : Int) then sizeOf elem >>= fun z => Pure.pure (Value.pointer (some (a.add (i.toNat * z))))
          else if tiny = true then unsupported (.noEntry "op/indexAddr.an index out of range at an array of length 0 or 1 (ledger 616)") else boundsPanic k i len .index
        | none => boundsPanic k i 0 .index) := by
    intro m2 b b' len elem tiny hb
    rcases hb with ⟨rfl, rfl⟩ | ⟨a, a', rfl, rfl, ha⟩
    · exact (dead_bounds _ _ _ _).sim
    · dsimp only
      split
      · exact Sim.quiet (.sizeOf elem) fun z => sim_pureV (ptr_of (ha.add _))
      · split
        · exact Sim.halt
        · exact (dead_bounds _ _ _ _).sim
  cases d with
  | array n e =>
    dsimp only
    refine Sim.bind (sim_sureAddr h) fun m2 a a' hm2 ha => ?_
    rw [pure_bind, pure_bind]
    dsimp only
    rw [show (underlying t : Sem TypeDesc) = underlying t from rfl]
    refine Sim.quiet (.underlying t) fun d2 => ?_
    exact tail n e _ (.inr ⟨a, a', rfl, rfl, ha⟩)
  | slice e =>
    cases h with
    | snil n k2 => dsimp only; rw [pure_bind]; exact Sim.quiet (.underlying t) fun _ => tail n e false (.inl ⟨rfl, rfl⟩)
    | slice h2 => dsimp only; rw [pure_bind, pure_bind]; exact Sim.quiet (.underlying t) fun d2 => tail _ e _ (.inr ⟨_, _, rfl, rfl, .mk h2⟩)
    | ghost b o q c o' k =>
      refine Dead.sim ?_
      dsimp only
      rw [pure_bind]
      refine Dead.right _ fun d2 => ?_
      dsimp only
      rw [if_neg (by omega)]
      split
      · exact Dead.halt _
      · exact dead_bounds _ _ _ _
    | _ => exact Sim.halt
  | _ => exact Sim.halt
theorem sim_index {v v' i i' : Value} (h : VR m0 v v') (hi : VR m0 i i') (t : TypeId) : Sim P VR m0 (Instr.index t v i) (Instr.index t v' i') := by
  unfold Instr.index
  refine Sim.bind (sim_asIntOf hi) fun m x y hm e => ?_
  subst e
  obtain ⟨k, i⟩ := x
  dsimp only
  refine Sim.quiet (.underlying t) fun d => ?_
  have h := h.mono hm
  cases d with
  | array n e =>
    cases h with
    | agg hs h2 =>
      dsimp only
      split
      · exact Sim.quiet (.sizeOf e) fun z => sim_part ⟨hs, h2⟩ _ _
      · exact (dead_bounds _ _ _ _).sim
    | _ => exact Sim.halt
  | string =>
    cases h with
    | string s =>
      dsimp only
      split
      · exact sim_pureV (.int _ _)
      · exact (dead_bounds _ _ _ _).sim
    | _ => exact Sim.halt
  | _ => exact Sim.halt
theorem sim_extract {v v' : Value} (h : VR m0 v v') (i : Nat) : Sim P VR m0 (Instr.extract v i) (Instr.extract v' i) := by
  cases h with
  | tuple hs h2 =>
    rename_i xs ys
    unfold Instr.extract
    dsimp only
    cases hx : xs[i]? with
    | none => exact Sim.halt
    | some x =>
      obtain ⟨y, hy, hv⟩ := AR.get ⟨hs, h2⟩ hx
      rw [hy]; exact sim_pureV hv
  | _ => exact Sim.halt
theorem sim_makeMap (t : TypeId) {r r' : Option Value} (h : r = none ∧ r' = none ∨ ∃ v v', r = some v ∧ r' = some v' ∧ VR m0 v v') : Sim P VR m0 (Instr.makeMap t r) (Instr.makeMap t r') := by
  have tail : ∀ {m1 : Mp}, Sim P VR m1 (newObj (.map #[] 0) >>= fun a => Pure.pure (Value.map (some a))) (newObj (.map #[] 0) >>= fun a => Pure.pure (Value.map (some a))) := fun {m1} =>
    Sim.bind (sim_newObj (.map .nil)) fun _ _ _ _ h => sim_pureV (.map h)
  unfold Instr.makeMap
  rcases h with ⟨rfl, rfl⟩ | ⟨v, v', rfl, rfl, hv⟩
  · exact tail
  · dsimp only
    refine Sim.quiet (.underlying t) fun d => ?_
    cases d with
    | map k e => exact Sim.bind (sim_asInt hv) fun _ _ _ _ _ => tail
    | _ => exact Sim.halt
theorem sim_makeSlice {t : TypeId} (hz : ∀ e, P.underlying t = some (.slice e) → zflat P e = true) {l l' c c' : Value} (hl : VR m0 l l') (hc : VR m0 c c') : Sim P VR m0 (Instr.makeSlice t l c) (Instr.makeSlice t l' c') := by
  unfold Instr.makeSlice
  refine sim_under t fun d hd => ?_
  cases d with
  | slice e =>
    have hz := hz e hd
    refine Sim.bind (sim_asInt hl) fun m x y hm e1 => ?_
    subst e1
    refine Sim.bind (sim_asInt (hc.mono hm)) fun m2 z y hm2 e1 => ?_
    subst e1
    refine Sim.quiet (.typeInfo e) fun inf => ?_
    dsimp only
    have tail : ∀ {m3 : Mp} {zz zz' : Array Value} (n l c : Nat), AR m3 zz zz' → Sim P VR m3
        (newRow e ((Array.range n).map fun i => zz[i % zz.size]!) >>= fun a => Pure.pure (Value.slice (some a) l c))
        (newRow e ((Array.range n).map fun i => zz'[i % zz'.size]!) >>= fun a => Pure.pure (Value.slice (some a) l c)) :=
      fun n l c hzz => Sim.bind (sim_newRow0 (rep_rel hzz _) e) fun _ _ _ _ h => sim_pureV (h.slice _ _)
    split
    · split
      · exact (Dead.left (dead_panic _) _).sim
      · split
        · exact (Dead.left (dead_panic _) _).sim
        · exact (Dead.right _ fun _ => Dead.left (by split <;> exact dead_panic _) _).sim
    · refine Sim.quiet ?_ fun _ => Sim.quiet (.sizeOf e) fun sz => ?_
      · unfold askRoom
        split
        · exact .mark _
        · exact .pure ()
      · split
        · exact tail _ _ _ .nil
        · exact Sim.bind (sim_zeroValue hz) fun _ _ _ _ h => tail _ _ _ h.cells
  | _ => exact Sim.halt
end
end Go.Proofs.YtgfnakdfhfoplaaGreatDoor.Cx
