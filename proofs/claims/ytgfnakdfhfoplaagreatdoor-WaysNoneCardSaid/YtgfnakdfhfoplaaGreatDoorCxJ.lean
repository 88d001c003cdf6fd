/- Operators, conversions, slicing, lengths, maps on what is known. Generic over the program. -/
import Derived.Test.YtgfnakdfhfoplaaGreatDoorCxI
namespace Go.Proofs.YtgfnakdfhfoplaaGreatDoor.Cx
open Go
section
variable {P : Program} {m m0 m1 m2 m3 : Mp} {s s1 s2 s3 : St} {w w1 w2 w3 : World}
/-! ### Operators -/
def scalars : Value → Value → Bool
  | .int .., .int .. => true
  | .string _, .string _ => true
  | _, _ => false
def aeqB (P : Program) (s : St) (op : BinOp) (t : TypeId) (x y : Value) : Option Bool :=
  bif (match x with | .agg _ => P.eqGuardType P.depth t | _ => false) then none else (match op with
    | .eql => aeq P s 20 t x y
    | .neq => (match aeq P s 20 t x y with
      | some b => some !b
      | none => none)
    | _ => none)
theorem sim_shift (op : BinOp) (k k' : IntKind) (a b : Int) : Sim P VR m0 (Op.shift op k a k' b) (Op.shift op k a k' b) := by
  unfold Op.shift
  split
  · exact (dead_panic _).sim
  · dsimp only; split <;> first | exact sim_pureV (.int _ _) | exact Sim.halt
theorem sim_int (op : BinOp) (t : TypeId) (k k' : IntKind) (a b : Int) : Sim P VR m0 (binOp op t (.int k a) (.int k' b)) (binOp op t (.int k a) (.int k' b)) := by
  cases op <;> simp only [binOp] <;> first
    | exact sim_shift _ _ _ _ _
    | (split
       · exact Sim.halt
       · first
         | (unfold Op.intDiv; split <;> first | exact (dead_panic _).sim | exact sim_pureV (.int _ _))
         | exact sim_pureV (.int _ _)
         | exact sim_pureV (.bool _))
theorem sim_str (op : BinOp) (t : TypeId) (a b : ByteArray) : Sim P VR m0 (binOp op t (.string a) (.string b)) (binOp op t (.string a) (.string b)) := by
  cases op <;> simp only [binOp, Op.stringOp] <;> first
    | exact sim_pureV (.bool _)
    | exact Sim.halt
    | (split <;> first | exact Sim.halt | exact sim_pureV (.string _))
theorem aeq_shape : ∀ {d : Nat} {t : TypeId} {x y : Value} {r : Bool}, aeq P s d t x y = some r → scalars x y = true ∨ (∃ a b, x = .agg a ∧ y = .agg b) ∨ (∀ (op : BinOp) (xo yo : Operand) (x' y' : Value) (w : World) (m : Mp), VR m x x' → VR m y y' → (eqGuard op t xo yo x' y').run P w = .ok () w ∧
    binOp .eql t x' y' = (Op.equal t x' y' >>= fun b => Pure.pure (.bool b)) ∧ binOp .neq t x' y' = (Op.equal t x' y' >>= fun b => Pure.pure (.bool !b))) := by
  intro d t x y r h
  cases d with
  | zero => cases h
  | succ d =>
    unfold aeq at h
    have fin : ∀ (x y : Value), (∀ m x' y', VR m x x' → VR m y y' → (∀ (op : BinOp) (xo yo : Operand) (w : World), (eqGuard op t xo yo x' y').run P w = .ok () w) ∧ binOp .eql t x' y' = (Op.equal t x' y' >>= fun b => Pure.pure (.bool b)) ∧ binOp .neq t x' y' = (Op.equal t x' y' >>= fun b => Pure.pure (.bool !b))) →
      (∀ (op : BinOp) (xo yo : Operand) (x' y' : Value) (w : World) (m : Mp), VR m x x' → VR m y y' → (eqGuard op t xo yo x' y').run P w = .ok () w ∧
        binOp .eql t x' y' = (Op.equal t x' y' >>= fun b => Pure.pure (.bool b)) ∧ binOp .neq t x' y' = (Op.equal t x' y' >>= fun b => Pure.pure (.bool !b))) :=
      fun x y h op xo yo x' y' w m hx hy => ⟨(h m x' y' hx hy).1 op xo yo w, (h m x' y' hx hy).2⟩
    split at h
    case h_2 => exact .inl rfl
    case h_3 => exact .inl rfl
    case h_14 => exact .inr (.inl ⟨_, _, rfl, rfl⟩)
    case h_15 => exact .inr (.inl ⟨_, _, rfl, rfl⟩)
    case h_16 => cases h
    all_goals
      refine .inr (.inr (fin _ _ fun m x' y' hx hy => ?_))
      cases hx <;> cases hy <;> exact ⟨fun op xo yo w => by cases op <;> rfl, rfl, rfl⟩
theorem abin_scal (h : Ok P m s w) {op : BinOp} {t : TypeId} {x y x' y' : Value} (hx : VR m x x') (hy : VR m y y') (hs : scalars x y = true) (xo yo : Operand) :
    SimAt P VR m s w (arun P (binOp op t x y) s) (eqGuard op t xo yo x' y' >>= fun _ => binOp op t x' y') := by
  intro v s2 hr
  cases x <;> cases y <;> first | (cases hs; done) | skip
  · cases hx; cases hy
    obtain ⟨m2, v', w2, g1, g2, g3⟩ := sim_int op t _ _ _ _ m s w (.refl _) h _ _ hr
    refine ⟨m2, v', w2, ?_, g2, g3⟩
    rw [Sem.run_bind]
    refine Eq.trans (congrArg (fun r => Result.andThen r _) (?_ : _ = Result.ok () w)) g1
    cases op <;> rfl
  · cases hx; cases hy
    obtain ⟨m2, v', w2, g1, g2, g3⟩ := sim_str op t _ _ m s w (.refl _) h _ _ hr
    refine ⟨m2, v', w2, ?_, g2, g3⟩
    rw [Sem.run_bind]
    refine Eq.trans (congrArg (fun r => Result.andThen r _) (?_ : _ = Result.ok () w)) g1
    cases op <;> rfl
theorem aeqB_ok (h : Ok P m s w) {op : BinOp} {t : TypeId} {x y x' y' : Value} {b : Bool} (hx : VR m x x') (hy : VR m y y') (hns : scalars x y = false) (hr : aeqB P s op t x y = some b) (xo yo : Operand) :
    (eqGuard op t xo yo x' y' >>= fun _ => binOp op t x' y').run P w = .ok (.bool b) w := by
  unfold aeqB at hr
  have key : ∀ r, aeq P s 20 t x y = some r → (Op.equal t x' y').run P w = .ok r w := fun r hr => aeq_ok h 20 10000 (by omega) hx hy hr
  cases hg : (match x with | .agg _ => P.eqGuardType P.depth t | _ => false) with
  | true => rw [hg] at hr; cases hr
  | false =>
    rw [hg] at hr
    simp only [cond] at hr
    have shape : ∀ r, aeq P s 20 t x y = some r → (eqGuard op t xo yo x' y').run P w = .ok () w ∧ binOp .eql t x' y' = (Op.equal t x' y' >>= fun b => Pure.pure (.bool b)) ∧ binOp .neq t x' y' = (Op.equal t x' y' >>= fun b => Pure.pure (.bool !b)) := by
      intro r hr
      rcases aeq_shape hr with h1 | ⟨p, q, rfl, rfl⟩ | h1
      · rw [hns] at h1; cases h1
      · cases hx; cases hy
        exact ⟨run_eqGuard_agg w op t xo yo _ _ hg, rfl, rfl⟩
      · exact ⟨(h1 op xo yo x' y' w m hx hy).1, (h1 op xo yo x' y' w m hx hy).2⟩
    cases op <;> first | (cases hr; done) | skip
    · dsimp only at hr
      obtain ⟨g1, g2, g3⟩ := shape b hr
      rw [Sem.run_bind, g1, Result.andThen_ok, g2, Sem.run_bind, key b hr]; rfl
    · dsimp only at hr
      split at hr
      · rename_i r hr2
        injection hr with hr; subst hr
        obtain ⟨g1, g2, g3⟩ := shape r hr2
        rw [Sem.run_bind, g1, Result.andThen_ok, g3, Sem.run_bind, key r hr2]; rfl
      · cases hr
/-! ### Conversions -/
theorem sim_forBytes {f : Value → ByteArray → Sem (ForInStep ByteArray)} (hf : ∀ {m1 : Mp} {x y : Value} (b : ByteArray), VR m1 x y → Sim P (fun _ u v => u = v) m1 (f x b) (f y b)) :
    ∀ {l l' : List Value} {m1 : Mp} (_ : LR m1 l l') (b : ByteArray), Sim P (fun _ u v => u = v) m1 (forIn l b f) (forIn l' b f)
  | [], _, _, .nil, b => sim_eq b
  | _ :: _, _, m1, .cons hv ht, b => by
    rw [List.forIn_cons, List.forIn_cons]
    refine Sim.bind (hf b hv) fun m2 u v hm e => ?_
    subst e
    cases u with
    | done b => exact sim_eq b
    | yield b => exact sim_forBytes hf (ht.mono hm) b
theorem sim_bytesToString {v v' : Value} (h : VR m0 v v') : Sim P VR m0 (Conv.bytesToString v) (Conv.bytesToString v') := by
  cases h with
  | snil n k => exact sim_pureV (.string _)
  | slice h =>
    unfold Conv.bytesToString
    dsimp only
    refine Sim.bind (sim_loadCells (.mk h) _) fun m1 xs ys hm hv => ?_
    rw [← Array.forIn_toList, ← Array.forIn_toList]
    refine Sim.bind (sim_forBytes (fun b hv => ?_) (ar_iff.1 hv) _) fun m2 u v hm e => by subst e; exact sim_pureV (.string _)
    cases hv with
    | int k n => cases k <;> first | exact sim_eq _ | exact Sim.halt
    | _ => exact Sim.halt
  | ghost b o q c o' k => exact sim_pureV (.string _)
  | _ => exact Sim.halt
/-- Which conversions are run. -/
def convOk (P : Program) (src dst : TypeId) (x : Value) : Bool := match x, P.underlying dst with
  | .int .., some (.int _) => true
  | .string _, some .string => true
  | .slice .., some .string => (match P.underlying src with
    | some (.slice e) => (match P.underlying e with
      | some (.int .u8) => true
      | _ => false)
    | _ => false)
  | _, _ => false
theorem sim_convert {src dst : TypeId} {v v' : Value} (h : VR m0 v v') (hc : convOk P src dst v = true) : Sim P VR m0 (convert src dst v) (convert src dst v') := by
  unfold convert
  refine sim_under src fun d hd => sim_under dst fun d2 hd2 => ?_
  unfold convOk at hc
  rw [hd2] at hc
  cases h with
  | int k n =>
    cases d2 <;> first | (cases hc; done) | skip
    cases d <;> exact sim_pureV (.int _ _)
  | string b =>
    cases d2 <;> first | (cases hc; done) | skip
    cases d <;> exact sim_pureV (.string _)
  | snil n k =>
    cases d2 <;> first | (cases hc; done) | skip
    dsimp only at hc
    rw [hd] at hc
    cases d <;> first | (cases hc; done) | skip
    rename_i e
    dsimp only at hc
    refine sim_under e fun d3 hd3 => ?_
    rw [hd3] at hc
    cases d3 <;> first | (cases hc; done) | skip
    rename_i k3
    cases k3 <;> first | (cases hc; done) | skip
    exact sim_bytesToString (.snil n k)
  | slice h =>
    cases d2 <;> first | (cases hc; done) | skip
    dsimp only at hc
    rw [hd] at hc
    cases d <;> first | (cases hc; done) | skip
    rename_i e
    dsimp only at hc
    refine sim_under e fun d3 hd3 => ?_
    rw [hd3] at hc
    cases d3 <;> first | (cases hc; done) | skip
    rename_i k3
    cases k3 <;> first | (cases hc; done) | skip
    exact sim_bytesToString (.slice h)
  | ghost b o q c o' k =>
    cases d2 <;> first | (cases hc; done) | skip
    dsimp only at hc
    rw [hd] at hc
    cases d <;> first | (cases hc; done) | skip
    rename_i e
    dsimp only at hc
    refine sim_under e fun d3 hd3 => ?_
    rw [hd3] at hc
    cases d3 <;> first | (cases hc; done) | skip
    rename_i k3
    cases k3 <;> first | (cases hc; done) | skip
    exact sim_bytesToString (.ghost b o q c o' k)
  | _ => cases hc
/-! ### Lengths, the greatest, copies -/
theorem ER.length {l l' : List MapEntry} (h : ER m l l') : l.length = l'.length := by
  induction h with
  | nil => rfl
  | cons _ _ _ _ ih => simp [ih]
theorem sim_len {ts : Array TypeId} {ty : TypeId} {xs ys : Array Value} (h : AR m0 xs ys) : Sim P VR m0 (Builtin.len_ ts ty xs) (Builtin.len_ ts ty ys) := by
  unfold Builtin.len_
  cases ht : ts[0]? with
  | none => exact Sim.halt
  | some t =>
    cases hx : xs[0]? with
    | none => exact Sim.halt
    | some x =>
      obtain ⟨y, hy, hv⟩ := h.get hx
      rw [hy]
      dsimp only
      refine Sim.quiet (.underlying t) fun d => ?_
      cases d <;> cases hv <;> first
        | exact Sim.halt
        | exact sim_pureV (.int _ _)
        | (refine Sim.quiet (.underlying _) fun d2 => ?_
           cases d2 <;> first | exact Sim.halt | exact sim_pureV (.int _ _))
        | (rename_i hm
           refine Sim.bind (sim_getObj hm) fun m1 o o' hm1 ho => ?_
           cases ho with
           | map he => dsimp only; rw [show Array.size _ = Array.size _ from he.length]; exact sim_pureV (.int _ _)
           | _ => exact Sim.halt)
theorem sim_asBool {v v' : Value} (h : VR m0 v v') : Sim P (fun _ x y => x = y) m0 (asBool v) (asBool v') := by
  cases h <;> first | exact Sim.halt | exact sim_eq _
theorem sim_max2 {x x' y y' : Value} (hx : VR m0 x x') (hy : VR m0 y y') : Sim P VR m0 (Builtin.max2 x y) (Builtin.max2 x' y') := by
  cases hx <;> cases hy <;> first
    | exact Sim.halt
    | exact sim_pureV (.int _ _)
    | (unfold Builtin.max2
       refine Sim.bind (sim_str .geq 0 _ _) fun m1 u v hm hv => ?_
       exact Sim.bind (sim_asBool hv) fun _ _ _ _ e => by subst e; exact sim_pureV (.string _))
theorem sim_min2 {x x' y y' : Value} (hx : VR m0 x x') (hy : VR m0 y y') : Sim P VR m0 (Builtin.min2 x y) (Builtin.min2 x' y') := by
  cases hx <;> cases hy <;> first
    | exact Sim.halt
    | exact sim_pureV (.int _ _)
    | (unfold Builtin.min2
       refine Sim.bind (sim_str .leq 0 _ _) fun m1 u v hm hv => ?_
       exact Sim.bind (sim_asBool hv) fun _ _ _ _ e => by subst e; exact sim_pureV (.string _))
theorem sim_foldlM {f : Value → Value → Sem Value} (hf : ∀ {m1 : Mp} {x x' y y' : Value}, VR m1 x x' → VR m1 y y' → Sim P VR m1 (f x y) (f x' y')) : ∀ {l l' : List Value} {m1 : Mp} (_ : LR m1 l l') {x x' : Value} (_ : VR m1 x x'),
    Sim P VR m1 (l.foldlM f x) (l'.foldlM f x')
  | [], _, _, .nil, _, _, h => sim_pureV h
  | _ :: _, _, _, .cons hv ht, _, _, h => by
    rw [List.foldlM_cons, List.foldlM_cons]
    exact Sim.bind (hf h hv) fun _ _ _ hm hz => sim_foldlM hf (ht.mono hm) hz
theorem sim_max {ts : Array TypeId} {ty : TypeId} {xs ys : Array Value} (h : AR m0 xs ys) : Sim P VR m0 (Builtin.max_ ts ty xs) (Builtin.max_ ts ty ys) := by
  have h := ar_iff.1 h
  unfold Builtin.max_
  generalize xs.toList = l at h
  generalize ys.toList = l' at h
  cases h with
  | nil => exact Sim.halt
  | cons hv ht => exact sim_foldlM (fun a b => sim_max2 a b) ht hv
theorem sim_min {ts : Array TypeId} {ty : TypeId} {xs ys : Array Value} (h : AR m0 xs ys) : Sim P VR m0 (Builtin.min_ ts ty xs) (Builtin.min_ ts ty ys) := by
  have h := ar_iff.1 h
  unfold Builtin.min_
  generalize xs.toList = l at h
  generalize ys.toList = l' at h
  cases h with
  | nil => exact Sim.halt
  | cons hv ht => exact sim_foldlM (fun a b => sim_min2 a b) ht hv
theorem sim_lenOf {v v' : Value} (h : VR m0 v v') : Sim P (fun _ x y => x = y) m0 (Builtin.lenOf v) (Builtin.lenOf v') := by
  cases h <;> first | exact Sim.halt | exact sim_eq _
theorem sim_firstCells {v v' : Value} (h : VR m0 v v') (size n : Nat) : Sim P AR m0 (Builtin.firstCells size n v) (Builtin.firstCells size n v') := by
  cases h with
  | snil => exact sim_pureA .nil
  | slice h => exact sim_loadCells (.mk h) _
  | ghost b o q c o' k =>
    show Sim P AR m0 (loadCells ⟨b, o, some q⟩ (n * size)) (loadCells ⟨c, o', none⟩ (n * size))
    cases n * size with
    | zero => exact sim_pureA .nil
    | succ j => exact Dead.sim (Dead.left (fun s => by simp [load, arun, getCell, Addr.add]) _)
  | string b =>
    refine sim_pureA ⟨rfl, fun i hi => ?_⟩
    have : ∀ (l : List UInt8), LR m0 (l.map fun b => Value.int .u8 b.toNat) (l.map fun b => Value.int .u8 b.toNat) := fun l => by
      induction l with
      | nil => exact .nil
      | cons x l ih => exact .cons (.int _ _) ih
    exact (ar_iff.2 (by rw [Array.toList_map]; exact this _)).2 i hi
  | _ => exact Sim.halt
theorem sim_copy {ts : Array TypeId} {ty : TypeId} {xs ys : Array Value} (h : AR m0 xs ys) : Sim P VR m0 (Builtin.copy_ ts ty xs) (Builtin.copy_ ts ty ys) := by
  unfold Builtin.copy_
  cases ht : ts[0]? with
  | none => exact Sim.halt
  | some t =>
    cases hx : xs[0]? with
    | none => exact Sim.halt
    | some x =>
      obtain ⟨x', hx', hv⟩ := h.get hx
      rw [hx']
      cases hy : xs[1]? with
      | none => exact Sim.halt
      | some y =>
        obtain ⟨y', hy', hu⟩ := h.get hy
        rw [hy']
        dsimp only
        refine Sim.quiet (.underlying t) fun d => ?_
        cases d with
        | slice e =>
          dsimp only
          cases hv with
          | snil n k =>
            refine Sim.bind (sim_lenOf hu) fun m1 a b hm e1 => ?_
            subst e1
            refine Sim.quiet (.sizeOf e) fun z => Sim.bind (sim_firstCells (hu.mono hm) z _) fun m2 c c' hm2 hc => ?_
            exact sim_pureV (.int _ _)
          | slice hb =>
            refine Sim.bind (sim_lenOf hu) fun m1 a b hm e1 => ?_
            subst e1
            refine Sim.quiet (.sizeOf e) fun z => Sim.bind (sim_firstCells (hu.mono hm) z _) fun m2 c c' hm2 hc => ?_
            exact Sim.bind (sim_storeCells (ar_iff.1 hc) 0 (.mk (hm2 _ _ (hm _ _ hb)))) fun _ _ _ _ _ => sim_pureV (.int _ _)
          | ghost b o q c o' k =>
            refine Sim.bind (sim_lenOf hu) fun m1 a b hm e1 => ?_
            subst e1
            refine Sim.quiet (.sizeOf e) fun z => Sim.bind (sim_firstCells (hu.mono hm) z _) fun m2 c c' hm2 hc => ?_
            refine Sim.bind (R := UR) ?_ fun _ _ _ _ _ => sim_pureV (.int _ _)
            have hc := ar_iff.1 hc
            generalize c.toList = l at hc
            generalize c'.toList = l' at hc
            cases hc with
            | nil => exact sim_unit
            | cons _ _ => exact Dead.sim (Dead.left (fun s => by simp [store, arun, putCell, Addr.add]) _)
          | _ => exact Sim.halt
        | _ => exact Sim.halt
end
end Go.Proofs.YtgfnakdfhfoplaaGreatDoor.Cx
