/- One operation on what is known. Generic over the program. -/
import Derived.Test.YtgfnakdfhfoplaaGreatDoorCxL
namespace Go.Proofs.YtgfnakdfhfoplaaGreatDoor.Cx
open Go
structure FI where
  body : Code
  ntmps : Nat
  results : Array ResultVar
def fiOf (f : Func) : Option FI := match f.body with
  | some b => bif f.name == "runtime.NumGoroutine" then none else some ⟨b, f.ntmps, f.results⟩
  | none => none
def FOk (P : Program) (F : T (Option FI)) : Prop := ∀ g fi, F.get g = some (some fi) → ∃ fn, P.funcs[g]? = some fn ∧ fiOf fn = some fi
def aev (P : Program) (t : T Value) : Operand → Option Value
  | .tmp i => t.get i
  | .const v => bif flat v then some v else none
  | .global g => bif Nat.blt g P.globals.size then some (.pointer (some ⟨g, 0, none⟩)) else none
  | .func f => some (.func (.func f) #[] #[])
def aevs (P : Program) (t : T Value) : List Operand → Option (List Value)
  | [] => some []
  | x :: l => match aev P t x with
    | some v => (match aevs P t l with
      | some vs => some (v :: vs)
      | none => none)
    | none => none
def aparts (P : Program) (t : T Value) : List (Nat × Operand) → Option (List (Nat × Value))
  | [] => some []
  | (i, x) :: l => match aev P t x with
    | some v => (match aparts P t l with
      | some vs => some ((i, v) :: vs)
      | none => none)
    | none => none
def aevO (P : Program) (t : T Value) : Option Operand → Option (Option Value)
  | none => some none
  | some x => match aev P t x with
    | some v => some (some v)
    | none => none
def vOf : Option (Value × St) → Option (Next × St)
  | some (v, s) => some (.value v, s)
  | none => none
def uOf : Option (Unit × St) → Option (Next × St)
  | some (_, s) => some (.skip, s)
  | none => none
def zslice (P : Program) (t : TypeId) : Bool := match P.underlying t with
  | some (.slice e) => zflat P e
  | _ => false
def isAggV : Value → Bool
  | .agg _ => true
  | _ => false
def solidV : Value → Bool
  | .pointer (some _) | .slice .. | .map _ | .int .. | .string _ | .bool _ => true
  | .func (.func _) _ _ => true
  | _ => false
/-- The end of a slice of which the room is not known: it is empty, wherever it lies. -/
def ghostCut (P : Program) (u : TypeId) (v : Value) (lo hi mx : Option Value) : Option Value := match P.underlying u with
  | some (.slice e) => (match P.info? e, v, lo, hi, mx with
    | some _, .slice (some ⟨b, o, none⟩) n cap, some (.int _ (.ofNat l)), none, none => bif Nat.beq n cap && Nat.beq l cap then some (.slice (some ⟨b, o, some 0⟩) 0 0) else none
    | _, _, _, _, _ => none)
  | _ => none
def acall (P : Program) (F : T (Option FI)) (t : T Value) (c : Call) (ty : TypeId) (s : St) : Option (Next × St) := match c.callee with
  | .builtin .append => (match c.args.toList, c.argTypes.toList with
    | [x, y], [u, u'] => bif Nat.beq u u' then (match aev P t x, aev P t y with
      | some a, some b => vOf (aapp P u a b s)
      | _, _ => none) else none
    | _, _ => none)
  | .builtin .len => (match aevs P t c.args.toList with
    | some l => vOf (arun P (Builtin.len_ c.argTypes ty l.toArray) s)
    | none => none)
  | .builtin .max => (match aevs P t c.args.toList with
    | some l => vOf (arun P (Builtin.max_ c.argTypes ty l.toArray) s)
    | none => none)
  | .builtin .min => (match aevs P t c.args.toList with
    | some l => vOf (arun P (Builtin.min_ c.argTypes ty l.toArray) s)
    | none => none)
  | .builtin .copy => (match aevs P t c.args.toList with
    | some l => vOf (arun P (Builtin.copy_ c.argTypes ty l.toArray) s)
    | none => none)
  | .value f => (match aev P t f, aevs P t c.args.toList with
    | some (.func (.func g) first caps), some l => (match F.get g with
      | some (some _) => some (.enter g (first ++ l.toArray ++ caps), s)
      | _ => none)
    | _, _ => none)
  | _ => none
def aexec (P : Program) (F : T (Option FI)) (t : T Value) (o : Oper) (s : St) : Option (Next × St) := match o.op with
  | .move x => (match aev P t x with
    | some v => some (.value v, s)
    | none => none)
  | .assign x => (match aev P t x with
    | some v => some (.value v, s)
    | none => none)
  | .pick c a b => (match aev P t c with
    | some (.bool true) => (match aev P t a with
      | some v => some (.value v, s)
      | none => none)
    | some (.bool false) => (match aev P t b with
      | some v => some (.value v, s)
      | none => none)
    | _ => none)
  | .alloc e => bif zflat P e then vOf (arun P (Instr.alloc e true (.tuple #[])) s) else none
  | .box e x => (match aev P t x with
    | some v => vOf (arun P (Instr.box e v) s)
    | none => none)
  | .build u ps => bif zflat P u then (match aparts P t ps.toList with
    | some l => vOf (arun P (Instr.build u l.toArray) s)
    | none => none) else none
  | .buildSlice u n ps => bif zslice P u then (match aparts P t ps.toList with
    | some l => vOf (arun P (Instr.buildSlice u n l.toArray) s)
    | none => none) else none
  | .load u a => (match aev P t a with
    | some v => vOf (arun P (Instr.loadAt u v) s)
    | none => none)
  | .store u a x => (match aev P t a, aev P t x with
    | some v, some y => uOf (arun P (Instr.storeAt u v y) s)
    | _, _ => none)
  | .nilCheck x => (match aev P t x with
    | some v => bif solidV v then some (.value v, s) else none
    | none => none)
  | .binOp op u x y _ => (match aev P t x, aev P t y with
    | some a, some b => bif scalars a b then vOf (arun P (binOp op u a b) s) else (match aeqB P s op u a b with
      | some r => some (.value (.bool r), s)
      | none => none)
    | _, _ => none)
  | .unOp op _ x => (match aev P t x with
    | some v => vOf (arun P (Op.unary op v) s)
    | none => none)
  | .convert src dst x => (match aev P t x with
    | some v => bif convOk P src dst v then vOf (arun P (convert src dst v) s) else none
    | none => none)
  | .makeFunc (.func f) first caps => (match aevs P t first.toList, aevs P t caps.toList with
    | some a, some b => some (.value (.func (.func f) a.toArray b.toArray), s)
    | _, _ => none)
  | .makeMap u r => (match aevO P t r with
    | some r => vOf (arun P (Instr.makeMap u r) s)
    | none => none)
  | .makeSlice u l c => bif zslice P u then (match aev P t l, aev P t c with
    | some a, some b => vOf (arun P (Instr.makeSlice u a b) s)
    | _, _ => none) else none
  | .slice u x lo hi mx => (match aev P t x, aevO P t lo, aevO P t hi, aevO P t mx with
    | some v, some lo, some hi, some mx => bif sliceOk P s u v lo mx then vOf (arun P (Instr.sliceAt u v lo hi mx) s) else (match ghostCut P u v lo hi mx with
      | some r => some (.value r, s)
      | none => none)
    | _, _, _, _ => none)
  | .fieldAddr u x i => bif fsolid P u i then (match aev P t x with
    | some v => vOf (arun P (Instr.fieldAt u v i) s)
    | none => none) else none
  | .field u x i => (match aev P t x with
    | some v => vOf (arun P (Instr.field u v i) s)
    | none => none)
  | .indexAddr u x i => (match aev P t x, aev P t i with
    | some v, some y => vOf (arun P (Instr.indexAt u v y) s)
    | _, _ => none)
  | .index u x i => (match aev P t x, aev P t i with
    | some v, some y => vOf (arun P (Instr.index u v y) s)
    | _, _ => none)
  | .lookup u x i ok => (match aev P t x, aev P t i with
    | some v, some y => (match alook P s u v y ok with
      | some r => some (.value r, s)
      | none => none)
    | _, _ => none)
  | .mapUpdate u x k y => (match aev P t x, aev P t k, aev P t y with
    | some a, some b, some c => bif isAggV b then none else (match aupd P s u a b c with
      | some s => some (.skip, s)
      | none => none)
    | _, _, _ => none)
  | .insert u x k y => (match aev P t x, aev P t k, aev P t y with
    | some a, some b, some c => bif isAggV b then none else (match aupd P s u a b c with
      | some s => some (.skip, s)
      | none => none)
    | _, _, _ => none)
  | .extract x i => (match aev P t x with
    | some v => vOf (arun P (Instr.extract v i) s)
    | none => none)
  | .call c => acall P F t c o.type s
  | _ => none
inductive NR (m : Mp) : Next → Next → Prop where
  | value {v v' : Value} (h : VR m v v') : NR m (.value v) (.value v')
  | skip : NR m .skip .skip
  | enter {f : FuncId} {xs ys : Array Value} (h : AR m xs ys) : NR m (.enter f xs) (.enter f ys)
section
variable {P : Program} {F : T (Option FI)} {m m0 m1 m2 m3 : Mp} {s s1 s2 s3 : St} {w w1 w2 w3 : World} {t : T Value} {a : Act}
theorem aev_ok (h : Ok P m s w) (ht : TR m t a.tmps) {x : Operand} {v : Value} (hx : aev P t x = some v) : VR m v (a.eval x) := by
  cases x with
  | tmp i =>
    obtain ⟨v', h1, h2⟩ := ht i v hx
    show VR m v (a.tmps.getD i undef)
    rw [Array.getD_eq_getD_getElem?, h1]; exact h2
  | const u =>
    unfold aev at hx
    dsimp only at hx
    cases hf : flat u with
    | false => rw [hf] at hx; cases hx
    | true => rw [hf] at hx; injection hx with hx; subst hx; exact vr_flat hf
  | global g =>
    unfold aev at hx
    dsimp only at hx
    cases hf : Nat.blt g P.globals.size with
    | false => rw [hf] at hx; cases hx
    | true => rw [hf] at hx; injection hx with hx; subst hx; exact .ptr (h.glob g (by simpa using hf))
  | func f =>
    injection hx with hx; subst hx
    exact .func (.func f) rfl (fun i hi => absurd hi (by simp)) rfl (fun i hi => absurd hi (by simp))
theorem aevs_ok (h : Ok P m s w) (ht : TR m t a.tmps) : ∀ {l : List Operand} {vs : List Value}, aevs P t l = some vs → LR m vs (l.map a.eval)
  | [], vs, hx => by injection hx with hx; subst hx; exact .nil
  | x :: l, vs, hx => by
    unfold aevs at hx
    split at hx
    · rename_i v hv
      split at hx
      · rename_i us hu
        injection hx with hx; subst hx
        exact .cons (aev_ok h ht hv) (aevs_ok h ht hu)
      · cases hx
    · cases hx
theorem aevs_arr (h : Ok P m s w) (ht : TR m t a.tmps) {xs : Array Operand} {vs : List Value} (hx : aevs P t xs.toList = some vs) : AR m vs.toArray (xs.map a.eval) := by
  rw [ar_iff, Array.toList_map]; exact aevs_ok h ht hx
theorem aparts_ok (h : Ok P m s w) (ht : TR m t a.tmps) : ∀ {l : List (Nat × Operand)} {vs : List (Nat × Value)}, aparts P t l = some vs → PR m vs (l.map fun ix => (ix.1, a.eval ix.2))
  | [], vs, hx => by injection hx with hx; subst hx; exact .nil
  | (i, x) :: l, vs, hx => by
    unfold aparts at hx
    split at hx
    · rename_i v hv
      split at hx
      · rename_i us hu
        injection hx with hx; subst hx
        exact .cons (aev_ok h ht hv) (aparts_ok h ht hu)
      · cases hx
    · cases hx
theorem aevO_ok (h : Ok P m s w) (ht : TR m t a.tmps) {x : Option Operand} {v : Option Value} (hx : aevO P t x = some v) : OVR m v (x.map a.eval) := by
  cases x with
  | none => injection hx with hx; subst hx; exact .inl ⟨rfl, rfl⟩
  | some x =>
    unfold aevO at hx
    dsimp only at hx
    split at hx
    · rename_i u hu; injection hx with hx; subst hx; exact .inr ⟨_, _, rfl, rfl, aev_ok h ht hu⟩
    · cases hx
theorem simAt_v {r : Option (Value × St)} {c : Sem Value} (h : SimAt P VR m s w r c) : SimAt P NR m s w (vOf r) (c >>= fun x => Pure.pure (.value x)) := by
  intro n s2 hr
  cases r with
  | none => cases hr
  | some r =>
    obtain ⟨v, s1⟩ := r
    injection hr with hr; injection hr with e1 e2; subst e1; subst e2
    obtain ⟨m2, v', w2, h1, h2, h3⟩ := h v s1 rfl
    exact ⟨m2, .value v', w2, by rw [Sem.run_bind, h1]; rfl, .value h2, h3⟩
theorem simAt_u {r : Option (Unit × St)} {c : Sem Unit} (h : SimAt P UR m s w r c) : SimAt P NR m s w (uOf r) (c >>= fun _ => Pure.pure .skip) := by
  intro n s2 hr
  cases r with
  | none => cases hr
  | some r =>
    obtain ⟨v, s1⟩ := r
    injection hr with hr; injection hr with e1 e2; subst e1; subst e2
    obtain ⟨m2, v', w2, h1, h2, h3⟩ := h v s1 rfl
    exact ⟨m2, .skip, w2, by rw [Sem.run_bind, h1]; rfl, .skip, h3⟩
theorem simAt_val (h : Ok P m s w) {v v' : Value} (hv : VR m v v') {c : Sem Next} (hc : c.run P w = .ok (.value v') w) : SimAt P NR m s w (some (.value v, s)) c := by
  intro n s2 hr
  injection hr with hr; injection hr with e1 e2; subst e1; subst e2
  exact ⟨m, _, w, hc, .value hv, .refl h⟩
theorem simAt_none {α β : Type} {R : Mp → α → β → Prop} {c : Sem β} : SimAt P R m s w none c := fun _ _ h => nomatch h
theorem callFunc_enter (hF : FOk P F) {g : FuncId} {fi : FI} (hg : F.get g = some (some fi)) (args : Array Value) (w : World) : (callFunc g args).run P w = .ok (.enter g args) w := by
  obtain ⟨fn, h1, h2⟩ := hF g fi hg
  unfold fiOf at h2
  split at h2
  · rename_i b hb
    cases hn : (fn.name == "runtime.NumGoroutine") with
    | true => rw [hn] at h2; cases h2
    | false =>
      unfold callFunc
      simp [Go.program, Sem.run, h1, hb]
      have : ¬ fn.name = "runtime.NumGoroutine" := by simpa using hn
      simp [this]
  · cases h2
theorem acall_ok (hF : FOk P F) (h : Ok P m s w) (ht : TR m t a.tmps) (c : Call) (ty : TypeId) : SimAt P NR m s w (acall P F t c ty s) (resolve a.eval c ty >>= fun d => invoke d.target d.args) := by
  unfold acall
  obtain ⟨callee, args, ats⟩ := c
  dsimp only
  have bi : ∀ (b : Builtin) (f : Array TypeId → TypeId → Array Value → Sem Value), (∀ ts ty cs xs, builtin b ts ty cs xs = (f ts ty xs >>= fun v => Pure.pure (.value v))) → (∀ ts ty xs ys, AR m xs ys → Sim P VR m (f ts ty xs) (f ts ty ys)) →
      SimAt P NR m s w (match aevs P t args.toList with | some l => vOf (arun P (f ats ty l.toArray) s) | none => none) (resolve a.eval { callee := .builtin b, args := args, argTypes := ats } ty >>= fun d => invoke d.target d.args) := by
    intro b f hb hf
    cases hx : aevs P t args.toList with
    | none => exact simAt_none
    | some l =>
      have h2 := simAt_v ((hf ats ty _ _ (aevs_arr h ht hx)).at h)
      intro x s2 hr
      obtain ⟨m2, y, w2, g1, g2, g3⟩ := h2 x s2 hr
      exact ⟨m2, y, w2, by rw [← g1]; unfold resolve; rw [pure_bind]; unfold invoke; dsimp only; rw [hb], g2, g3⟩
  cases callee with
  | builtin b =>
    cases b <;> first
      | exact simAt_none
      | exact bi _ _ (fun _ _ _ _ => rfl) (fun _ _ _ _ h => sim_len h)
      | exact bi _ _ (fun _ _ _ _ => rfl) (fun _ _ _ _ h => sim_max h)
      | exact bi _ _ (fun _ _ _ _ => rfl) (fun _ _ _ _ h => sim_min h)
      | exact bi _ _ (fun _ _ _ _ => rfl) (fun _ _ _ _ h => sim_copy h)
      | skip
    dsimp only
    split
    · rename_i x y u u' hargs hats
      cases hu : Nat.beq u u' with
      | false => exact simAt_none
      | true =>
        have hu := Nat.eq_of_beq_eq_true hu
        subst hu
        split
        · rename_i p q hp hq
          intro r s2 hr
          cases hap : aapp P u p q s with
          | none => rw [hap] at hr; cases hr
          | some vs =>
            obtain ⟨v, s3⟩ := vs
            rw [hap] at hr
            injection hr with hr; injection hr with e1 e2; subst e1; subst e2
            obtain ⟨m2, v', w2, g1, g2, g3⟩ := aapp_ok h ty (aev_ok h ht hp) (aev_ok h ht hq) hap
            refine ⟨m2, .value v', w2, ?_, .value g2, g3⟩
            have e1 : args = #[x, y] := Array.ext' hargs
            have e2 : ats = #[u, u] := Array.ext' hats
            subst e1; subst e2
            show (Builtin.append_ #[u, u] ty (#[x, y].map a.eval) >>= fun v => Pure.pure (Next.value v)).run P w = _
            rw [Sem.run_bind, show (#[x, y].map a.eval) = #[a.eval x, a.eval y] by simp, g1]; rfl
        · exact simAt_none
    · exact simAt_none
  | value f =>
    dsimp only
    split
    · rename_i g first caps l hf hl
      split
      · rename_i fi hg
        intro r s2 hr
        injection hr with hr; injection hr with e1 e2; subst e1; subst e2
        have hv := aev_ok h ht hf
        have hal := aevs_arr h ht hl
        generalize hfe : a.eval f = fv at hv
        cases hv with
        | func hf1 hx hxs hu hus =>
        cases hf1 with
        | func =>
        rename_i ys vs
        refine ⟨m, .enter g (ys ++ args.map a.eval ++ vs), w, ?_, .enter ((AR.append (AR.append ⟨hx, hxs⟩ hal) ⟨hu, hus⟩)), .refl h⟩
        unfold resolve
        dsimp only
        rw [hfe]
        show (callFunc g _).run P w = _
        exact callFunc_enter hF hg _ w
      · exact simAt_none
    · exact simAt_none
  | _ => exact simAt_none
theorem ghostCut_ok {u : TypeId} {v v' r : Value} {lo lo' hi hi' mx mx' : Option Value} (hv : VR m v v') (hl : OVR m lo lo') (hh : OVR m hi hi') (hm : OVR m mx mx') (hr : ghostCut P u v lo hi mx = some r) :
    ∃ r', (Instr.sliceAt u v' lo' hi' mx').run P w = .ok r' w ∧ VR m r r' := by
  unfold ghostCut at hr
  split at hr
  · rename_i e hu
    split at hr
    · rename_i i b o n cap k l hi
      cases hq : (Nat.beq n cap && Nat.beq l cap) with
      | false => rw [hq] at hr; cases hr
      | true =>
        rw [hq] at hr
        injection hr with hr; subst hr
        rw [Bool.and_eq_true, Nat.beq_eq, Nat.beq_eq] at hq
        obtain ⟨rfl, rfl⟩ := hq
        cases hv with
        | slice hb =>
        rename_i c x
        rcases hl with ⟨h1, _⟩ | ⟨p, p', h1, rfl, h2⟩
        · cases h1
        · injection h1 with h1; subst h1
          cases h2
          rcases hh with ⟨_, rfl⟩ | ⟨_, _, h3, _⟩
          · rcases hm with ⟨_, rfl⟩ | ⟨_, _, h3, _⟩
            · have hs : (sizeOf e).run P w = .ok i.size w := by simp [sizeOf, typeInfo, Go.program, Sem.run, hi]
              have hb2 : (Instr.sliceBounds true l (l + x) (some (.int k (.ofNat l))) none none).run P w = .ok (l, l, l + x) w := by
                simp [Instr.sliceBounds, Instr.sliceBound, asIntOf]
              refine ⟨.slice (if l + x = l then some ⟨c, o, none⟩ else some ((⟨c, o, none⟩ : Addr).add (l * i.size))) (l - l) (l + x - l), ?_, ?_⟩
              · unfold Instr.sliceAt
                rw [Sem.run_bind, run_under hu, Result.andThen_ok]
                dsimp only
                unfold Instr.slice
                rw [Sem.run_bind, run_under hu, Result.andThen_ok]
                dsimp only
                rw [Sem.run_bind, hb2, Result.andThen_ok]
                dsimp only
                rw [Sem.run_bind, hs, Result.andThen_ok]
                rfl
              · rw [Nat.sub_self]
                unfold Addr.add
                split
                · exact .ghost _ _ _ _ _ _
                · split <;> exact .ghost _ _ _ _ _ _
            · cases h3
          · cases h3
    · cases hr
  · cases hr
theorem upd_ok (h : Ok P m s w) (ht : TR m t a.tmps) (u : TypeId) (x k y : Operand) : SimAt P NR m s w (match aev P t x, aev P t k, aev P t y with
    | some a, some b, some c => bif isAggV b then none else (match aupd P s u a b c with
      | some s => some (.skip, s)
      | none => none)
    | _, _, _ => none) (Instr.mapUpdate u (a.eval x) (a.eval k) (a.eval y) >>= fun _ => Pure.pure .skip) := by
  cases hx : aev P t x with
  | none => exact simAt_none
  | some v =>
    cases hk : aev P t k with
    | none => exact simAt_none
    | some kv =>
      cases hy : aev P t y with
      | none => exact simAt_none
      | some z =>
        dsimp only
        cases hg : isAggV kv with
        | true => exact simAt_none
        | false =>
          cases hu : aupd P s u v kv z with
          | none => exact simAt_none
          | some s3 =>
            obtain ⟨w2, g1, g2⟩ := aupd_ok h (aev_ok h ht hx) (aev_ok h ht hk) (aev_ok h ht hy) (fun xs e => by subst e; cases hg) hu
            intro r s2 hr
            injection hr with hr; injection hr with e1 e2; subst e1; subst e2
            exact ⟨m, .skip, w2, by rw [Sem.run_bind, g1]; rfl, .skip, g2⟩
theorem aexec_ok (hF : FOk P F) (h : Ok P m s w) (ht : TR m t a.tmps) (o : Oper) : SimAt P NR m s w (aexec P F t o s) (execOp a.eval o) := by
  obtain ⟨dst, op, ty, pos, after, guard⟩ := o
  unfold aexec execOp
  have one : ∀ {x : Operand} {f : Value → Sem Value}, (∀ {v v' : Value}, VR m v v' → Sim P VR m (f v) (f v')) → SimAt P NR m s w (match aev P t x with | some v => vOf (arun P (f v) s) | none => none) (f (a.eval x) >>= fun x => Pure.pure (.value x)) := by
    intro x f hf
    cases hx : aev P t x with
    | none => exact simAt_none
    | some v => exact simAt_v ((hf (aev_ok h ht hx)).at h)
  have two : ∀ {x y : Operand} {f : Value → Value → Sem Value}, (∀ {v v' u u' : Value}, VR m v v' → VR m u u' → Sim P VR m (f v u) (f v' u')) → SimAt P NR m s w (match aev P t x, aev P t y with | some v, some u => vOf (arun P (f v u) s) | _, _ => none) (f (a.eval x) (a.eval y) >>= fun x => Pure.pure (.value x)) := by
    intro x y f hf
    cases hx : aev P t x with
    | none => exact simAt_none
    | some v =>
      cases hy : aev P t y with
      | none => exact simAt_none
      | some u => exact simAt_v ((hf (aev_ok h ht hx) (aev_ok h ht hy)).at h)
  cases op with
  | move x =>
    dsimp only
    cases hx : aev P t x with
    | none => exact simAt_none
    | some v => exact simAt_val h (aev_ok h ht hx) rfl
  | assign x =>
    dsimp only
    cases hx : aev P t x with
    | none => exact simAt_none
    | some v => exact simAt_val h (aev_ok h ht hx) rfl
  | pick c x y =>
    dsimp only
    split
    · rename_i hc
      have hc := aev_ok h ht hc
      generalize a.eval c = cv at hc
      cases hc
      cases hx : aev P t x with
      | none => exact simAt_none
      | some v => exact simAt_val h (aev_ok h ht hx) rfl
    · rename_i hc
      have hc := aev_ok h ht hc
      generalize a.eval c = cv at hc
      cases hc
      cases hx : aev P t y with
      | none => exact simAt_none
      | some v => exact simAt_val h (aev_ok h ht hx) rfl
    · exact simAt_none
  | alloc e =>
    dsimp only
    cases hz : zflat P e with
    | false => exact simAt_none
    | true => exact simAt_v ((sim_alloc hz).at h)
  | box e x => exact one fun hv => sim_box hv e
  | build u ps =>
    dsimp only
    cases hz : zflat P u with
    | false => exact simAt_none
    | true =>
      cases hp : aparts P t ps.toList with
      | none => exact simAt_none
      | some l => exact simAt_v ((sim_build hz (by have := aparts_ok h ht hp; simpa using this)).at h)
  | buildSlice u n ps =>
    dsimp only
    cases hz : zslice P u with
    | false => exact simAt_none
    | true =>
      cases hp : aparts P t ps.toList with
      | none => exact simAt_none
      | some l =>
        refine simAt_v ((sim_buildSlice (fun e he => ?_) (by have := aparts_ok h ht hp; simpa using this)).at h)
        unfold zslice at hz; rw [he] at hz; exact hz
  | load u x => exact one fun hv => sim_loadAt hv u
  | store u x y =>
    dsimp only
    cases hx : aev P t x with
    | none => exact simAt_none
    | some v =>
      cases hy : aev P t y with
      | none => exact simAt_none
      | some z => exact simAt_u ((sim_storeAt (aev_ok h ht hx) (aev_ok h ht hy) u).at h)
  | nilCheck x =>
    dsimp only
    cases hx : aev P t x with
    | none => exact simAt_none
    | some v =>
      cases hs : solidV v with
      | false => dsimp only; rw [hs]; exact simAt_none
      | true =>
        dsimp only
        rw [hs]
        have hv := aev_ok h ht hx
        refine simAt_val h hv ?_
        generalize a.eval x = xv at hv
        cases hv <;> first | (cases hs; done) | rfl | skip
        rename_i hf _ _ _ _
        cases hf <;> first | rfl | (cases hs; done)
  | binOp op u x y yt =>
    dsimp only
    cases hx : aev P t x with
    | none => exact simAt_none
    | some v =>
      cases hy : aev P t y with
      | none => exact simAt_none
      | some z =>
        dsimp only
        cases hs : scalars v z with
        | true => exact simAt_v (abin_scal h (aev_ok h ht hx) (aev_ok h ht hy) hs x y)
        | false =>
          cases hb : aeqB P s op u v z with
          | none => exact simAt_none
          | some r =>
            refine simAt_val h (.bool r) ?_
            rw [Sem.run_bind, aeqB_ok h (aev_ok h ht hx) (aev_ok h ht hy) hs hb x y]; rfl
  | unOp op u x => exact one fun hv => quiet_un op hv
  | convert src dst x =>
    dsimp only
    cases hx : aev P t x with
    | none => exact simAt_none
    | some v =>
      dsimp only
      cases hc : convOk P src dst v with
      | false => exact simAt_none
      | true => exact simAt_v ((sim_convert (aev_ok h ht hx) hc).at h)
  | makeFunc fn first caps =>
    cases fn <;> first | exact simAt_none | skip
    rename_i f
    dsimp only
    cases hx : aevs P t first.toList with
    | none => exact simAt_none
    | some v =>
      cases hy : aevs P t caps.toList with
      | none => exact simAt_none
      | some z =>
        have h1 := aevs_arr h ht hx
        have h2 := aevs_arr h ht hy
        exact simAt_val h (.func (.func f) h1.1 h1.2 h2.1 h2.2) rfl
  | makeMap u r =>
    dsimp only
    cases hx : aevO P t r with
    | none => exact simAt_none
    | some v => exact simAt_v ((sim_makeMap u (aevO_ok h ht hx)).at h)
  | makeSlice u l c =>
    dsimp only
    cases hz : zslice P u with
    | false => exact simAt_none
    | true => exact two fun h1 h2 => sim_makeSlice (fun e he => by unfold zslice at hz; rw [he] at hz; exact hz) h1 h2
  | slice u x lo hi mx =>
    dsimp only
    cases hx : aev P t x with
    | none => exact simAt_none
    | some v =>
      cases hl : aevO P t lo with
      | none => exact simAt_none
      | some lo2 =>
        cases hh : aevO P t hi with
        | none => exact simAt_none
        | some hi2 =>
          cases hm : aevO P t mx with
          | none => exact simAt_none
          | some mx2 =>
            dsimp only
            cases hk : sliceOk P s u v lo2 mx2 with
            | false =>
              cases hg : ghostCut P u v lo2 hi2 mx2 with
              | none => exact simAt_none
              | some r =>
                obtain ⟨r', h1, h2⟩ := ghostCut_ok (w := w) (aev_ok h ht hx) (aevO_ok h ht hl) (aevO_ok h ht hh) (aevO_ok h ht hm) hg
                exact simAt_val h h2 (by rw [Sem.run_bind, h1]; rfl)
            | true => exact simAt_v (sliceAt_ok h (aev_ok h ht hx) (aevO_ok h ht hl) (aevO_ok h ht hh) (aevO_ok h ht hm) hk)
  | fieldAddr u x i =>
    dsimp only
    cases hz : fsolid P u i with
    | false => exact simAt_none
    | true => exact one fun hv => sim_fieldAt hv hz
  | field u x i => exact one fun hv => sim_field hv u i
  | indexAddr u x i => exact two fun h1 h2 => sim_indexAt h1 h2 u
  | index u x i => exact two fun h1 h2 => sim_index h1 h2 u
  | lookup u x i ok =>
    dsimp only
    cases hx : aev P t x with
    | none => exact simAt_none
    | some v =>
      cases hy : aev P t i with
      | none => exact simAt_none
      | some z =>
        dsimp only
        cases hl : alook P s u v z ok with
        | none => exact simAt_none
        | some r =>
          obtain ⟨r', h1, h2⟩ := alook_ok h (aev_ok h ht hx) (aev_ok h ht hy) hl
          exact simAt_val h h2 (by rw [Sem.run_bind, h1]; rfl)
  | mapUpdate u x k y => exact upd_ok h ht u x k y
  | insert u x k y => exact upd_ok h ht u x k y
  | extract x i => exact one fun hv => sim_extract hv i
  | call c => exact acall_ok hF h ht c ty
  | _ => exact simAt_none
end
end Go.Proofs.YtgfnakdfhfoplaaGreatDoor.Cx
