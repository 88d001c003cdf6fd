/- Numbers, strings, equality on what is known. Generic over the program. -/
import Derived.Test.YtgfnakdfhfoplaaGreatDoorCxF
import Derived.Laws.StructEq
namespace Go.Proofs.YtgfnakdfhfoplaaGreatDoor.Cx
open Go
/-- A computation whose run is told, from what is known. -/
def SimAt {α β : Type} (P : Program) (R : Mp → α → β → Prop) (m : Mp) (s : St) (w : World) (r : Option (α × St)) (c : Sem β) : Prop :=
  ∀ x s2, r = some (x, s2) → ∃ m2 y w2, c.run P w = .ok y w2 ∧ R m2 x y ∧ Post P m s w m2 s2 w2
section
variable {P : Program} {m m0 m1 m2 m3 : Mp} {s s1 s2 s3 : St} {w w1 w2 w3 : World}
theorem Sim.at {α β : Type} {R : Mp → α → β → Prop} {a : Sem α} {c : Sem β} (h : Sim P R m a c) (ho : Ok P m s w) : SimAt P R m s w (arun P a s) c := fun x s2 hr => h m s w (.refl _) ho x s2 hr
theorem Dead.quiet {α : Type} {a : Sem α} (h : Dead P a) : Quiet P a := fun s _ _ hr => by rw [h s] at hr; cases hr
theorem quiet_shift (op : BinOp) (k k' : IntKind) (a b : Int) : Quiet P (Op.shift op k a k' b) := by
  unfold Op.shift
  split
  · exact (dead_panic _).quiet
  · dsimp only; split <;> first | exact .pure _ | exact .halt
theorem quiet_bin (op : BinOp) (t : TypeId) (k k' : IntKind) (a b : Int) : Quiet P (binOp op t (.int k a) (.int k' b)) := by
  cases op <;> simp only [binOp] <;> first
    | exact quiet_shift _ _ _ _ _
    | (split
       · exact .halt
       · first
         | (unfold Op.intDiv; split <;> first | exact (dead_panic _).quiet | exact .pure _)
         | exact .pure _)
theorem quiet_str (op : BinOp) (t : TypeId) (a b : ByteArray) : Quiet P (binOp op t (.string a) (.string b)) := by
  cases op <;> simp only [binOp, Op.stringOp] <;> first
    | exact .pure _
    | exact .halt
    | (split <;> first | exact .halt | exact .pure _)
theorem quiet_un (op : UnOp) {v v' : Value} (h : VR m v v') : Sim P VR m (Op.unary op v) (Op.unary op v') := by
  cases h <;> cases op <;> first | exact Sim.halt | exact sim_pureV (.int _ _) | exact sim_pureV (.bool _)
/-- A block whose cells are all known. -/
def live (s : St) (b : Nat) : Bool := match s.heap.get b with
  | some (.cells _ _ _ false) => true
  | _ => false
def full (P : Program) (t : TypeId) : Bool := match P.info? t with
  | some i => i.size != 0
  | none => false
def aAgg (P : Program) (t : TypeId) (xs : Array Value) (off : Nat) : Option Value := match P.info? t with
  | some i => some (.agg (xs.extract off (off + i.size)))
  | none => none
def aPart (P : Program) (t : TypeId) (xs : Array Value) (off : Nat) : Option Value := match P.underlying t with
  | some (.struct _) => aAgg P t xs off
  | some (.array _ _) => aAgg P t xs off
  | some _ => xs[off]?
  | none => none
def aeqF (P : Program) (f : TypeId → Value → Value → Option Bool) (xs ys : Array Value) : List Field → Option Bool
  | [] => some true
  | d :: l => if d.name ≠ "_" then match aPart P d.type xs d.offset, aPart P d.type ys d.offset with
      | some a, some b => (match f d.type a b with
        | some true => aeqF P f xs ys l
        | some false => some false
        | none => none)
      | _, _ => none
    else aeqF P f xs ys l
def aeqA (P : Program) (f : Value → Value → Option Bool) (e : TypeId) (k : Nat) (xs ys : Array Value) : List Nat → Option Bool
  | [] => some true
  | i :: l => match aPart P e xs (i * k), aPart P e ys (i * k) with
      | some a, some b => (match f a b with
        | some true => aeqA P f e k xs ys l
        | some false => some false
        | none => none)
      | _, _ => none
def aeq (P : Program) (s : St) : Nat → TypeId → Value → Value → Option Bool
  | 0, _, _, _ => none
  | d + 1, t, x, y => match P.underlying t, x, y with
    | some .bool, .bool a, .bool b => some (a == b)
    | some (.int _), .int k a, .int k' b => if k = k' then some (a == b) else none
    | some .string, .string a, .string b => some (a == b)
    | some (.pointer _), .pointer none, .pointer b => some b.isNone
    | some (.pointer _), .pointer (some _), .pointer none => some false
    | some (.pointer e), .pointer (some a), .pointer (some b) => bif full P e && (live s a.block && live s b.block) then some (a == b) else none
    | some (.slice _), .slice none _ _, .slice b _ _ => some b.isNone
    | some (.slice _), .slice (some _) _ _, .slice none _ _ => some false
    | some (.map _ _), .map none, .map b => some b.isNone
    | some (.map _ _), .map (some _), .map none => some false
    | some (.func _ _ _), .nilFunc, .nilFunc => some true
    | some (.func _ _ _), .nilFunc, .func .. => some false
    | some (.func _ _ _), .func .., .nilFunc => some false
    | some (.struct fs), .agg xs, .agg ys => bif P.stoodInHeld t then none else aeqF P (aeq P s d) xs ys fs.toList
    | some (.array n e), .agg xs, .agg ys => (match P.info? e with
      | some i => aeqA P (aeq P s d e) e i.size xs ys (List.range' 0 n)
      | none => none)
    | _, _, _ => none
theorem run_under {t : TypeId} {d : TypeDesc} (h : P.underlying t = some d) (w : World) : (underlying t).run P w = .ok d w := by simp [underlying, Go.program, Sem.run, h]
theorem aPart_ok {xs ys : Array Value} (h : AR m xs ys) {t : TypeId} {off : Nat} {v : Value} (hv : aPart P t xs off = some v) : ∃ v', VR m v v' ∧ ∀ w, (part t ys off).run P w = .ok v' w := by
  have agg : (∀ w, (isAgg t).run P w = .ok true w) → aAgg P t xs off = some v → ∃ v', VR m v v' ∧ ∀ w, (part t ys off).run P w = .ok v' w := by
    intro ha e
    unfold aAgg at e
    cases hi : P.info? t with
    | none => rw [hi] at e; cases e
    | some i =>
      rw [hi] at e; injection e with e; subst e
      refine ⟨_, (h.extract off (off + i.size)).agg, fun w => ?_⟩
      unfold part
      rw [Sem.run_bind, ha]
      simp [sizeOf, typeInfo, Go.program, Sem.run, hi]
  have cell : (∀ w, (isAgg t).run P w = .ok false w) → xs[off]? = some v → ∃ v', VR m v v' ∧ ∀ w, (part t ys off).run P w = .ok v' w := by
    intro ha e
    obtain ⟨y, hy, hr⟩ := h.get e
    refine ⟨y, hr, fun w => ?_⟩
    unfold part
    rw [Sem.run_bind, ha]
    simp [hy]
  unfold aPart at hv
  cases hu : P.underlying t with
  | none => rw [hu] at hv; cases hv
  | some d =>
    rw [hu] at hv
    cases d <;> first
      | exact agg (fun w => by simp [isAgg, run_under hu]) hv
      | exact cell (fun w => by simp [isAgg, run_under hu]) hv
theorem aeqF_ok {D : Nat} {f : TypeId → Value → Value → Option Bool}
    (hf : ∀ {t : TypeId} {x y x' y' : Value} {r : Bool}, VR m x x' → VR m y y' → f t x y = some r → (Op.equalIn D t x' y').run P w = .ok r w)
    {xs ys xs' ys' : Array Value} (hx : AR m xs xs') (hy : AR m ys ys') : ∀ (l : List Field) (r : Bool), aeqF P f xs ys l = some r → (Op.eqFields D xs' ys' l).run P w = .ok r w
  | [], r, h => by injection h with h; subst h; rfl
  | d :: l, r, h => by
    unfold aeqF at h
    unfold Op.eqFields
    split at h
    · rename_i hn
      rw [if_pos hn]
      split at h
      · rename_i a b ha hb
        obtain ⟨a', ha1, ha2⟩ := aPart_ok hx ha
        obtain ⟨b', hb1, hb2⟩ := aPart_ok hy hb
        rw [Sem.run_bind, ha2, Result.andThen_ok, Sem.run_bind, hb2, Result.andThen_ok, Sem.run_bind]
        split at h
        · rename_i he
          rw [hf ha1 hb1 he, Result.andThen_ok]
          exact aeqF_ok hf hx hy l r h
        · rename_i he
          injection h with h; subst h
          rw [hf ha1 hb1 he, Result.andThen_ok]; rfl
        · cases h
      · cases h
    · rename_i hn
      rw [if_neg hn]
      exact aeqF_ok hf hx hy l r h
theorem aeqA_ok {D k : Nat} {e : TypeId} {f : Value → Value → Option Bool}
    (hf : ∀ {x y x' y' : Value} {r : Bool}, VR m x x' → VR m y y' → f x y = some r → (Op.equalIn D e x' y').run P w = .ok r w)
    {xs ys xs' ys' : Array Value} (hx : AR m xs xs') (hy : AR m ys ys') : ∀ (l : List Nat) (r : Bool), aeqA P f e k xs ys l = some r →
      (forIn l ((none : Option Bool), ()) fun i _ => part e xs' (i * k) >>= fun a => part e ys' (i * k) >>= fun b => Op.equalIn D e a b >>= fun c =>
        if (!c) = true then Pure.pure (ForInStep.done (some false, ())) else Pure.pure (ForInStep.yield ((none : Option Bool), ())) : Sem (Option Bool × Unit)).run P w = .ok (bif r then none else some false, ()) w
  | [], r, h => by injection h with h; subst h; rfl
  | i :: l, r, h => by
    unfold aeqA at h
    rw [List.forIn_cons]
    split at h
    · rename_i a b ha hb
      obtain ⟨a', ha1, ha2⟩ := aPart_ok hx ha
      obtain ⟨b', hb1, hb2⟩ := aPart_ok hy hb
      simp only [Sem.run_bind, ha2, Result.andThen_ok, hb2]
      split at h
      · rename_i he
        rw [hf ha1 hb1 he]
        simpa using aeqA_ok hf hx hy l r h
      · rename_i he
        injection h with h; subst h
        rw [hf ha1 hb1 he]; rfl
      · cases h
    · cases h
theorem live_ok (h : Ok P m s w) {b : Nat} (hl : live s b = true) : ∃ o c cs e, s.heap.get b = some o ∧ m b = some (c, 0) ∧ w.heap[c]? = some (.cells cs e (0, 0)) := by
  unfold live at hl
  split at hl
  · rename_i n c e h1
    obtain ⟨c', x', o', h2, h3, h4⟩ := h.dom _ _ h1
    cases h4 with
    | exact hx _ _ => subst hx; exact ⟨_, _, _, _, h1, h2, h3⟩
  · cases hl
theorem sameAddr_ok (h : Ok P m s w) {a b a' b' : Addr} (ha : AdR m a a') (hb : AdR m b b') (h1 : live s a.block = true) (h2 : live s b.block = true) : (sameAddr a' b').run P w = .ok (a == b) w := by
  obtain ⟨o1, c1, cs1, e1, g1, g2, g3⟩ := live_ok h h1
  obtain ⟨o2, c2, cs2, e2, k1, k2, k3⟩ := live_ok h h2
  obtain ⟨ha⟩ := ha
  obtain ⟨hb⟩ := hb
  rename_i b1 c1' x1 q1 b2 c2' x2 q2
  dsimp only at g1 g2 k1 k2
  rw [ha] at g2; injection g2 with g2; injection g2 with g2 g4; subst g2
  rw [hb] at k2; injection k2 with k2; injection k2 with k2 k4; subst k2
  by_cases hbb : b1 = b2
  · subst hbb
    rw [ha] at hb; injection hb with hb; injection hb with hb _; subst hb
    have : ((⟨b1, q1, none⟩ : Addr) == ⟨b1, q2, none⟩) = ((⟨c1', q1, none⟩ : Addr) == ⟨c1', q2, none⟩) := by
      by_cases e : q1 = q2
      · subst e; simp
      · rw [beq_eq_false_iff_ne.2 (by intro e2; injection e2 with _ e2; exact e e2), beq_eq_false_iff_ne.2 (by intro e2; injection e2 with _ e2; exact e e2)]
    rw [this]
    simp [sameAddr]
  · have hcc : ¬ c1' = c2' := fun e => hbb (h.inj b1 b2 o1 o2 c1' x1 x2 g1 k1 ha (by rw [hb, e]))
    have : ((⟨b1, q1, none⟩ : Addr) == ⟨b2, q2, none⟩) = false := beq_eq_false_iff_ne.2 (by intro e2; injection e2 with e2 _; exact hbb e2)
    rw [this]
    simp [sameAddr, hcc, frozen, Sem.run, World.frozen?, g3, k3, noView, viewAt, shape, World.shape?, mayBeOne, stringish]
theorem aeq_ok (h : Ok P m s w) : ∀ (d D : Nat), d ≤ D → ∀ {t : TypeId} {x y x' y' : Value} {r : Bool}, VR m x x' → VR m y y' → aeq P s d t x y = some r → (Op.equalIn D t x' y').run P w = .ok r w
  | 0, _, _, _, _, _, _, _, _, _, _, hr => nomatch hr
  | d + 1, 0, hle, _, _, _, _, _, _, _, _, _ => absurd hle (by omega)
  | d + 1, D + 1, hle, t, x, y, x', y', r, hx, hy, hr => by
    have ih := fun {t : TypeId} {x y x' y' : Value} {r : Bool} => aeq_ok h d D (by omega) (t := t) (x := x) (y := y) (x' := x') (y' := y') (r := r)
    unfold aeq at hr
    cases hu : P.underlying t with
    | none => rw [hu] at hr; cases hr
    | some td =>
      rw [hu] at hr
      unfold Op.equalIn
      rw [Sem.run_bind, run_under hu, Result.andThen_ok]
      cases td with
      | bool => cases hx <;> first | (cases hr; done) | (cases hy <;> first | (cases hr; done) | (injection hr with hr; subst hr; rfl))
      | string => cases hx <;> first | (cases hr; done) | (cases hy <;> first | (cases hr; done) | (injection hr with hr; subst hr; rfl))
      | int k => cases hx <;> first | (cases hr; done) | (cases hy <;> first | (cases hr; done) | (
          dsimp only at hr
          split at hr
          · injection hr with hr; subst hr; simp_all
          · cases hr))
      | pointer e =>
        cases hx <;> first | (cases hr; done) | (cases hy <;> first | (cases hr; done) | (injection hr with hr; subst hr; rfl) | skip)
        rename_i b1 c1 x1 o1 hb1 b2 c2 x2 o2 hb2
        dsimp only at hr
        cases hc : (full P e && (live s b1 && live s b2)) with
        | false => rw [hc] at hr; cases hr
        | true =>
          rw [hc] at hr
          simp only [cond] at hr
          injection hr with hr; subst hr
          simp only [Bool.and_eq_true] at hc
          obtain ⟨h1, h2, h3⟩ := hc
          unfold full at h1
          cases hi : P.info? e with
          | none => rw [hi] at h1; cases h1
          | some i =>
            rw [hi] at h1
            have hk : ¬ i.size = 0 := by simpa using h1
            have hs : (sizeOf e).run P w = .ok i.size w := by simp [sizeOf, typeInfo, Go.program, Sem.run, hi]
            dsimp only
            rw [Sem.run_bind, hs, Result.andThen_ok, if_pos hk]
            exact sameAddr_ok h (.mk hb1) (.mk hb2) h2 h3
      | slice e => cases hx <;> first | (cases hr; done) | (cases hy <;> first | (cases hr; done) | (injection hr with hr; subst hr; rfl))
      | map k e => cases hx <;> first | (cases hr; done) | (cases hy <;> first | (cases hr; done) | (injection hr with hr; subst hr; rfl))
      | func a b c => cases hx <;> first | (cases hr; done) | (cases hy <;> first | (cases hr; done) | (injection hr with hr; subst hr; rfl))
      | struct fs =>
        cases hx <;> first | (cases hr; done) | skip
        rename_i xs xs' hs1 hx
        cases hy <;> first | (cases hr; done) | skip
        rename_i ys ys' hs2 hy
        dsimp only at hr
        cases hc : P.stoodInHeld t with
        | true => rw [hc] at hr; cases hr
        | false =>
          rw [hc] at hr
          simp only [cond] at hr
          have := aeqF_ok (w := w) (D := D) (fun a b c => ih a b c) ⟨hs1, hx⟩ ⟨hs2, hy⟩ fs.toList r hr
          have e := run_equalIn_struct w D t xs' ys' (by rw [hu]; simp [Program.fieldsOf, hu]) hc
          rw [show P.fieldsOf t = fs by simp [Program.fieldsOf, hu]] at e
          rw [← e] at this
          unfold Op.equalIn at this
          rw [Sem.run_bind, run_under hu, Result.andThen_ok] at this
          exact this
      | array n e =>
        cases hx <;> first | (cases hr; done) | skip
        rename_i hs1 hx
        cases hy <;> first | (cases hr; done) | skip
        rename_i hs2 hy
        dsimp only at hr
        cases hi : P.info? e with
        | none => rw [hi] at hr; cases hr
        | some i =>
          rw [hi] at hr
          have := aeqA_ok (w := w) (D := D) (k := i.size) (e := e) (fun a b c => ih a b c) ⟨hs1, hx⟩ ⟨hs2, hy⟩ (List.range' 0 n) r hr
          have hs : (sizeOf e).run P w = .ok i.size w := by simp [sizeOf, typeInfo, Go.program, Sem.run, hi]
          dsimp only
          rw [Sem.run_bind, hs, Result.andThen_ok, Std.Legacy.Range.forIn_eq_forIn_range']
          simp only [Std.Legacy.Range.size, Nat.sub_zero, Nat.add_sub_cancel, Nat.div_one]
          rw [Sem.run_bind, this]
          cases r <;> rfl
      | _ => cases hr
end
end Go.Proofs.YtgfnakdfhfoplaaGreatDoor.Cx
