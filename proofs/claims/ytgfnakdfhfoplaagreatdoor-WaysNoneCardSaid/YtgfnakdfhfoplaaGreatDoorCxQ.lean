/- The run of code on what is known holds in memory. Generic over the program. -/
import Derived.Test.YtgfnakdfhfoplaaGreatDoorCxU
namespace Go.Proofs.YtgfnakdfhfoplaaGreatDoor.Cx
open Go
section
variable {P : Program} {F : T (Option FI)} {ih : Rec} {N : Nat} {m m0 m1 m2 m3 : Mp} {s s1 s2 s3 : St} {w w1 w2 w3 : World} {a a' : Fr} {A : Act} {R : Option Nat} {rd : Option Nat} {n : Nat}
theorem DR.append {l k : List Nat} {ds es : List Deferred} (h : DR m l ds) (h' : DR m k es) : DR m (l ++ k) (ds ++ es) := by
  induction h with
  | nil => exact h'
  | cons h _ ih => exact .cons h ih
theorem getLoop_run {c : Nat} {r : Loop} (h : w.heap[c]? = some (.loop r)) : (Instr.getLoop c).run P w = .ok r w := by
  simp [Instr.getLoop, getObj, Sem.run, h]
theorem setObj_loop {c : Nat} {r r2 : Loop} (h : w.heap[c]? = some (.loop r)) : (setObj c (.loop r2)).run P w = .ok () { w with heap := w.heap.setIfInBounds c (.loop r2) } := by
  simp [setObj, Sem.run, h]
theorem fresh_ok (h : Ok P m s w) {o : AObj} {o' : Obj} {x : Nat} (hf : fresh s o = some s2) (hoo : OO P m x o o') : Post P m s w (m.add s.next w.heap.size x) s2 { w with heap := w.heap.push o' } ∧ (m.add s.next w.heap.size x) s.next = some (w.heap.size, x) := by
  unfold fresh at hf
  cases hc : Nat.blt s.next lim with
  | false => rw [hc] at hf; cases hf
  | true =>
    rw [hc] at hf
    injection hf with hf; subst hf
    exact ⟨alloc_ok h (by simpa using hc) hoo, Mp.add_self ..⟩
theorem exArgs_ok {args : List Value} {xs : Array Value} {k : Nat} (hl : LR m args xs.toList) (hk : args.length ≤ k) (hlim : k < lim) : TR m (exArgs k args args.length) (xs ++ Array.replicate (k - xs.size) undef) := by
  have hx : xs.size = args.length := by have := hl.length; simp at this; omega
  intro i v hi
  unfold exArgs at hi
  rw [T.get_lay _ _ _ _ (by simp; omega), T.get_ofList (by omega)] at hi
  split at hi
  · rename_i hin
    rw [List.getElem?_replicate] at hi
    split at hi
    · injection hi with hi; subst hi
      refine ⟨undef, ?_, vr_undef _⟩
      rw [Array.getElem?_append_right (by omega), Array.getElem?_replicate, if_pos (by simp at hin; omega)]
    · cases hi
  · obtain ⟨y, h1, h2⟩ := hl.get hi
    refine ⟨y, ?_, h2⟩
    have hlt : i < args.length := (List.getElem?_eq_some_iff.1 hi).1
    rw [Array.getElem?_append_left (by omega)]
    simpa using h1
theorem setLoop_get {l : Nat} {st : LoopState} {p : Option (Option Code)} (h : setLoop s l st p = some s2) : ∃ st1 pd t k ps as bd d, s.heap.get l = some (.loop st1 pd t k ps as bd d) := by
  unfold setLoop at h
  split at h
  · rename_i hs; exact ⟨_, _, _, _, _, _, _, _, hs⟩
  · cases h
theorem end_ok (h : Ok P m s w) {l c x : Nat} (hl : m l = some (c, x)) {st : LoopState} {jump : Option Code} (hp : setLoop s l st (some jump) = some s2) (hst : st = if jump.isNone then .ready else .done) :
    ∃ w2, (Instr.endRound c jump).run P w = .ok (.bool jump.isNone) w2 ∧ Post P m s w m s2 w2 := by
  obtain ⟨st1, pd, t, k, ps, as, bd, d, hs⟩ := setLoop_get hp
  obtain ⟨fn, a, d', y, g1, _⟩ := loop_at h hl hs
  have := setLoop_ok h hl hs hp g1
  refine ⟨_, ?_, this⟩
  unfold Instr.endRound
  rw [Sem.run_bind, getLoop_run g1, Result.andThen_ok, Sem.run_bind, setObj_loop g1, Result.andThen_ok, ← hst]; rfl
theorem begin_ok (h : Ok P m s w) {l c x : Nat} (hl : m l = some (c, x)) {pd : Option Code} {t : T Value} {k : Nat} {ps : Array Tmp} {as bd : Code} {d : Nat} (hs : s.heap.get l = some (.loop .ready pd t k ps as bd d)) (hp : setLoop s l .busy none = some s2) :
    ∃ w2, (Instr.beginRound c).run P w = .ok () w2 ∧ Post P m s w m s2 w2 := by
  obtain ⟨fn, a, d', y, g1, _⟩ := loop_at h hl hs
  have := setLoop_ok h hl hs hp g1
  refine ⟨_, ?_, this⟩
  unfold Instr.beginRound
  rw [Sem.run_bind, getLoop_run g1, Result.andThen_ok, Sem.run_bind, setObj_loop g1, Result.andThen_ok]; rfl
theorem endLoop_ok (h : Ok P m s w) {l c x : Nat} (hl : m l = some (c, x)) {st : LoopState} {pd : Option Code} {t : T Value} {k : Nat} {ps : Array Tmp} {as bd : Code} {d : Nat} (hs : s.heap.get l = some (.loop st pd t k ps as bd d)) (hb : st ≠ .busy) (hp : setLoop s l .exhausted none = some s2) :
    ∃ w2, (Instr.endLoop c).run P w = .ok pd w2 ∧ Post P m s w m s2 w2 := by
  obtain ⟨fn, a, d', y, g1, _⟩ := loop_at h hl hs
  have := setLoop_ok h hl hs hp g1
  refine ⟨_, ?_, this⟩
  unfold Instr.endLoop
  rw [Sem.run_bind, getLoop_run g1, Result.andThen_ok]
  dsimp only
  rw [if_neg (by simpa using hb), Sem.run_bind, setObj_loop g1, Result.andThen_ok]; rfl
theorem step_ok (hM : P.follows .mixedOrders = true) (hF : FOk P F) (hI : ∀ task s out s', ih task s = some (out, s') → TaskOk P N task s out s') : ∀ task s out s', step P F ih task s = some (out, s') → TaskOk P (N + 1) task s out s' := by
  intro task s out s' hr
  cases task with
  | code c rd a =>
    have seqc : ∀ {x : Code} {e : Ex} {a1 : Fr} {s1 : St}, ih (.code x rd a) s = some (.exit e a1, s1) → ∀ {m : Mp} {w : World} {A : Act} {R : Option Nat} {n : Nat}, Ok P m s w → FrR m a A → RdR m rd R →
        x.wpIn (fen R) n P (fun e1 A1 w1 => ∃ m1, ExR e e1 ∧ FrR m1 a1 A1 ∧ Post P m s w m1 s1 w1) A w := fun {_ _ _ _} hx {m w A R n} h1 h2 h3 => (hI _ _ _ _ hx m w A R n h1 h2 h3).wpIn
    cases c with
    | skip =>
      injection hr with hr; injection hr with e1 e2; subst e1; subst e2
      exact fun m w A R n h1 h2 h3 => wpIn_skip ⟨m, trivial, h2, .refl h1⟩
    | label l =>
      injection hr with hr; injection hr with e1 e2; subst e1; subst e2
      exact fun m w A R n h1 h2 h3 => wpIn_label ⟨m, trivial, h2, .refl h1⟩
    | ret =>
      injection hr with hr; injection hr with e1 e2; subst e1; subst e2
      exact fun m w A R n h1 h2 h3 => wpIn_ret ⟨m, trivial, h2, .refl h1⟩
    | exit id =>
      injection hr with hr; injection hr with e1 e2; subst e1; subst e2
      exact fun m w A R n h1 h2 h3 => wpIn_exit ⟨m, rfl, h2, .refl h1⟩
    | seq x y =>
      unfold step at hr
      dsimp only at hr
      cases hx : ih (.code x rd a) s with
      | none => rw [hx] at hr; cases hr
      | some r =>
        rw [hx] at hr
        obtain ⟨o1, s1⟩ := r
        cases o1 with
        | val v => injection hr with hr; injection hr with e1 e2; subst e1; exact trivial
        | exit e a1 =>
          cases e with
          | normal =>
            dsimp only at hr
            cases out with
            | val v => exact trivial
            | exit e2 a2 =>
              intro m w A R n h1 h2 h3
              refine wpIn_seq (wpIn_mono (seqc hx h1 h2 h3) fun e1 A1 w1 ⟨m1, q1, q2, q3⟩ => ?_)
              cases e1 <;> first | exact q1.elim | skip
              exact wpIn_mono (hI _ _ _ _ hr m1 w1 A1 R n q3.ok q2 (h3.mono q3.ext)).wpIn fun e2 A2 w2 ⟨m2, k1, k2, k3⟩ => ⟨m2, k1, k2, q3.trans h1 k3⟩
          | exit id =>
            injection hr with hr; injection hr with e1 e2; subst e1; subst e2
            intro m w A R n h1 h2 h3
            refine wpIn_seq (wpIn_mono (seqc hx h1 h2 h3) fun e1 A1 w1 ⟨m1, q1, q2, q3⟩ => ?_)
            cases e1 <;> first | exact q1.elim | exact ⟨m1, q1, q2, q3⟩
          | ret =>
            injection hr with hr; injection hr with e1 e2; subst e1; subst e2
            intro m w A R n h1 h2 h3
            refine wpIn_seq (wpIn_mono (seqc hx h1 h2 h3) fun e1 A1 w1 ⟨m1, q1, q2, q3⟩ => ?_)
            cases e1 <;> first | exact q1.elim | exact ⟨m1, q1, q2, q3⟩
    | cond c x y =>
      unfold step at hr
      dsimp only at hr
      split at hr
      · rename_i hc
        cases out with
        | val v => exact trivial
        | exit e2 a2 =>
          intro m w A R n h1 h2 h3
          have hv := aev_ok h1 h2.t hc
          generalize hce : A.eval c = cv at hv
          cases hv
          exact wpIn_cond_true hce (seqc hr h1 h2 h3)
      · rename_i hc
        cases out with
        | val v => exact trivial
        | exit e2 a2 =>
          intro m w A R n h1 h2 h3
          have hv := aev_ok h1 h2.t hc
          generalize hce : A.eval c = cv at hv
          cases hv
          exact wpIn_cond_false hce (seqc hr h1 h2 h3)
      · cases hr
    | block id b =>
      unfold step at hr
      dsimp only at hr
      cases hx : ih (.code b rd a) s with
      | none => rw [hx] at hr; cases hr
      | some r =>
        rw [hx] at hr
        obtain ⟨o1, s1⟩ := r
        cases o1 with
        | val v => injection hr with hr; injection hr with e1 e2; subst e1; exact trivial
        | exit e a1 =>
          cases e with
          | exit i =>
            dsimp only at hr
            cases hi : Nat.beq i id with
            | true =>
              rw [hi] at hr
              injection hr with hr; injection hr with e1 e2; subst e1; subst e2
              have hi := Nat.eq_of_beq_eq_true hi
              intro m w A R n h1 h2 h3
              refine wpIn_block (wpIn_mono (seqc hx h1 h2 h3) fun e1 A1 w1 ⟨m1, q1, q2, q3⟩ => ?_)
              cases e1 <;> first | exact q1.elim | skip
              show (if _ = id then _ else _)
              rw [if_pos (by rw [← hi]; exact q1.symm)]
              exact ⟨m1, trivial, q2, q3⟩
            | false =>
              rw [hi] at hr
              injection hr with hr; injection hr with e1 e2; subst e1; subst e2
              intro m w A R n h1 h2 h3
              refine wpIn_block (wpIn_mono (seqc hx h1 h2 h3) fun e1 A1 w1 ⟨m1, q1, q2, q3⟩ => ?_)
              cases e1 <;> first | exact q1.elim | skip
              show (if _ = id then _ else _)
              rw [if_neg (by rw [← (show i = _ from q1)]; intro e; rw [e] at hi; simp at hi)]
              exact ⟨m1, q1, q2, q3⟩
          | normal =>
            injection hr with hr; injection hr with e1 e2; subst e1; subst e2
            intro m w A R n h1 h2 h3
            refine wpIn_block (wpIn_mono (seqc hx h1 h2 h3) fun e1 A1 w1 ⟨m1, q1, q2, q3⟩ => ?_)
            cases e1 <;> first | exact q1.elim | exact ⟨m1, q1, q2, q3⟩
          | ret =>
            injection hr with hr; injection hr with e1 e2; subst e1; subst e2
            intro m w A R n h1 h2 h3
            refine wpIn_block (wpIn_mono (seqc hx h1 h2 h3) fun e1 A1 w1 ⟨m1, q1, q2, q3⟩ => ?_)
            cases e1 <;> first | exact q1.elim | exact ⟨m1, q1, q2, q3⟩
    | loop b =>
      unfold step at hr
      dsimp only at hr
      cases hx : ih (.code b rd a) s with
      | none => rw [hx] at hr; cases hr
      | some r =>
        rw [hx] at hr
        obtain ⟨o1, s1⟩ := r
        cases o1 with
        | val v => injection hr with hr; injection hr with e1 e2; subst e1; exact trivial
        | exit e a1 =>
          cases e with
          | normal =>
            dsimp only at hr
            cases out with
            | val v => exact trivial
            | exit e2 a2 =>
              intro m w A R n h1 h2 h3
              show Code.roundsIn (fen R) n P b _ (N + 1) A w
              rw [roundsIn_succ]
              refine wpIn_mono (seqc hx h1 h2 h3) fun e1 A1 w1 ⟨m1, q1, q2, q3⟩ => ?_
              cases e1 <;> first | exact q1.elim | skip
              exact rounds_mono (fun e2 A2 w2 ⟨m2, k1, k2, k3⟩ => ⟨m2, k1, k2, q3.trans h1 k3⟩) N (hI _ _ _ _ hr m1 w1 A1 R n q3.ok q2 (h3.mono q3.ext))
          | exit id =>
            injection hr with hr; injection hr with e1 e2; subst e1; subst e2
            intro m w A R n h1 h2 h3
            show Code.roundsIn (fen R) n P b _ (N + 1) A w
            rw [roundsIn_succ]
            refine wpIn_mono (seqc hx h1 h2 h3) fun e1 A1 w1 ⟨m1, q1, q2, q3⟩ => ?_
            cases e1 <;> first | exact q1.elim | exact ⟨m1, q1, q2, q3⟩
          | ret =>
            injection hr with hr; injection hr with e1 e2; subst e1; subst e2
            intro m w A R n h1 h2 h3
            show Code.roundsIn (fen R) n P b _ (N + 1) A w
            rw [roundsIn_succ]
            refine wpIn_mono (seqc hx h1 h2 h3) fun e1 A1 w1 ⟨m1, q1, q2, q3⟩ => ?_
            cases e1 <;> first | exact q1.elim | exact ⟨m1, q1, q2, q3⟩
    | region id ops draw =>
      cases draw with
      | false =>
        unfold step at hr
        dsimp only at hr
        split at hr
        · rename_i a1 s1 hs
          injection hr with hr; injection hr with e1 e2; subst e1; subst e2
          intro m w A R n h1 h2 h3
          refine wpIn_region ?_
          have := runSeq_ok (R := R) (n := n) hF hI ops.toList 0 (fun j o hj => by simpa using hj) h1 h2 hs (Q := fun e1 A1 w1 => ∃ m1, ExR .normal e1 ∧ FrR m1 a1 A1 ∧ Post P m s w m1 s1 w1) fun m1 A1 w1 q1 q2 => ⟨m1, trivial, q1, q2⟩
          rw [Array.length_toList, ← List.range_eq_range'] at this
          exact this
        · cases hr
      | true =>
        unfold step at hr
        dsimp only at hr
        split at hr
        · rename_i a1 hh nx done hs
          injection hr with hr; injection hr with e1 e2; subst e1; subst e2
          intro m w A R n h1 h2 h3
          exact draw_ok hM hF hI h1 h2 hs fun m1 A1 w1 q1 q2 => ⟨m1, trivial, q1, q2⟩
        · cases hr
    | rangeFunc g ps as bd =>
      unfold step at hr
      dsimp only at hr
      split at hr
      · rename_i f first caps hev
        have main : ∀ (d : Nat) (mk : List Nat) (s1 : St), (match fresh s1 (.loop .ready none a.t a.n ps as bd d) with
          | some s2 => (match F.get f with
            | some (some _) => (match ih (.call f (first ++ #[.func (.yield s1.next) #[] #[]] ++ caps)) s2 with
              | some (.val _, s3) => (match s3.heap.get s1.next with
                | some (.loop .busy _ _ _ _ _ _ _) => none
                | some (.loop _ pd _ _ _ _ _ _) => (match setLoop s3 s1.next .exhausted none with
                  | some s4 => (match pd with
                    | none => some (Out.exit .normal { t := a.t, n := a.n, marks := mk ++ a.marks }, s4)
                    | some .ret => some (Out.exit .ret { t := a.t, n := a.n, marks := mk ++ a.marks }, s4)
                    | some (.exit id) => some (Out.exit (.exit id) { t := a.t, n := a.n, marks := mk ++ a.marks }, s4)
                    | _ => none)
                  | none => none)
                | _ => none)
              | _ => none)
            | _ => none)
          | none => none) = some (out, s') →
          (∀ (m : Mp) (w : World) (A : Act) (R : Option Nat), Ok P m s w → FrR m a A → RdR m rd R → ∀ (fn : FuncId), ∃ m1 w1 mark, Post P m s w m1 s1 w1 ∧ (∃ d' y, m1 d = some (d', y) ∧
            (Instr.enterLoop fn A.tmps ps as bd R).run P w = .ok (w1.heap.size, mark) { w1 with heap := w1.heap.push (.loop { state := .ready, pending := none, fn := fn, tmps := A.tmps, params := ps, assign := as, body := bd, defers := d' }) }) ∧ DR m1 mk mark) →
          TaskOk P (N + 1) (.code (.rangeFunc g ps as bd) rd a) s out s' := by
          intro d mk s1 hr hent
          split at hr
          · rename_i s2 hfr
            split at hr
            · rename_i fi hfi
              split at hr
              · rename_i vv s3 hcall
                have fin : ∀ (st : LoopState) (pd : Option Code) (t : T Value) (k : Nat) (ps1 : Array Tmp) (as1 bd1 : Code) (d1 : Nat) (s4 : St) (e : Ex), s3.heap.get s1.next = some (.loop st pd t k ps1 as1 bd1 d1) → st ≠ .busy → setLoop s3 s1.next .exhausted none = some s4 →
                    (∀ (Q : Exit → Act → World → Prop) (A' : Act) (w4 : World) (R : Option Nat) (n : Nat), (∀ e1, ExR e e1 → Q e1 A' w4) → (match pd with | none => Q .normal A' w4 | some c => c.wpIn (fen R) n P Q A' w4)) →
                    TaskOk P (N + 1) (.code (.rangeFunc g ps as bd) rd a) s (.exit e { t := a.t, n := a.n, marks := mk ++ a.marks }) s4 := by
                  intro st pd t k ps1 as1 bd1 d1 s4 e hgl hbusy hsl hpd m w A R n h1 h2 h3
                  refine wpIn_rangeFunc fun fn _ => ?_
                  obtain ⟨m1, w1, mark, hp1, ⟨d', y, hd, henter⟩, hmk⟩ := hent m w A R h1 h2 h3 fn
                  have hf1 := h2.mono hp1.ext
                  obtain ⟨hp2, hself⟩ := fresh_ok (x := 0) hp1.ok hfr (.loop (fn := fn) (a := A.tmps) rfl hf1.t hf1.n hd)
                  have hp12 := hp1.trans h1 hp2
                  have hv := aev_ok h1 h2.t hev
                  generalize hge : A.eval g = gv at hv
                  cases hv with
                  | func hfr hx1 hx1b hx2 hx2b =>
                  rename_i ys zs
                  cases hfr with
                  | func =>
                  have hargs : AR (m1.add s1.next w1.heap.size 0) (first ++ #[.func (.yield s1.next) #[] #[]] ++ caps) (ys ++ #[.func (.yield w1.heap.size) #[] #[]] ++ zs) :=
                    ((AR.mono hp12.ext ⟨hx1, hx1b⟩).append (ar_iff.2 (.cons (.func (.yield hself) rfl (fun i hi => absurd hi (by simp)) rfl (fun i hi => absurd hi (by simp))) .nil))).append (AR.mono hp12.ext ⟨hx2, hx2b⟩)
                  generalize hW : ({ w1 with heap := w1.heap.push (.loop { state := .ready, pending := none, fn := fn, tmps := A.tmps, params := ps, assign := as, body := bd, defers := d' }) } : World) = W2 at henter hp2 hp12
                  refine ⟨w1.heap.size, mark, W2, { target := .fn (.func f) zs, args := ys ++ #[.func (.yield w1.heap.size) #[] #[]] }, W2, f, ys ++ #[.func (.yield w1.heap.size) #[] #[]] ++ zs, W2, henter, ?_, fun _ _ => trivial, ?_, fen_depth, calls_fen ?_⟩
                  · show (Deferred.ofValue (A.eval g) (#[Operand.const (.func (.yield w1.heap.size) #[] #[])].map A.eval)).run P W2 = _
                    rw [hge]
                    simp [Deferred.ofValue, Act.eval]
                  · exact callFunc_enter hF hfi _ _
                  · refine (hI _ _ _ _ hcall _ _ _ hp2.ok hargs).mono fun e1 w3 ⟨v', m3, e2, _, hp3⟩ => ?_
                    subst e2
                    obtain ⟨w4, k1, k2⟩ := endLoop_ok hp3.ok (hp3.ext _ _ hself) hgl hbusy hsl
                    have key : ∀ e1, ExR e e1 → ∃ m1, ExR e e1 ∧ FrR m1 { t := a.t, n := a.n, marks := mk ++ a.marks } { tmps := A.tmps, defers := mark ++ A.defers } ∧ Post P m s w m1 s4 w4 := by
                      intro e1 he1
                      refine ⟨m3, he1, ⟨h2.t.mono (hp12.trans h1 hp3).ext, h2.n, ?_⟩, (hp12.trans h1 hp3).trans h1 k2⟩
                      exact (hmk.mono (hp2.ext.trans hp3.ext)).append (h2.d.mono (hp12.trans h1 hp3).ext)
                    have hh := hpd (fun e1 A1 w1 => ∃ m1, ExR e e1 ∧ FrR m1 { t := a.t, n := a.n, marks := mk ++ a.marks } A1 ∧ Post P m s w m1 s4 w1) { tmps := A.tmps, defers := mark ++ A.defers } w4 R n key
                    exact ⟨pd, w4, k1, by cases pd <;> exact hh⟩
                split at hr
                · cases hr
                · rename_i st pd t k ps1 as1 bd1 d1 hnb hgl
                  split at hr
                  · rename_i s4 hsl
                    split at hr
                    · injection hr with hr; injection hr with e1 e2; subst e1; subst e2
                      exact fin _ _ _ _ _ _ _ _ _ .normal hgl (fun e => hnb (by rw [e])) hsl fun Q A' w4 R n hq => hq .normal trivial
                    · injection hr with hr; injection hr with e1 e2; subst e1; subst e2
                      exact fin _ _ _ _ _ _ _ _ _ .ret hgl (fun e => hnb (by rw [e])) hsl fun Q A' w4 R n hq => wpIn_ret (hq .ret trivial)
                    · rename_i id
                      injection hr with hr; injection hr with e1 e2; subst e1; subst e2
                      exact fin _ _ _ _ _ _ _ _ _ (.exit id) hgl (fun e => hnb (by rw [e])) hsl fun Q A' w4 R n hq => wpIn_exit (hq (.exit id) rfl)
                    · cases hr
                  · cases hr
                · cases hr
              · cases hr
            · cases hr
          · cases hr
        cases rd with
        | none =>
          dsimp only at hr
          cases hfs : fresh s (.obj (.deferred (some []))) with
          | none => rw [hfs] at hr; cases hr
          | some sA =>
            rw [hfs] at hr
            refine main s.next [s.next] sA hr fun m w A R h1 h2 h3 fn => ?_
            cases R with
            | some c => exact h3.elim
            | none =>
              obtain ⟨hp, hself⟩ := fresh_ok (x := 0) h1 hfs (.obj rfl .defs)
              refine ⟨_, _, [{ target := .collected w.heap.size, args := #[] }], hp, ⟨w.heap.size, 0, hself, ?_⟩, .cons hself .nil⟩
              simp [Instr.enterLoop, newObj, Sem.run]
              rfl
        | some l =>
          dsimp only at hr
          cases hgl : s.heap.get l with
          | none => rw [hgl] at hr; cases hr
          | some o =>
            rw [hgl] at hr
            cases o with
            | loop st pd t k ps1 as1 bd1 d =>
              refine main d [] s hr fun m w A R h1 h2 h3 fn => ?_
              cases R with
              | none => exact h3.elim
              | some c =>
                obtain ⟨x, hl⟩ := h3
                obtain ⟨fn1, ar, d', y, g1, g2, g3, g4⟩ := loop_at h1 hl hgl
                refine ⟨m, w, [], .refl h1, ⟨d', y, g4, ?_⟩, .nil⟩
                simp [Instr.enterLoop, Instr.getLoop, getObj, newObj, Sem.run, g1]
            | _ => cases hr
      · cases hr
    | _ => cases hr
  | call f args =>
    unfold step at hr
    dsimp only at hr
    split at hr
    · rename_i fi hg
      cases hc : (Nat.ble args.size fi.ntmps && Nat.blt fi.ntmps lim) with
      | false => rw [hc] at hr; cases hr
      | true =>
        rw [hc] at hr
        simp only [cond] at hr
        rw [Bool.and_eq_true, Nat.ble_eq, Nat.blt_eq] at hc
        obtain ⟨fn, hfn, hfi⟩ := hF _ _ hg
        have hb : fn.body = some fi.body ∧ fn.ntmps = fi.ntmps ∧ fn.results = fi.results := by
          unfold fiOf at hfi
          split at hfi
          · rename_i b hb
            cases hn : (fn.name == "runtime.NumGoroutine") with
            | true => rw [hn] at hfi; cases hfi
            | false => rw [hn] at hfi; injection hfi with hfi; subst hfi; exact ⟨hb, rfl, rfl⟩
          · cases hfi
        have fin : ∀ (e : Ex) (a1 : Fr) (s1 : St), (∀ i, e ≠ .exit i) → ih (.code fi.body none { t := exArgs fi.ntmps args.toList args.size, n := fi.ntmps, marks := [] }) s = some (.exit e a1, s1) →
            (match shut a1.marks s1 with
              | some s => (match resAll P a1 s fi.results.toList with
                | some vs => some (Out.val (resVal vs), s)
                | none => none)
              | none => none) = some (out, s') → TaskOk P (N + 1) (.call f args) s out s' := by
          intro e a1 s1 he hx hr
          split at hr
          · rename_i s2 hs
            split at hr
            · rename_i vs hv
              injection hr with hr; injection hr with e1 e2; subst e1; subst e2
              intro m w args' h1 h2
              refine (callsIn_wide (n := 0)).1 (callsIn_of_wp_marks hfn hb.1 trivial ?_)
              have hsz := h2.1
              have hT : FrR m { t := exArgs fi.ntmps args.toList args.size, n := fi.ntmps, marks := [] } { tmps := args' ++ Array.replicate (fn.ntmps - args'.size) undef, defers := [] } := by
                refine ⟨?_, ?_, .nil⟩
                · have := exArgs_ok (k := fi.ntmps) (ar_iff.1 h2) (by simpa using hc.1) hc.2
                  rw [hb.2.1]; simpa using this
                · simp only [Array.size_append, Array.size_replicate]; rw [hb.2.1]; omega
              refine wpIn_mono ((hI _ _ _ _ hx m w _ none 0 h1 hT trivial).wpIn) fun e1 A1 w1 ⟨m1, q1, q2, q3⟩ => ?_
              have last : LeavesInM Fence.wide 0 P fn A1.tmps (fun e w1 => ∃ v' m1, e = .returned v' ∧ VR m1 (resVal vs) v' ∧ Post P m s w m1 s2 w1) A1.defers .returning w1 := by
                refine leaves_ok a1.marks q2.d hs q3.ok fun w2 hp => ?_
                obtain ⟨v', k1, k2⟩ := results_ok (A := A1) hp.ok q2 (fn := fn) (vs := vs) (by rw [hb.2.2]; exact hv)
                exact ⟨v', k2, v', m1, rfl, k1, q3.trans h1 hp⟩
              cases e <;> cases e1 <;> first | exact q1.elim | exact last | exact absurd rfl (he _)
            · cases hr
          · cases hr
        cases hx : ih (.code fi.body none { t := exArgs fi.ntmps args.toList args.size, n := fi.ntmps, marks := [] }) s with
        | none => rw [hx] at hr; cases hr
        | some r =>
          rw [hx] at hr
          obtain ⟨o1, s1⟩ := r
          cases o1 with
          | val v => cases hr
          | exit e a1 =>
            cases e with
            | exit i => cases hr
            | normal => exact fin .normal a1 s1 (fun _ h => nomatch h) hx hr
            | ret => exact fin .ret a1 s1 (fun _ h => nomatch h) hx hr
    · cases hr
  | round l t k as bd =>
    unfold step at hr
    dsimp only at hr
    split at hr
    · rename_i a1 s1 hx1
      split at hr
      · rename_i pd t1 k1 ps as1 bd1 d hs1
        split at hr
        · rename_i s2 hb
          have fin : ∀ (e : Ex) (a3 : Fr) (s3 : St) (jump : Option Code) (st : LoopState), ih (.code bd (some l) a1) s2 = some (.exit e a3, s3) → setLoop s3 l st (some jump) = some s' → (st = if jump.isNone then .ready else .done) →
              (∀ (c : Nat) (RR : Ending → World → Prop) (e1 : Exit) (A1 : Act) (w1 : World), ExR e e1 → (∃ v w', (Instr.endRound c jump).run P w1 = .ok v w' ∧ RR (.returned v) w') → roundPost P c RR e1 A1 w1) →
              TaskOk P (N + 1) (.round l t k as bd) s (.val (.bool jump.isNone)) s' := by
            intro e a3 s3 jump st hx2 he hst hpost m w c x fn ar kk h1 hl ht hn
            refine roundIn_of_wpIn trivial ?_
            refine wpIn_mono (hI _ _ _ _ hx1 m w { tmps := ar, defers := [] } (some c) kk h1 ⟨ht, hn, .nil⟩ ⟨x, hl⟩).wpIn fun e1 A1 w1 ⟨m1, q1, q2, q3⟩ => ?_
            cases e1 <;> first | exact q1.elim | skip
            have hl1 := q3.ext _ _ hl
            obtain ⟨w2, g1, g2⟩ := begin_ok q3.ok hl1 hs1 hb
            refine ⟨w2, g1, wpIn_mono (hI _ _ _ _ hx2 m1 w2 A1 (some c) kk g2.ok q2 ⟨x, hl1⟩).wpIn fun e2 A2 w3 ⟨m2, k1, k2, k3⟩ => ?_⟩
            obtain ⟨w4, p1, p2⟩ := end_ok k3.ok (k3.ext _ _ hl1) he hst
            exact hpost c _ e2 A2 w3 k1 ⟨_, w4, p1, _, m2, rfl, .bool _, (q3.trans h1 g2).trans h1 (k3.trans g2.ok p2)⟩
          cases hx2 : ih (.code bd (some l) a1) s2 with
          | none => rw [hx2] at hr; cases hr
          | some r =>
            rw [hx2] at hr
            obtain ⟨o3, s3⟩ := r
            cases o3 with
            | val v => cases hr
            | exit e a3 =>
              cases e with
              | normal =>
                dsimp only at hr
                split at hr
                · rename_i s4 he
                  injection hr with hr; injection hr with e1 e2; subst e1; subst e2
                  exact fin .normal a3 s3 none .ready hx2 he rfl fun c RR e1 A1 w1 q hq => by cases e1 <;> first | exact q.elim | exact hq
                · cases hr
              | ret =>
                dsimp only at hr
                split at hr
                · rename_i s4 he
                  injection hr with hr; injection hr with e1 e2; subst e1; subst e2
                  exact fin .ret a3 s3 (some .ret) .done hx2 he rfl fun c RR e1 A1 w1 q hq => by cases e1 <;> first | exact q.elim | exact hq
                · cases hr
              | exit id =>
                dsimp only at hr
                split at hr
                · rename_i s4 he
                  injection hr with hr; injection hr with e1 e2; subst e1; subst e2
                  exact fin (.exit id) a3 s3 (some (.exit id)) .done hx2 he rfl fun c RR e1 A1 w1 q hq => by
                    cases e1 <;> first | exact q.elim | (rw [← (show id = _ from q)]; exact hq)
                · cases hr
        · cases hr
      · cases hr
    · cases hr
end
end Go.Proofs.YtgfnakdfhfoplaaGreatDoor.Cx
