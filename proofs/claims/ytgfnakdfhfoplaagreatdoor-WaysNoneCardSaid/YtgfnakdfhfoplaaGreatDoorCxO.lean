/- What the run of code on what is known says of memory. Generic over the program. -/
import Derived.Test.YtgfnakdfhfoplaaGreatDoorCxN
import Derived.RangeFuncLeaves
import Derived.OrdersIn
import Derived.LoopNIn
import Derived.TacticsIn
namespace Go.Proofs.YtgfnakdfhfoplaaGreatDoor.Cx
open Go
/-- The fence: wide, in a round or in none. -/
def fen (R : Option Nat) : Fence := { Fence.wide with round := R }
inductive DR (m : Mp) : List Nat → List Deferred → Prop where
  | nil : DR m [] []
  | cons {b c x : Nat} {l : List Nat} {ds : List Deferred} (h : m b = some (c, x)) (t : DR m l ds) : DR m (b :: l) ({ target := .collected c, args := #[] } :: ds)
structure FrR (m : Mp) (a : Fr) (A : Act) : Prop where
  t : TR m a.t A.tmps
  n : A.tmps.size = a.n
  d : DR m a.marks A.defers
def ExR : Ex → Exit → Prop
  | .normal, .normal => True
  | .exit i, .exit j => i = j
  | .ret, .ret => True
  | _, _ => False
def RdR (m : Mp) : Option Nat → Option Nat → Prop
  | none, none => True
  | some l, some c => ∃ x, m l = some (c, x)
  | _, _ => False
def Wp (P : Program) (R : Option Nat) (n N : Nat) (c : Code) (Q : Exit → Act → World → Prop) (A : Act) (w : World) : Prop := match c with
  | .loop b => Code.roundsIn (fen R) n P b Q N A w
  | c => c.wpIn (fen R) n P Q A w
def TaskOk (P : Program) (N : Nat) : Task → St → Out → St → Prop
  | .code c rd a, s, .exit e a', s' => ∀ (m : Mp) (w : World) (A : Act) (R : Option Nat) (n : Nat), Ok P m s w → FrR m a A → RdR m rd R →
      Wp P R n N c (fun e1 A1 w1 => ∃ m1, ExR e e1 ∧ FrR m1 a' A1 ∧ Post P m s w m1 s' w1) A w
  | .call f args, s, .val v, s' => ∀ (m : Mp) (w : World) (args' : Array Value), Ok P m s w → AR m args args' →
      Calls P f args' w fun e w1 => ∃ v' m1, e = .returned v' ∧ VR m1 v v' ∧ Post P m s w m1 s' w1
  | .round l t n as bd, s, .val v, s' => ∀ (m : Mp) (w : World) (c x : Nat) (fn : FuncId) (a : Array Value) (k : Nat), Ok P m s w → m l = some (c, x) → TR m t a → a.size = n →
      RoundIn Fence.wide k P c fn a as bd w fun e w1 => ∃ v' m1, e = .returned v' ∧ VR m1 v v' ∧ Post P m s w m1 s' w1
  | _, _, _, _ => True
section
variable {P : Program} {F : T (Option FI)} {ih : Rec} {N : Nat} {m m0 m1 m2 m3 : Mp} {s s1 s2 s3 : St} {w w1 w2 w3 : World} {a a' : Fr} {A : Act} {R : Option Nat} {rd : Option Nat} {n : Nat}
theorem DR.mono (hm : m.le m1) {l : List Nat} {ds : List Deferred} (h : DR m l ds) : DR m1 l ds := by
  induction h with
  | nil => exact .nil
  | cons h _ ih => exact .cons (hm _ _ h) ih
theorem FrR.mono (hm : m.le m1) (h : FrR m a A) : FrR m1 a A := ⟨h.t.mono hm, h.n, h.d.mono hm⟩
theorem RdR.mono (hm : m.le m1) (h : RdR m rd R) : RdR m1 rd R := by
  cases rd <;> cases R <;> first | exact h | (obtain ⟨x, h⟩ := h; exact ⟨x, hm _ _ h⟩)
theorem put_fr {d : Option Tmp} {v v' : Value} (hp : a.put d v = some a') (h : FrR m a A) (hv : VR m v v') : FrR m a' (A.put d v') := by
  cases d with
  | none => injection hp with hp; subst hp; exact h
  | some d =>
    unfold Fr.put at hp
    dsimp only at hp
    cases hc : (Nat.blt d a.n && Nat.blt d lim) with
    | false => rw [hc] at hp; cases hp
    | true =>
      rw [hc] at hp
      injection hp with hp; subst hp
      rw [Bool.and_eq_true, Nat.blt_eq, Nat.blt_eq] at hc
      refine ⟨fun i u hi => ?_, by simpa [Act.put] using h.n, h.d⟩
      dsimp only at hi
      rw [T.get_set hc.2] at hi
      simp only [Act.put]
      by_cases e : i = d
      · subst e
        rw [if_pos rfl] at hi; injection hi with hi; subst hi
        exact ⟨v', by simp [h.n, hc.1], hv⟩
      · rw [if_neg e] at hi
        obtain ⟨u', h1, h2⟩ := h.t i u hi
        exact ⟨u', by rw [Array.getElem?_setIfInBounds_ne (Ne.symm e)]; exact h1, h2⟩
theorem want_ok {ops : Array Oper} {o : Oper} {b : Bool} (h : FrR m a A) (hw : awant ops a o = some b) : Region.wanted o (yielded ops A.tmps) = b := by
  unfold awant at hw
  unfold Region.wanted
  split at hw
  · rename_i hg; injection hw with hw; subst hw; rw [hg]
  · rename_i j w2 hg
    rw [hg]
    dsimp only
    unfold yielded
    split at hw
    · rename_i p hp
      rw [hp]
      split at hw
      · rename_i d hd
        simp only [Option.bind_some, hd]
        split at hw
        · rename_i b2 hb
          injection hw with hw; subst hw
          obtain ⟨v', h1, h2⟩ := h.t d _ hb
          rw [h1]
          cases h2
          cases b2 <;> cases w2 <;> rfl
        · rename_i v hnb hv
          injection hw with hw; subst hw
          obtain ⟨v', h1, h2⟩ := h.t d _ hv
          rw [h1]
          cases h2 <;> first | rfl | exact absurd rfl (hnb _)
        · cases hw
      · cases hw
    · cases hw
theorem wide_about (o : Oper) (w : World) (ρ : Operand → Value) : ∀ f, o.about P w ρ = some f → (fen R).fn f := fun _ _ => trivial
theorem calls_fen {f : FuncId} {args : Array Value} {Q : Ending → World → Prop} (h : Calls P f args w Q) : CallsIn (fen R) n P f args w Q := callsIn_wide.2 h
theorem fen_depth : (fen R).depth.isSome = true → 1 ≤ n := fun h => nomatch h
theorem semAt_eq {o : Oper} {ρ : Operand → Value} (h : ∀ c, o.op ≠ .defer c) : o.semAt R ρ = execOp ρ o := by
  cases R with
  | none => rfl
  | some r => exact Oper.semAt_some r ρ o fun c hc => h c hc
theorem ghost_le (h : Post P m s w m2 s2 w2) : m.le m2 := h.ext
theorem setParams_ok {k : Nat} (hm : m.le m1) : ∀ {ds : List Tmp} {vs : List Value} {t t2 : T Value} {us : List Value} {A : Array Value}, setParams k ds vs t = some t2 → LR m1 vs us → TR m1 t A → A.size = k →
    TR m1 t2 ((ds.zip us).foldl (fun tmps ta => tmps.setIfInBounds ta.1 ta.2) A) ∧ ((ds.zip us).foldl (fun tmps ta => tmps.setIfInBounds ta.1 ta.2) A).size = k ∧ ds.length = us.length
  | [], [], t, t2, us, A, hs, hl, ht, hk => by
    cases hl
    injection hs with hs; subst hs
    exact ⟨ht, hk, rfl⟩
  | [], _ :: _, _, _, _, _, hs, _, _, _ => nomatch hs
  | _ :: _, [], _, _, _, _, hs, _, _, _ => nomatch hs
  | d :: ds, v :: vs, t, t2, us, A, hs, hl, ht, hk => by
    cases hl with
    | cons hv hl =>
    rename_i u us
    unfold setParams at hs
    cases hc : (Nat.blt d k && Nat.blt d lim) with
    | false => rw [hc] at hs; cases hs
    | true =>
      rw [hc] at hs
      simp only [cond] at hs
      rw [Bool.and_eq_true, Nat.blt_eq, Nat.blt_eq] at hc
      have := setParams_ok hm hs hl (A := A.setIfInBounds d u) (fun i x hi => ?_) (by simpa using hk)
      · exact ⟨this.1, this.2.1, by simp [this.2.2]⟩
      · rw [T.get_set hc.2] at hi
        by_cases e : i = d
        · subst e
          rw [if_pos rfl] at hi; injection hi with hi; subst hi
          exact ⟨u, by simp [hk, hc.1], hv⟩
        · rw [if_neg e] at hi
          obtain ⟨x', h1, h2⟩ := ht i x hi
          exact ⟨x', by rw [Array.getElem?_setIfInBounds_ne (Ne.symm e)]; exact h1, h2⟩
/-- The memory of a loop's record. -/
theorem loop_at (h : Ok P m s w) {l c x : Nat} (hl : m l = some (c, x)) {st : LoopState} {pd : Option Code} {t : T Value} {k : Nat} {ps : Array Tmp} {as bd : Code} {d : Nat} (hs : s.heap.get l = some (.loop st pd t k ps as bd d)) :
    ∃ (fn : FuncId) (a : Array Value) (d' y : Nat), w.heap[c]? = some (.loop { state := st, pending := pd, fn := fn, tmps := a, params := ps, assign := as, body := bd, defers := d' }) ∧ TR m t a ∧ a.size = k ∧ m d = some (d', y) := by
  obtain ⟨c', x', o', h2, h3, h4⟩ := h.dom _ _ hs
  rw [hl] at h2; injection h2 with h2; injection h2 with e1 e2; subst e1; subst e2
  cases h4 with
  | loop hx ht hn hd => exact ⟨_, _, _, _, h3, ht, hn, hd⟩
theorem setLoop_ok (h : Ok P m s w) {l c x : Nat} (hl : m l = some (c, x)) {st st2 : LoopState} {pd : Option Code} {t : T Value} {k : Nat} {ps : Array Tmp} {as bd : Code} {d : Nat} {p2 : Option (Option Code)} (hs : s.heap.get l = some (.loop st pd t k ps as bd d))
    (hp : setLoop s l st2 p2 = some s2) {r : Loop} (hr : w.heap[c]? = some (.loop r)) :
    Post P m s w m s2 { w with heap := w.heap.setIfInBounds c (.loop { r with state := st2, pending := (newPd p2 pd) }) } := by
  unfold setLoop at hp
  rw [hs] at hp
  dsimp only at hp
  cases hc : Nat.blt l lim with
  | false => rw [hc] at hp; cases hp
  | true =>
    rw [hc] at hp
    injection hp with hp; subst hp
    obtain ⟨fn, a, d', y, h1, h2, h3, h4⟩ := loop_at h hl hs
    rw [hr] at h1; injection h1 with h1; injection h1 with h1; subst h1
    obtain ⟨c', x', o', k2, k3, k4⟩ := h.dom _ _ hs
    rw [hl] at k2; injection k2 with k2; injection k2 with e1 e2; subst e1; subst e2
    cases k4 with
    | loop hx _ _ _ =>
      have := put_ok (o2 := .loop st2 (newPd p2 pd) t k ps as bd d) h (by simpa using hc) hs hl (.loop (fn := fn) hx h2 h3 h4)
      exact this
/-- An operation that the run has gone through. -/
theorem runOp_ok (hF : FOk P F) (hI : ∀ task s out s', ih task s = some (out, s') → TaskOk P N task s out s') {o : Oper} {v : Value} (h : Ok P m s w) (hf : FrR m a A) (hr : runOp P F ih o a s = some (v, s2))
    {K : Act → World → Prop} {Q : Exit → Act → World → Prop} (hK : ∀ m2 v' w2, VR m2 v v' → Post P m s w m2 s2 w2 → K (A.put o.dst v') w2) : o.wpIn (fen R) n P A w K Q := by
  refine ⟨wide_about o w _, ?_⟩
  unfold runOp at hr
  split at hr
  · -- yield
    rename_i l vs hy
    unfold yieldOf at hy
    split at hy
    · rename_i c hop
      split at hy
      · rename_i f hcal
        split at hy
        · rename_i l2 first caps hev
          split at hy
          · rename_i vs2 hvs
            cases hc : (first.isEmpty && caps.isEmpty) with
            | false => rw [hc] at hy; cases hy
            | true =>
              rw [hc] at hy
              injection hy with hy; injection hy with e1 e2; subst e1; subst e2
              rw [Bool.and_eq_true, Array.isEmpty_iff, Array.isEmpty_iff] at hc
              obtain ⟨rfl, rfl⟩ := hc
              split at hr
              · rename_i st pd t k ps as bd d hs
                split at hr
                · rename_i t2 hsp
                  split at hr
                  · rename_i v2 s4 hih
                    injection hr with hr; injection hr with e1 e2; subst e1; subst e2
                    have hv := aev_ok h hf.t hev
                    have hl := aevs_ok h hf.t hvs
                    generalize hfe : A.eval f = fv at hv
                    cases hv with
                    | func hfr hx1 hx1b hx2 hx2b =>
                    rename_i ys zs
                    have hy0 : ys = #[] := Array.eq_empty_of_size_eq_zero (by simpa using hx1.symm)
                    have hz0 : zs = #[] := Array.eq_empty_of_size_eq_zero (by simpa using hx2.symm)
                    subst hy0; subst hz0
                    cases hfr with
                    | yield hlm =>
                    rename_i cc xx
                    obtain ⟨fn, ar, d', y, g1, g2, g3, g4⟩ := loop_at h hlm hs
                    obtain ⟨p1, p2, p3⟩ := setParams_ok (.refl m) hsp hl g2 g3
                    have hsem : (o.semAt (fen R).round A.eval).run P w = .ok (.round cc fn ((ps.zip (c.args.map A.eval)).foldl (fun tmps ta => tmps.setIfInBounds ta.1 ta.2) ar) as bd) w := by
                      rw [semAt_eq (fun c2 hc2 => by rw [hop] at hc2; cases hc2)]
                      obtain ⟨dst, op, ty, pos, after, guard⟩ := o
                      dsimp only at hop
                      subst hop
                      unfold execOp
                      obtain ⟨cal, args, ats⟩ := c
                      dsimp only at hcal
                      subst hcal
                      simp only [resolve, hfe, Deferred.ofValue, pure_bind]
                      simp only [invoke, Instr.yield, Instr.getLoop, Sem.run_bind]
                      have : (getObj cc).run P w = .ok (.loop { state := st, pending := pd, fn := fn, tmps := ar, params := ps, assign := as, body := bd, defers := d' }) w := by simp [getObj, Sem.run, g1]
                      rw [this]
                      simp only [Result.andThen_ok, Sem.run_pure]
                      have hsz : (#[] ++ args.map A.eval).size = ps.size := by
                        have := p3; simp only [List.length_map, Array.length_toList] at this; simp [this]
                      rw [if_neg (fun h => h hsz)]
                      simp
                    rw [hsem]
                    refine ⟨fen_depth, ?_⟩
                    have hfold : (ps.zip (c.args.map A.eval)).foldl (fun tmps ta => tmps.setIfInBounds ta.1 ta.2) ar = (ps.toList.zip (c.args.toList.map A.eval)).foldl (fun tmps ta => tmps.setIfInBounds ta.1 ta.2) ar := by
                      rw [← Array.foldl_toList, Array.toList_zip, Array.toList_map]
                    have hrd := hI _ _ _ _ hih m w cc xx fn ((ps.zip (c.args.map A.eval)).foldl (fun tmps ta => tmps.setIfInBounds ta.1 ta.2) ar) (n - 1) h hlm (by rw [hfold]; exact p1) (by rw [hfold]; exact p2)
                    exact RoundIn.mono hrd fun e w1 ⟨v', m1, e1, e2, e3⟩ => by subst e1; exact hK m1 v' w1 e2 e3
                  · cases hr
                · cases hr
              · cases hr
          · cases hy
        · cases hy
      · cases hy
    · cases hy
  · have hnd : ∀ r, aexec P F a.t o s = some r → ∀ c, o.op ≠ .defer c := fun r hr c hc => by
      unfold aexec at hr; rw [hc] at hr; cases hr
    split at hr
    · rename_i v2 s4 hx
      injection hr with hr; injection hr with e1 e2; subst e1; subst e2
      obtain ⟨m2, y, w2, g1, g2, g3⟩ := aexec_ok hF h hf.t o _ _ hx
      cases g2 with
      | value hv => rw [semAt_eq (hnd _ hx), g1]; exact hK m2 _ w2 hv g3
    · rename_i s4 hx
      injection hr with hr; injection hr with e1 e2; subst e1; subst e2
      obtain ⟨m2, y, w2, g1, g2, g3⟩ := aexec_ok hF h hf.t o _ _ hx
      cases g2 with
      | skip => rw [semAt_eq (hnd _ hx), g1]; exact hK m2 _ w2 (vr_undef _) g3
    · rename_i f args s4 hx
      split at hr
      · rename_i v2 s5 hih
        injection hr with hr; injection hr with e1 e2; subst e1; subst e2
        obtain ⟨m2, y, w2, g1, g2, g3⟩ := aexec_ok hF h hf.t o _ _ hx
        cases g2 with
        | enter hargs =>
          rw [semAt_eq (hnd _ hx), g1]
          refine ⟨fen_depth, calls_fen ?_⟩
          exact (hI _ _ _ _ hih m2 w2 _ g3.ok hargs).mono fun e w1 ⟨v', m1, e1, e2, e3⟩ => by subst e1; exact hK m1 v' w1 e2 (g3.trans h e3)
      · cases hr
    · cases hr
theorem runSeq_ok (hF : FOk P F) (hI : ∀ task s out s', ih task s = some (out, s') → TaskOk P N task s out s') {ops : Array Oper} {Q : Exit → Act → World → Prop} : ∀ (l : List Oper) (i : Nat), (∀ j o, l[j]? = some o → ops[i + j]? = some o) →
    ∀ {a a' : Fr} {s s' : St} {m : Mp} {w : World} {A : Act}, Ok P m s w → FrR m a A → runSeq P F ih ops l a s = some (a', s') → (∀ m1 A1 w1, FrR m1 a' A1 → Post P m s w m1 s' w1 → Q .normal A1 w1) → wpOpsIn (fen R) n P ops Q (List.range' i l.length) A w
  | [], i, _, a, a', s, s', m, w, A, h, hf, hr, hQ => by
    injection hr with hr; injection hr with e1 e2; subst e1; subst e2
    exact hQ m A w hf (.refl h)
  | o :: l, i, hl, a, a', s, s', m, w, A, h, hf, hr, hQ => by
    have ho : ops[i]? = some o := by have := hl 0 o rfl; simpa using this
    have hl' : ∀ j p, l[j]? = some p → ops[i + 1 + j]? = some p := fun j p hj => by have := hl (j + 1) p (by simpa using hj); rwa [show i + 1 + j = i + (j + 1) by omega]
    rw [List.length_cons, List.range'_succ, wpOpsIn_cons]
    unfold wpOpIn
    rw [ho]
    unfold runSeq at hr
    split at hr
    · rename_i hw
      dsimp only
      rw [if_pos (want_ok hf hw)]
      split at hr
      · rename_i v s1 hop
        split at hr
        · rename_i a1 hp
          exact runOp_ok hF hI h hf hop fun m2 v' w2 hv hpo => runSeq_ok hF hI l (i + 1) hl' hpo.ok (put_fr hp (hf.mono hpo.ext) hv) hr fun m1 A1 w1 q1 q2 => hQ m1 A1 w1 q1 (hpo.trans h q2)
        · cases hr
      · cases hr
    · rename_i hw
      dsimp only
      rw [if_neg (by rw [want_ok hf hw]; exact Bool.false_ne_true)]
      split at hr
      · rename_i a1 hp
        exact ⟨wide_about o w _, runSeq_ok hF hI l (i + 1) hl' h (put_fr hp hf (vr_undef _)) hr hQ⟩
      · cases hr
    · cases hr
theorem Wp.wpIn {c : Code} {Q : Exit → Act → World → Prop} (h : Wp P R n N c Q A w) : c.wpIn (fen R) n P Q A w := by
  cases c with
  | loop b => exact wpIn_loop_rounds N h
  | _ => exact h
theorem rounds_mono {b : Code} {Q Q' : Exit → Act → World → Prop} (hq : ∀ e A w, Q e A w → Q' e A w) : ∀ (N : Nat) {A : Act} {w : World}, Code.roundsIn (fen R) n P b Q N A w → Code.roundsIn (fen R) n P b Q' N A w
  | 0, _, _, h => h.elim
  | N + 1, _, _, h => wpIn_mono h fun e A w hx => by
    cases e <;> first | exact rounds_mono hq N hx | exact hq _ _ _ hx
theorem Wp.mono {c : Code} {Q Q' : Exit → Act → World → Prop} (h : Wp P R n N c Q A w) (hq : ∀ e A w, Q e A w → Q' e A w) : Wp P R n N c Q' A w := by
  cases c with
  | loop b => exact rounds_mono hq N h
  | _ => exact wpIn_mono h hq
/-- A function is left. -/
theorem leaves_ok {fn : Func} {ts : Array Value} {RR : Ending → World → Prop} : ∀ (l : List Nat) {ds : List Deferred} {m : Mp} {s s2 : St} {w : World}, DR m l ds → shut l s = some s2 → Ok P m s w →
    (∀ w2, Post P m s w m s2 w2 → ∃ v, (results fn ts).run P w2 = .ok v w2 ∧ RR (.returned v) w2) → LeavesInM Fence.wide n P fn ts RR ds .returning w
  | [], ds, m, s, s2, w, hd, hs, h, hfin => by
    cases hd
    injection hs with hs; subst hs
    show LeavesIn Fence.wide n P fn ts RR [] .returning w
    exact hfin w (.refl h)
  | b :: l, ds, m, s, s2, w, hd, hs, h, hfin => by
    cases hd with
    | cons hb hd =>
    rename_i c x ds
    unfold shut at hs
    split at hs
    · rename_i ho
      split at hs
      · rename_i s1 hp
        obtain ⟨o', g1, g2, g3, g4⟩ := getObj_ok h hb ho
        cases g2
        obtain ⟨w1, k1, k2⟩ := putObj_ok h hb (.defN) g1 (by intro _ _ _ e; cases e) hp
        refine ⟨by simp, .inl ⟨c, w1, rfl, ?_, leaves_ok l hd hs k2.ok fun w2 hp2 => hfin w2 (k2.trans h hp2)⟩⟩
        unfold Instr.takeDeferred
        rw [Sem.run_bind, show (getObj c).run P w = .ok (.deferred (some [])) w by simp [getObj, Sem.run, g1], Result.andThen_ok]
        dsimp only
        rw [Sem.run_bind, k1]; rfl
      · cases hs
    · cases hs
theorem resOne_ok (h : Ok P m s w) (hf : FrR m a A) {r : ResultVar} {v : Value} (hr : resOne P a s r = some v) : ∃ v', VR m v v' ∧
    ((match r with | .tmp t => Pure.pure (A.tmps.getD t undef) | .cell ad ty => (asAddr (A.tmps.getD ad undef) >>= fun x => loadVar ty x)) : Sem Value).run P w = .ok v' w := by
  cases r with
  | tmp t =>
    obtain ⟨v', h1, h2⟩ := hf.t t v hr
    exact ⟨v', h2, by dsimp only; rw [Array.getD_eq_getD_getElem?, h1]; rfl⟩
  | cell ad ty =>
    unfold resOne at hr
    dsimp only at hr
    split at hr
    · rename_i b o d i hg hu hi
      obtain ⟨p, h1, h2⟩ := hf.t ad _ hg
      cases h2 with
      | ptr hb =>
      rename_i c x
      have hs : (sizeOf ty).run P w = .ok i.size w := by simp [sizeOf, typeInfo, Go.program, Sem.run, hi]
      have hpre : (A.tmps.getD ad undef) = .pointer (some ⟨c, o, none⟩) := by rw [Array.getD_eq_getD_getElem?, h1]; rfl
      dsimp only
      rw [hpre]
      cases ha : isAggD d with
      | true =>
        rw [ha] at hr
        simp only [cond] at hr
        split at hr
        · rename_i l hl
          injection hr with hr; subst hr
          obtain ⟨l', k1, k2, k3, _⟩ := rd_ok h hb _ _ hl
          refine ⟨.agg l'.toArray, (ar_iff.2 (by simpa using k1)).agg, ?_⟩
          have hlc : (loadCells ⟨c, o, none⟩ i.size).run P w = .ok l'.toArray w := by
            have := run_firstCells_some (P := P) w i.size 1 ⟨c, o, none⟩ 0 0 l' (by omega) k3
            simpa [Builtin.firstCells] using this
          have hag : (isAgg ty).run P w = .ok true w := by
            unfold isAgg; rw [Sem.run_bind, run_under hu]
            cases d <;> first | rfl | cases ha
          simp only [asAddr, pure_bind, loadVar, Sem.run_bind, hag, Result.andThen_ok, if_true, hs, hlc]; rfl
        · cases hr
      | false =>
        rw [ha] at hr
        simp only [cond] at hr
        obtain ⟨v', k1, k2, _⟩ := getCell_ok h (.mk hb) hr
        have hag : (isAgg ty).run P w = .ok false w := by
          unfold isAgg; rw [Sem.run_bind, run_under hu]
          cases d <;> first | rfl | cases ha
        refine ⟨v', k2, ?_⟩
        simp only [asAddr, pure_bind, loadVar, Sem.run_bind, hag, Result.andThen_ok]
        simp [run_load, k1]
    · cases hr
theorem resAll_ok (h : Ok P m s w) (hf : FrR m a A) : ∀ (l : List ResultVar) {vs : List Value}, resAll P a s l = some vs → ∃ us, LR m vs us ∧
    (l.mapM (m := Sem) fun r => match r with | .tmp t => Pure.pure (A.tmps.getD t undef) | .cell ad ty => (do loadVar ty (← asAddr (A.tmps.getD ad undef)))).run P w = .ok us w
  | [], vs, hr => by injection hr with hr; subst hr; exact ⟨[], .nil, rfl⟩
  | r :: l, vs, hr => by
    unfold resAll at hr
    split at hr
    · rename_i v hv
      split at hr
      · rename_i vs2 hvs
        injection hr with hr; subst hr
        obtain ⟨v', h1, h2⟩ := resOne_ok h hf hv
        obtain ⟨us, h3, h4⟩ := resAll_ok h hf l hvs
        refine ⟨v' :: us, .cons h1 h3, ?_⟩
        rw [List.mapM_cons, Sem.run_bind]
        refine Eq.trans (congrArg (fun r => Result.andThen r _) (?_ : _ = Result.ok v' w)) ?_
        · cases r <;> exact h2
        · rw [Result.andThen_ok, Sem.run_bind, h4]; rfl
      · cases hr
    · cases hr
theorem results_ok (h : Ok P m s w) (hf : FrR m a A) {fn : Func} {vs : List Value} (hr : resAll P a s fn.results.toList = some vs) : ∃ v', VR m (resVal vs) v' ∧ (results fn A.tmps).run P w = .ok v' w := by
  obtain ⟨us, h1, h2⟩ := resAll_ok h hf _ hr
  refine ⟨(if h : us.toArray.size = 1 then us.toArray[0] else .tuple us.toArray), ?_, ?_⟩
  · cases h1 with
    | nil => exact (ar_iff.2 .nil).tuple
    | cons hv ht => cases ht with
      | nil => exact hv
      | cons hv2 ht2 =>
        rw [dif_neg (by simp)]
        exact (ar_iff.2 (by simpa using LR.cons hv (.cons hv2 ht2))).tuple
  · unfold results
    have : (fn.results.mapM (m := Sem) fun r => match r with | .tmp t => Pure.pure (A.tmps.getD t undef) | .cell ad ty => (do loadVar ty (← asAddr (A.tmps.getD ad undef)))).run P w = .ok us.toArray w := by
      rw [← Array.toArray_toList (xs := fn.results), List.mapM_toArray, Sem.run_map, h2]; rfl
    rw [Sem.run_bind]
    refine Eq.trans (congrArg (fun r => Result.andThen r _) (?_ : _ = Result.ok us.toArray w)) rfl
    rw [← this]
    congr 1
end
end Go.Proofs.YtgfnakdfhfoplaaGreatDoor.Cx
