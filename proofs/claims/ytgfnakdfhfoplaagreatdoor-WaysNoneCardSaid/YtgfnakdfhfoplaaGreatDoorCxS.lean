/- A region whose order is drawn, on what is known: an operation of it comes up. Generic over the program. -/
import Derived.Test.YtgfnakdfhfoplaaGreatDoorCxR
namespace Go.Proofs.YtgfnakdfhfoplaaGreatDoor.Cx
open Go
section
variable {P : Program} {F : T (Option FI)} {ih : Rec} {ops : Array Oper} {a0 a aE : Fr} {h0 h hE : T AObj} {N0 nx NE N n : Nat} {l L : List Rc} {r : Rc} {R : Option Nat} {m m0 m2 : Mp} {A A0 : Act} {w w0 w2 : World} {s : St} {S S' : Nat → Bool}
/-- What an operation that is ready sees. -/
structure Sees (P : Program) (L : List Rc) (a0 : Fr) (h0 : T AObj) (N0 NE : Nat) (S : Nat → Bool) (r : Rc) : Prop where
  n0 : N0 ≤ r.n0
  n1 : r.n0 ≤ r.post.next
  nE : r.post.next ≤ NE
  vw : ∀ b o, r.view.get b = some o → b < r.n0 ∧ (Hv S h0 N0 b L).1 = some o ∧ (Hv S h0 N0 b L).2 ≤ r.n0
  tv : ∀ t v, r.a.t.get t = some v → (Tv S a0 N0 t L).1 = some v ∧ (Tv S a0 N0 t L).2 ≤ r.n0
  an : r.a.n = a0.n
  am : r.a.marks = a0.marks
  pd : ∀ d, r.o.dst = some d → d < a0.n
  hv : ∀ {S'}, S' r.i = true → (∀ i, i ≠ r.i → S' i = S i) → ∀ b, Hv S' h0 N0 b L = if touch r b then (r.post.heap.get b, r.post.next) else Hv S h0 N0 b L
  ts : ∀ {S'}, S' r.i = true → (∀ i, i ≠ r.i → S' i = S i) → ∀ t, Tv S' a0 N0 t L = if r.o.dst == some t then (some r.v, r.post.next) else Tv S a0 N0 t L
  apart : ∀ p ∈ L, p.i ≠ r.i → p.post.next ≤ r.n0 ∨ r.post.next ≤ p.n0
theorem Base.sees (B : Base P F ih ops L a0 aE h0 hE N0 NE m0 A0 w0) (hr : r ∈ L) (hc : Closed ops S) (hs : S r.i = false) (hw : ∀ e ∈ r.o.after, Region.binds .any e = true → S e.on = true) : Sees P L a0 h0 N0 NE S r := by
  have hd := B.hd
  have t := B.tr
  obtain ⟨q, l, a, h, nx, e, t1, g, hq, hle⟩ := t.split hr
  have g0 := g.n0; have g1 := g.n1
  obtain ⟨k1, k2, k3, k4⟩ := t1.each
  have hqb : ∀ p ∈ q, S p.i = true → p.mask.testBit r.i = false := fun p hp hS => by
    cases hb : p.mask.testBit r.i with
    | false => rfl
    | true =>
      have hpL : p ∈ L := by rw [e]; exact List.mem_append_left _ hp
      have := t.waits hc p hpL r.i hb (hc p.i p.o (t.each.2.2.2 p hpL).2.2.2.2.2.2 hS)
      rw [hs] at this; cases this
  have hqa : ∀ p ∈ q, S p.i = true → Ap p r ∧ r.post.next ≤ p.n0 := fun p hp hS => by
    obtain ⟨l2, a2, h2, nx2, hm, gp, hn, _⟩ := hq p hp
    exact ⟨gp.ap r hm (hqb p hp hS), hn⟩
  have hlb : ∀ p ∈ l, S p.i = false → r.mask.testBit p.i = false := fun p hp hS => by
    cases hb : r.mask.testBit p.i with
    | false => rfl
    | true =>
      have := t.waits hc r hr p.i hb hw
      rw [hS] at this; cases this
  have hi : ∀ p ∈ q ++ l, p.i ≠ r.i := fun p hp => by
    rcases List.mem_append.1 hp with hp | hp
    · obtain ⟨_, _, _, _, _, _, _, h2⟩ := hq p hp; omega
    · have := (k4 p hp).2.2.2.2.2.1; have := g.i; omega
  refine ⟨by omega, g1, hle, fun b o hb => ?_, fun t2 v hv => ?_, g.fn.trans k2, g.fm.trans k3, fun d hdd => by rw [← k2]; exact g.pd d hdd, fun h1 h2 b => ?_, fun h1 h2 t2 => ?_, fun p hp hne => ?_⟩
  · obtain ⟨v1, v2⟩ := g.vw b o hb
    have hbn := t1.dom hd b o v1
    have : Hv S h0 N0 b L = Hv all h0 N0 b l := by
      rw [e]
      refine (ovr_skip fun p hp hS => ?_).trans ((ovr_skip (q := [r]) (l := l) fun p hp hS => ?_).trans (ovr_agree fun p hp ht => ?_))
      · obtain ⟨ap, hn⟩ := hqa p hp hS
        refine touch_not.2 ⟨?_, by omega⟩
        cases hx : p.post.wr.get b with
        | none => rfl
        | some u => have := (ap.w1 b (by rw [hx]; simp)).2; rw [hb] at this; cases this
      · rw [List.mem_singleton] at hp; subst hp; rw [hs] at hS; cases hS
      · cases hS : S p.i with
        | true => rfl
        | false => have := v2 p hp (hlb p hp hS); rw [this] at ht; cases ht
    rw [this, hv_all t1, v1, g0]
    exact ⟨hbn, rfl, hv_le t1 _ _⟩
  · obtain ⟨v1, v2⟩ := g.ft t2 v hv
    have : Tv S a0 N0 t2 L = Tv all a0 N0 t2 l := by
      rw [e]
      refine (ovr_skip fun p hp hS => ?_).trans ((ovr_skip (q := [r]) (l := l) fun p hp hS => ?_).trans (ovr_agree fun p hp ht => ?_))
      · obtain ⟨ap, hn⟩ := hqa p hp hS
        rw [← Bool.not_eq_true, beq_iff_eq]
        exact fun hx => ap.d2 t2 hx v2
      · rw [List.mem_singleton] at hp; subst hp; rw [hs] at hS; cases hS
      · cases hS : S p.i with
        | true => rfl
        | false => exact absurd v2 ((g.ap p hp (hlb p hp hS)).d1 t2 (beq_iff_eq.1 ht)).1
    rw [this, tv_all t1, v1, g0]
    exact ⟨rfl, tv_le t1 _ _⟩
  · rw [e]
    refine ovr_step hs h1 h2 hi fun ht p hp hS => ?_
    obtain ⟨ap, hn⟩ := hqa p hp hS
    cases hx : touch p b with
    | false => rfl
    | true =>
      rcases touch_iff.1 hx with h3 | h3
      · have := (ap.w1 b h3).1; rw [ht] at this; cases this
      · rcases touch_iff.1 ht with h4 | h4
        · have := ap.w2 b h4; rw [hx] at this; cases this
        · omega
  · rw [e]
    refine ovr_step hs h1 h2 hi fun ht p hp hS => ?_
    obtain ⟨ap, hn⟩ := hqa p hp hS
    rw [← Bool.not_eq_true, beq_iff_eq]
    exact (ap.d1 t2 (beq_iff_eq.1 ht)).2
  · rw [e] at hp
    rcases List.mem_append.1 hp with hp | hp
    · obtain ⟨_, _, _, _, _, _, h2, _⟩ := hq p hp; exact .inr h2
    · rcases List.mem_cons.1 hp with rfl | hp
      · exact absurd rfl hne
      · have := (k4 p hp).2.2.1; exact .inl (by omega)
/-- Before it. -/
theorem DI.pre (B : Base P F ih ops L a0 aE h0 hE N0 NE m0 A0 w0) (D : DI P L a0 h0 N0 NE m0 A0 w0 S m A w) (Z : Sees P L a0 h0 N0 NE S r) :
    Ok P (res m r.n0) { heap := r.view, next := r.n0, wr := .e } w ∧ FrR (res m r.n0) r.a A := by
  refine ⟨⟨fun b o hb => ?_, fun b b' o o' c x x' hb hb' h1 h2 => ?_, fun g hg => ?_, fun b hb => if_neg (Nat.not_lt.2 hb)⟩, ⟨fun t v hv => ?_, D.sz.trans Z.an.symm, ?_⟩⟩
  · obtain ⟨z1, z2, z3⟩ := Z.vw b o hb
    obtain ⟨c, x, o', k1, k2, k3⟩ := D.rel b o z2
    exact ⟨c, x, o', by rw [res_lt z1]; exact k1, k2, k3.mono (res_mono z3)⟩
  · exact D.inj b b' o o' c x x' (Z.vw b o hb).2.1 (Z.vw b' o' hb').2.1 (res_some h1).2 (res_some h2).2
  · have hl := B.lt g
    obtain ⟨s, _, _, ho⟩ := B.ok
    have := ho.glob g hg
    have h1 := hl _ this
    have h2 := Z.n0
    rw [res_lt (by omega)]; exact D.ext _ _ this
  · obtain ⟨z1, z2⟩ := Z.tv t v hv
    obtain ⟨v', k1, k2⟩ := D.tm t v z1
    exact ⟨v', k1, k2.mono (res_mono z2)⟩
  · rw [Z.am, D.df]
    refine B.fr.d.mono fun b x e => ?_
    have h1 := B.lt b x e
    have h2 := Z.n0
    rw [res_lt (by omega)]; exact D.ext _ _ e
/-- Behind it. -/
theorem DI.step (B : Base P F ih ops L a0 aE h0 hE N0 NE m0 A0 w0) (D : DI P L a0 h0 N0 NE m0 A0 w0 S m A w) (hr : r ∈ L) (Z : Sees P L a0 h0 N0 NE S r) (hs : S r.i = false) (h1 : S' r.i = true) (h2 : ∀ i, i ≠ r.i → S' i = S i)
    {v' : Value} (hp : Post P (res m r.n0) { heap := r.view, next := r.n0, wr := .e } w m2 r.post w2) (hv : VR m2 r.v v') :
    DI P L a0 h0 N0 NE m0 A0 w0 S' (fun b => if r.n0 ≤ b ∧ b < r.post.next then m2 b else m b) (A.put r.o.dst v') w2 := by
  have hH := Z.hv h1 h2
  have hT := Z.ts h1 h2
  have z0 := Z.n0; have z1 := Z.n1; have zE := Z.nE
  generalize hM : (fun b => if r.n0 ≤ b ∧ b < r.post.next then m2 b else m b) = M
  have Min : ∀ b, r.n0 ≤ b → b < r.post.next → M b = m2 b := fun b k1 k2 => by rw [← hM]; exact if_pos ⟨k1, k2⟩
  have Mout : ∀ b, ¬ (r.n0 ≤ b ∧ b < r.post.next) → M b = m b := fun b k => by rw [← hM]; exact if_neg k
  have hmM : m.le M := fun b x e => by
    by_cases k : r.n0 ≤ b ∧ b < r.post.next
    · rw [D.new r hr hs b k.1 k.2] at e; cases e
    · rw [Mout b k]; exact e
  have hm2 : ∀ b, m2 b = res M r.post.next b := fun b => by
    rcases Nat.lt_or_ge b r.n0 with k | k
    · rw [hp.old b k, res_lt k, res_lt (by omega), Mout b (by omega)]
    · rcases Nat.lt_or_ge b r.post.next with k2 | k2
      · rw [res_lt k2, Min b k k2]
      · rw [hp.ok.new b k2]; exact (if_neg (Nat.not_lt.2 k2)).symm
  have hm2r : m2.le (res M r.post.next) := fun b x e => by rw [← hm2]; exact e
  have hm2M : m2.le M := hm2r.trans res_le
  have keep : ∀ b o c x, touch r b = false → (Hv S h0 N0 b L).1 = some o → m b = some (c, x) → w2.heap[c]? = w.heap[c]? := fun b o c x ht hb hm => by
    cases hvw : r.view.get b with
    | some ov => exact hp.un b ov c x hvw (by rw [res_lt (Z.vw b ov hvw).1]; exact hm) (touch_not.1 ht).1
    | none =>
      obtain ⟨c2, x2, o', k1, k2, _⟩ := D.rel b o hb
      rw [hm] at k1; injection k1 with k1; injection k1 with e1 e2; subst e1; subst e2
      refine hp.fr c ?_ fun b1 o1 x1 j1 j2 => ?_
      · rcases Nat.lt_or_ge c w.heap.size with hl | hl
        · exact hl
        · rw [Array.getElem?_eq_none hl] at k2; cases k2
      · have := D.inj b1 b o1 o c x1 x (Z.vw b1 o1 j1).2.1 hb (res_some j2).2 hm
        subst this; dsimp only at j1; rw [hvw] at j1; cases j1
  have mixed : ∀ b b' o o' c x x', touch r b = true → touch r b' = false → r.post.heap.get b = some o → (Hv S h0 N0 b' L).1 = some o' → M b = some (c, x) → M b' = some (c, x') → False := fun b b' o o' c x x' t1 t2 hb hb' hm hm' => by
    obtain ⟨c1, x1, o1, i1, i2, i3⟩ := hp.ok.dom b o hb
    have := hm2M _ _ i1
    rw [hm] at this; injection this with this; injection this with e1 e2; subst e1; subst e2
    obtain ⟨c3, x3, o3, j1, j2, j3⟩ := D.rel b' o' hb'
    have := hmM _ _ j1
    rw [hm'] at this; injection this with this; injection this with e1 e2; subst e1; subst e2
    have viaView : ∀ b0 o0 x0, r.view.get b0 = some o0 → res m r.n0 b0 = some (c, x0) → b0 = b' := fun b0 o0 x0 q1 q2 => D.inj b0 b' o0 o' c x0 x' (Z.vw b0 o0 q1).2.1 hb' (res_some q2).2 j1
    rcases Nat.lt_or_ge b r.n0 with k | k
    · have hvb := hp.dom b k (by rw [hb]; simp)
      obtain ⟨ov, hov⟩ := Option.ne_none_iff_exists'.1 hvb
      have q2 := hp.old b k
      rw [i1] at q2
      have := viaView b ov x hov q2.symm
      subst this; rw [t1] at t2; cases t2
    · rcases hp.fresh b c x (if_neg (Nat.not_lt.2 k)) i1 with q | ⟨b0, o0, x0, q1, q2⟩
      · rw [Array.getElem?_eq_none q] at j2; cases j2
      · have := viaView b0 o0 x0 q1 q2
        subst this
        have hlt := (Z.vw b0 o0 q1).1
        have q3 := hp.lc b0 hlt (touch_not.1 t2).1
        dsimp only at q1 q3
        rw [q1] at q3
        have := hp.ok.inj b b0 o o0 c x x0 hb q3 i1 (hp.ext _ _ q2)
        subst this; rw [t1] at t2; cases t2
  have back : ∀ b o c x, r.view.get b = some o → res m r.n0 b = some (c, x) → w0.heap.size ≤ c ∨ ∃ b1 o1 x1, h0.get b1 = some o1 ∧ m0 b1 = some (c, x1) := fun b o c x q1 q2 => by
    have hmb := (res_some q2).2
    cases e0 : m0 b with
    | none => exact D.fresh b c x e0 hmb
    | some y =>
      have := D.ext _ _ e0
      rw [hmb] at this; injection this with this; subst this
      have hlt := B.lt b _ e0
      have := D.dm b hlt (by rw [(Z.vw b o q1).2.1]; simp)
      obtain ⟨o1, ho1⟩ := Option.ne_none_iff_exists'.1 this
      exact .inr ⟨b, o1, x, ho1, e0⟩
  refine ⟨fun b o e => ?_, fun b b' o o' c x x' e e' hm hm' => ?_, D.ext.trans hmM, fun b hb => ?_, fun p hpL hps b k1 k2 => ?_, fun b hb => ?_, fun t v e => ?_, ?_, ?_, fun b hb e => ?_, fun c hc hf => ?_, fun b c x e0 e => ?_, Nat.le_trans D.size hp.size, hp.os.trans D.os, hp.out.trans D.out, hp.tape.trans D.tape, fun b o c x k1 k2 k3 => ?_⟩
  · rw [hH] at e ⊢
    cases ht : touch r b with
    | true =>
      rw [ht] at e
      obtain ⟨c, x, o', i1, i2, i3⟩ := hp.ok.dom b o e
      exact ⟨c, x, o', hm2M _ _ i1, i2, i3.mono hm2r⟩
    | false =>
      rw [ht] at e
      simp only [Bool.false_eq_true, if_false] at e ⊢
      obtain ⟨c, x, o', i1, i2, i3⟩ := D.rel b o e
      exact ⟨c, x, o', hmM _ _ i1, by rw [keep b o c x ht e i1]; exact i2, i3.mono (res_mono2 hmM)⟩
  · rw [hH] at e e'
    cases ht : touch r b with
    | true =>
      rw [ht] at e
      cases ht' : touch r b' with
      | true =>
        rw [ht'] at e'
        obtain ⟨c1, x1, o1, i1, _, _⟩ := hp.ok.dom b o e
        have := hm2M _ _ i1
        rw [hm] at this; injection this with this; injection this with e1 e2; subst e1; subst e2
        obtain ⟨c3, x3, o3, j1, _, _⟩ := hp.ok.dom b' o' e'
        have := hm2M _ _ j1
        rw [hm'] at this; injection this with this; injection this with e1 e2; subst e1; subst e2
        exact hp.ok.inj b b' o o' c x x' e e' i1 j1
      | false =>
        rw [ht'] at e'
        simp only [Bool.false_eq_true, if_false] at e'
        exact (mixed b b' o o' c x x' ht ht' e e' hm hm').elim
    | false =>
      rw [ht] at e
      simp only [Bool.false_eq_true, if_false] at e
      cases ht' : touch r b' with
      | true =>
        rw [ht'] at e'
        exact (mixed b' b o' o c x' x ht' ht e' e hm' hm).elim
      | false =>
        rw [ht'] at e'
        simp only [Bool.false_eq_true, if_false] at e'
        obtain ⟨c1, x1, o1, i1, _, _⟩ := D.rel b o e
        have := hmM _ _ i1
        rw [hm] at this; injection this with this; injection this with e1 e2; subst e1; subst e2
        obtain ⟨c3, x3, o3, j1, _, _⟩ := D.rel b' o' e'
        have := hmM _ _ j1
        rw [hm'] at this; injection this with this; injection this with e1 e2; subst e1; subst e2
        exact D.inj b b' o o' c x x' e e' i1 j1
  · rw [Mout b (by omega)]; exact D.old b hb
  · have hne : p.i ≠ r.i := fun e => by rw [e, h1] at hps; cases hps
    rw [Mout b (by rcases Z.apart p hpL hne with h | h <;> omega)]
    exact D.new p hpL (by rw [← h2 _ hne]; exact hps) b k1 k2
  · rw [Mout b (by omega)]; exact D.top b hb
  · rw [hT] at e ⊢
    cases hd : (r.o.dst == some t) with
    | true =>
      rw [hd] at e
      have hd := beq_iff_eq.1 hd
      simp only [if_true] at e ⊢
      injection e with e; subst e
      refine ⟨v', ?_, hv.mono hm2r⟩
      rw [hd]
      simp [Act.put, D.sz, Z.pd t hd]
    | false =>
      rw [hd] at e
      simp only [Bool.false_eq_true, if_false] at e ⊢
      obtain ⟨u, k1, k2⟩ := D.tm t v e
      refine ⟨u, ?_, k2.mono (res_mono2 hmM)⟩
      cases hdd : r.o.dst with
      | none => exact k1
      | some d =>
        rw [hdd] at hd
        simp only [Act.put]
        rw [Array.getElem?_setIfInBounds_ne (by intro e; subst e; simp at hd)]; exact k1
  · rw [← D.sz]; cases r.o.dst <;> simp [Act.put]
  · rw [← D.df]; cases r.o.dst <;> rfl
  · rw [hH] at e
    cases ht : touch r b with
    | true =>
      rw [ht] at e
      have := hp.dom b (by dsimp only; omega) e
      obtain ⟨ov, hov⟩ := Option.ne_none_iff_exists'.1 this
      exact D.dm b hb (by rw [(Z.vw b ov hov).2.1]; simp)
    | false =>
      rw [ht] at e
      simp only [Bool.false_eq_true, if_false] at e
      exact D.dm b hb e
  · rw [hp.fr c (Nat.lt_of_lt_of_le hc D.size) fun b o x q1 q2 => ?_, D.fr c hc hf]
    rcases back b o c x q1 q2 with k | ⟨b1, o1, x1, k1, k2⟩
    · omega
    · exact hf b1 o1 x1 k1 k2
  · by_cases k : r.n0 ≤ b ∧ b < r.post.next
    · rw [Min b k.1 k.2] at e
      rcases hp.fresh b c x (if_neg (Nat.not_lt.2 k.1)) e with q | ⟨b1, o1, x1, q1, q2⟩
      · exact .inl (Nat.le_trans D.size q)
      · exact back b1 o1 c x1 q1 q2
    · rw [Mout b k] at e; exact D.fresh b c x e0 e
  · have hlt := B.lt b _ k2
    have ht : touch r b = false := touch_not.2 ⟨k3 r hr h1, by omega⟩
    have hb : (Hv S h0 N0 b L).1 = some o := by
      have : Hv S h0 N0 b L = (h0.get b, N0) := ovr_base fun p hpL hS => by
        refine touch_not.2 ⟨k3 p hpL ?_, ?_⟩
        · by_cases e : p.i = r.i
          · rw [e]; exact h1
          · rw [h2 _ e]; exact hS
        · have := (B.tr.each.2.2.2 p hpL).1; omega
      rw [this]; exact k1
    rw [keep b o c x ht hb (D.ext _ _ k2)]
    refine D.un b o c x k1 k2 fun p hpL hS => k3 p hpL ?_
    by_cases e : p.i = r.i
    · rw [e]; exact h1
    · rw [h2 _ e]; exact hS
end
end Go.Proofs.YtgfnakdfhfoplaaGreatDoor.Cx
