/- What is known of memory, and when it holds; the run of a computation on what is known. Generic over the program. -/
import Derived.Test.YtgfnakdfhfoplaaGreatDoorCxA
namespace Go.Proofs.YtgfnakdfhfoplaaGreatDoor.Cx
open Go
inductive AObj where
  | cells (n : Nat) (c : T Value) (elem : TypeId) (grown : Bool)
  | obj (o : Obj)
  | loop (state : LoopState) (pending : Option Code) (tmps : T Value) (size : Nat) (params : Array Tmp) (assign body : Code) (defers : Nat)
structure St where
  heap : T AObj
  next : Nat
  wr : T Unit
def one : Value → Bool
  | .agg _ | .tuple _ => false
  | _ => true
/-- Objects that may be laid, or looked at. -/
def plainObj : Obj → Bool
  | .map .. | .stringIter .. | .mapIter .. | .deferred _ => true
  | _ => false
def getCell (s : St) (a : Addr) : Option Value := match s.heap.get a.block, a.spot with
  | some (.cells _ c _ _), none => c.get a.off
  | _, _ => none
def putCell (s : St) (a : Addr) (v : Value) : Option St := match s.heap.get a.block, a.spot with
  | some (.cells n c e g), none => bif Nat.blt a.off n && (Nat.blt n lim && (Nat.blt a.block lim && one v)) then some { heap := s.heap.set a.block (.cells n (c.set a.off v) e g), next := s.next, wr := s.wr.set a.block () } else none
  | _, _ => none
def layObj (s : St) : Obj → Option St
  | .cells c e (0, 0) => bif Nat.blt s.next lim && Nat.blt c.size lim then some { heap := s.heap.set s.next (.cells c.size (T.ofList c.toList) e false), next := s.next + 1, wr := s.wr } else none
  | o => bif Nat.blt s.next lim && plainObj o then some { heap := s.heap.set s.next (.obj o), next := s.next + 1, wr := s.wr } else none
def shapeOf (s : St) (r : Nat) : Option (Option (TypeId × Nat)) := match s.heap.get r with
  | some (.cells n _ e false) => some (some (e, n))
  | some (.obj _) => some none
  | _ => none
def isCells (s : St) (r : Nat) : Bool := match s.heap.get r with
  | some (.cells ..) => true
  | _ => false
def objAt (s : St) (r : Nat) : Option Obj := match s.heap.get r with
  | some (.obj o) => some o
  | _ => none
def putObj (s : St) (r : Nat) (o : Obj) : Option St := match s.heap.get r with
  | some (.obj _) => bif Nat.blt r lim && plainObj o then some { heap := s.heap.set r (.obj o), next := s.next, wr := s.wr.set r () } else none
  | _ => none
def arun {α : Type} (P : Program) : Sem α → St → Option (α × St)
  | .pure a, s => some (a, s)
  | .load _ a k, s => match getCell s a with
    | some v => arun P (k v) s
    | none => none
  | .store _ a v k, s => match putCell s a v with
    | some s => arun P k s
    | none => none
  | .new o k, s => match layObj s o with
    | some s' => arun P (k s.next) s'
    | none => none
  | .shape r k, s => match shapeOf s r with
    | some x => arun P (k x) s
    | none => none
  | .freeze _ _ _, _ => none
  | .frozen a k, s => match isCells s a.block with
    | true => arun P (k false) s
    | false => none
  | .getObj r k, s => match objAt s r with
    | some o => arun P (k o) s
    | none => none
  | .setObj r o k, s => match putObj s r o with
    | some s => arun P k s
    | none => none
  | .choose q k, s => match q.forced with
    | true => arun P (k 0) s
    | false => none
  | .sys _ _, _ => none
  | .program k, s => arun P (k P) s
  | .mark _ k, s => arun P k s
  | .halt _, _ => none
/-! ### When what is known holds -/
inductive ER (m : Mp) : List MapEntry → List MapEntry → Prop where
  | nil : ER m [] []
  | cons {e e' : MapEntry} {l l' : List MapEntry} (hk : VR m e.key e'.key) (hv : VR m e.val e'.val) (hb : e.born = e'.born) (t : ER m l l') : ER m (e :: l) (e' :: l')
inductive OR (m : Mp) : Obj → Obj → Prop where
  | map {es es' : Array MapEntry} {k : Nat} (h : ER m es.toList es'.toList) : OR m (.map es k) (.map es' k)
  | stringIter (s : ByteArray) (p : Nat) : OR m (.stringIter s p) (.stringIter s p)
  | mapIterN (a : Nat) (b : Array Nat) (c : Nat) : OR m (.mapIter none a b c) (.mapIter none a b c)
  | mapIter {r r' x a c : Nat} {b : Array Nat} (h : m r = some (r', x)) : OR m (.mapIter (some r) a b c) (.mapIter (some r') a b c)
  | defs : OR m (.deferred (some [])) (.deferred (some []))
  | defN : OR m (.deferred none) (.deferred none)
theorem ER.mono {m m' : Mp} (hm : m.le m') {l l' : List MapEntry} (h : ER m l l') : ER m' l l' := by
  induction h with
  | nil => exact .nil
  | cons hk hv hb _ ih => exact .cons (hk.mono hm) (hv.mono hm) hb ih
theorem OR.mono {m m' : Mp} (hm : m.le m') {o o' : Obj} (h : OR m o o') : OR m' o o' := by
  cases h with
  | map h => exact .map (h.mono hm)
  | stringIter s p => exact .stringIter s p
  | mapIterN a b c => exact .mapIterN a b c
  | mapIter h => exact .mapIter (hm _ _ h)
  | defs => exact .defs
  | defN => exact .defN
/-- Temporaries that are known. -/
def TR (m : Mp) (t : T Value) (a : Array Value) : Prop := ∀ i v, t.get i = some v → ∃ v', a[i]? = some v' ∧ VR m v v'
theorem TR.mono {m m' : Mp} (hm : m.le m') {t : T Value} {a : Array Value} (h : TR m t a) : TR m' t a := fun i v e => let ⟨v', e', hv⟩ := h i v e; ⟨v', e', hv.mono hm⟩
def SizeIs (P : Program) (e : TypeId) (k : Nat) : Prop := ∃ i, P.info? e = some i ∧ i.size = k
inductive OO (P : Program) (m : Mp) (x : Nat) : AObj → Obj → Prop where
  | exact {n : Nat} {c : T Value} {e : TypeId} {cs : Array Value} (hx : x = 0) (hn : cs.size = n) (h : ∀ i v, c.get i = some v → i < n ∧ ∃ v', cs[i]? = some v' ∧ VR m v v') :
      OO P m x (.cells n c e false) (.cells cs e (0, 0))
  | grown {n k : Nat} {c : T Value} {e : TypeId} {cs : Array Value} (hk : SizeIs P e k) (hn : cs.size = n + x * k) (h : ∀ i v, c.get i = some v → i < n ∧ ∃ v', cs[i]? = some v' ∧ VR m v v') :
      OO P m x (.cells n c e true) (.cells cs e (0, 0))
  | obj {o o' : Obj} (hx : x = 0) (h : OR m o o') : OO P m x (.obj o) o'
  | loop {st : LoopState} {pd : Option Code} {fn : FuncId} {t : T Value} {n : Nat} {a : Array Value} {ps : Array Tmp} {as bd : Code} {d d' y : Nat} (hx : x = 0) (ht : TR m t a) (hn : a.size = n) (hd : m d = some (d', y)) :
      OO P m x (.loop st pd t n ps as bd d) (.loop { state := st, pending := pd, fn := fn, tmps := a, params := ps, assign := as, body := bd, defers := d' })
theorem OO.mono {P : Program} {m m' : Mp} (hm : m.le m') {x : Nat} {o : AObj} {o' : Obj} (h : OO P m x o o') : OO P m' x o o' := by
  cases h with
  | exact hx hn h => exact .exact hx hn fun i v e => let ⟨a, v', b, c⟩ := h i v e; ⟨a, v', b, c.mono hm⟩
  | grown hk hn h => exact .grown hk hn fun i v e => let ⟨a, v', b, c⟩ := h i v e; ⟨a, v', b, c.mono hm⟩
  | obj hx h => exact .obj hx (h.mono hm)
  | loop hx ht hn hd => exact .loop hx (ht.mono hm) hn (hm _ _ hd)
structure Ok (P : Program) (m : Mp) (s : St) (w : World) : Prop where
  dom : ∀ b o, s.heap.get b = some o → ∃ c x o', m b = some (c, x) ∧ w.heap[c]? = some o' ∧ OO P m x o o'
  inj : ∀ b b' o o' c x x', s.heap.get b = some o → s.heap.get b' = some o' → m b = some (c, x) → m b' = some (c, x') → b = b'
  glob : ∀ g, g < P.globals.size → m g = some (g, 0)
  new : ∀ b, s.next ≤ b → m b = none
/-- What a step leaves: what is known behind it, and all else in memory as it was. -/
structure Post (P : Program) (m : Mp) (s : St) (w : World) (m2 : Mp) (s2 : St) (w2 : World) : Prop where
  ok : Ok P m2 s2 w2
  ext : m.le m2
  nx : s.next ≤ s2.next
  dom : ∀ b, b < s.next → s2.heap.get b ≠ none → s.heap.get b ≠ none
  lc : ∀ b, b < s.next → s2.wr.get b = none → s2.heap.get b = s.heap.get b
  wm : ∀ b, s2.wr.get b = none → s.wr.get b = none
  fr : ∀ c, c < w.heap.size → (∀ b o x, s.heap.get b = some o → m b ≠ some (c, x)) → w2.heap[c]? = w.heap[c]?
  fresh : ∀ b c x, m b = none → m2 b = some (c, x) → w.heap.size ≤ c ∨ ∃ b0 o0 x0, s.heap.get b0 = some o0 ∧ m b0 = some (c, x0)
  size : w.heap.size ≤ w2.heap.size
  os : w2.os = w.os
  out : w2.output = w.output
  tape : w2.tape = w.tape
  old : ∀ b, b < s.next → m2 b = m b
  un : ∀ b o c x, s.heap.get b = some o → m b = some (c, x) → s2.wr.get b = none → w2.heap[c]? = w.heap[c]?
section
variable {P : Program} {m m0 m1 m2 m3 : Mp} {s s1 s2 s3 : St} {w w1 w2 w3 : World}
theorem Post.refl (h : Ok P m s w) : Post P m s w m s w :=
  ⟨h, .refl m, Nat.le_refl _, fun _ _ h => h, fun _ _ _ => rfl, fun _ h => h, fun _ _ _ => rfl, fun _ _ _ h1 h2 => absurd (h1.symm.trans h2) (by simp), Nat.le_refl _, rfl, rfl, rfl, fun _ _ => rfl, fun _ _ _ _ _ _ _ => rfl⟩
theorem Post.trans (h0 : Ok P m s w) (h : Post P m s w m1 s1 w1) (h' : Post P m1 s1 w1 m2 s2 w2) : Post P m s w m2 s2 w2 := by
  have old : ∀ b c x, s1.heap.get b ≠ none → m1 b = some (c, x) → w.heap.size ≤ c ∨ ∃ b0 o0 x0, s.heap.get b0 = some o0 ∧ m b0 = some (c, x0) := by
    intro b c x hb hm
    by_cases hlt : b < s.next
    · have := h.dom b hlt hb
      obtain ⟨o, ho⟩ := Option.ne_none_iff_exists'.1 this
      obtain ⟨c0, x0, _, hm0, _⟩ := h0.dom b o ho
      have := h.ext _ _ hm0
      rw [hm] at this; injection this with this; injection this with e1 e2; subst e1
      exact .inr ⟨b, o, x0, ho, hm0⟩
    · exact h.fresh b c x (h0.new b (by omega)) hm
  refine ⟨h'.ok, h.ext.trans h'.ext, Nat.le_trans h.nx h'.nx, fun b hb h2 => h.dom b hb (h'.dom b (Nat.lt_of_lt_of_le hb h.nx) h2), fun b hb h2 => ?_, fun b h2 => h.wm b (h'.wm b h2), fun c hc hf => ?_, fun b c x h1 h2 => ?_, Nat.le_trans h.size h'.size, h'.os.trans h.os, h'.out.trans h.out, h'.tape.trans h.tape, fun b hb => (h'.old b (Nat.lt_of_lt_of_le hb h.nx)).trans (h.old b hb), fun b o c x hb hm hw => ?_⟩
  · rw [h'.lc b (Nat.lt_of_lt_of_le hb h.nx) h2, h.lc b hb (h'.wm b h2)]
  · rw [h'.fr c (Nat.lt_of_lt_of_le hc h.size) fun b o x hb hm => ?_, h.fr c hc hf]
    rcases old b c x (by rw [hb]; simp) hm with h1 | ⟨b0, o0, x0, h1, h2⟩
    · omega
    · exact hf b0 o0 x0 h1 h2
  · cases hm1 : m1 b with
    | some y =>
      have := h'.ext _ _ hm1
      rw [h2] at this; injection this with this; subst this
      exact h.fresh b c x h1 hm1
    | none =>
      rcases h'.fresh b c x hm1 h2 with h3 | ⟨b0, o0, x0, h3, h4⟩
      · exact .inl (Nat.le_trans h.size h3)
      · exact old b0 c x0 (by rw [h3]; simp) h4
  · have hlt : b < s.next := by
      rcases Nat.lt_or_ge b s.next with h1 | h1
      · exact h1
      · rw [h0.new b h1] at hm; cases hm
    have hw1 := h'.wm b hw
    rw [h'.un b o c x (by rw [h.lc b hlt hw1]; exact hb) (h.ext _ _ hm) hw, h.un b o c x hb hm hw1]
/-- A computation on what is known, and the one in memory. -/
def Sim {α β : Type} (P : Program) (R : Mp → α → β → Prop) (m0 : Mp) (a : Sem α) (c : Sem β) : Prop :=
  ∀ m s w, m0.le m → Ok P m s w → ∀ x s2, arun P a s = some (x, s2) → ∃ m2 y w2, c.run P w = .ok y w2 ∧ R m2 x y ∧ Post P m s w m2 s2 w2
theorem arun_bind {α β : Type} (a : Sem α) (f : α → Sem β) : ∀ s, arun P (a.bind f) s = (arun P a s).bind fun r => arun P (f r.1) r.2 := by
  induction a with
  | pure a => intro s; rfl
  | load m a k ih => intro s; simp only [Sem.bind, arun]; cases getCell s a <;> first | rfl | exact ih _ _
  | store m a v k ih => intro s; simp only [Sem.bind, arun]; cases putCell s a v <;> first | rfl | exact ih _
  | new o k ih => intro s; simp only [Sem.bind, arun]; cases layObj s o <;> first | rfl | exact ih _ _
  | shape r k ih => intro s; simp only [Sem.bind, arun]; cases shapeOf s r <;> first | rfl | exact ih _ _
  | freeze a n k ih => intro s; rfl
  | frozen a k ih => intro s; simp only [Sem.bind, arun]; cases isCells s a.block <;> first | rfl | exact ih _ _
  | getObj r k ih => intro s; simp only [Sem.bind, arun]; cases objAt s r <;> first | rfl | exact ih _ _
  | setObj r o k ih => intro s; simp only [Sem.bind, arun]; cases putObj s r o <;> first | rfl | exact ih _
  | choose q k ih => intro s; simp only [Sem.bind, arun]; cases q.forced <;> first | rfl | exact ih _ _
  | sys c k ih => intro s; rfl
  | program k ih => intro s; simp only [Sem.bind, arun]; exact ih _ _
  | mark m k ih => intro s; simp only [Sem.bind, arun]; exact ih _
  | halt h => intro s; rfl
theorem Sim.bind {α β γ δ : Type} {R : Mp → α → γ → Prop} {R' : Mp → β → δ → Prop} {a : Sem α} {c : Sem γ} {f : α → Sem β} {g : γ → Sem δ} (h : Sim P R m0 a c)
    (hf : ∀ m x y, m0.le m → R m x y → Sim P R' m (f x) (g y)) : Sim P R' m0 (a >>= f) (c >>= g) := by
  intro m s w hm ho x s2 hr
  have hr : arun P (a.bind f) s = some (x, s2) := hr
  rw [arun_bind] at hr
  cases h1 : arun P a s with
  | none => rw [h1] at hr; cases hr
  | some r =>
    rw [h1] at hr
    obtain ⟨x1, s1⟩ := r
    obtain ⟨m2, y, w2, e1, hR, hp⟩ := h m s w hm ho x1 s1 h1
    obtain ⟨m3, z, w3, e2, hR2, hp2⟩ := hf m2 x1 y (hm.trans hp.ext) hR m2 s1 w2 (.refl _) hp.ok x s2 hr
    refine ⟨m3, z, w3, ?_, hR2, hp.trans ho hp2⟩
    rw [Sem.run_bind, e1]; exact e2
theorem Sim.pure {α β : Type} {R : Mp → α → β → Prop} {x : α} {y : β} (h : R m0 x y) (hmono : ∀ m, m0.le m → R m0 x y → R m x y) : Sim P R m0 (Pure.pure x) (Pure.pure y) := by
  intro m s w hm ho x' s2 hr
  have hr : some (x, s) = some (x', s2) := hr
  injection hr with hr; injection hr with e1 e2; subst e1; subst e2
  exact ⟨m, y, w, rfl, hmono m hm h, .refl ho⟩
theorem Sim.halt {α β : Type} {R : Mp → α → β → Prop} {h : Halt} {c : Sem β} : Sim P R m0 (Sem.halt h : Sem α) c := fun _ _ _ _ _ _ _ hr => nomatch (hr : (none : Option _) = some _)
theorem Sim.mono {α β : Type} {R R' : Mp → α → β → Prop} {a : Sem α} {c : Sem β} (h : Sim P R m0 a c) (hr : ∀ m x y, m0.le m → R m x y → R' m x y) : Sim P R' m0 a c := by
  intro m s w hm ho x s2 hx
  obtain ⟨m2, y, w2, e1, hR, hp⟩ := h m s w hm ho x s2 hx
  exact ⟨m2, y, w2, e1, hr m2 x y (hm.trans hp.ext) hR, hp⟩
theorem Sim.weak {α β : Type} {R : Mp → α → β → Prop} {a : Sem α} {c : Sem β} (h : Sim P R m0 a c) (hm : m0.le m1) : Sim P R m1 a c := fun m s w h1 => h m s w (hm.trans h1)
/-- A computation that looks at nothing. -/
def Quiet {α : Type} (P : Program) (a : Sem α) : Prop := ∀ s x s2, arun P a s = some (x, s2) → s2 = s ∧ ∀ w, a.run P w = .ok x w
theorem Quiet.sim {α : Type} {a : Sem α} (h : Quiet P a) : Sim P (fun _ x y => x = y) m0 a a := by
  intro m s w hm ho x s2 hr
  obtain ⟨e, h2⟩ := h s x s2 hr
  subst e
  exact ⟨m, x, w, h2 w, rfl, .refl ho⟩
theorem Quiet.bind {α β : Type} {a : Sem α} {f : α → Sem β} (h : Quiet P a) (hf : ∀ x, Quiet P (f x)) : Quiet P (a >>= f) := by
  intro s x s2 hr
  have hr : arun P (a.bind f) s = some (x, s2) := hr
  rw [arun_bind] at hr
  cases h1 : arun P a s with
  | none => rw [h1] at hr; cases hr
  | some r =>
    rw [h1] at hr
    obtain ⟨e, h2⟩ := h s r.1 r.2 h1
    obtain ⟨e2, h3⟩ := hf r.1 r.2 x s2 hr
    refine ⟨e2.trans e, fun w => ?_⟩
    rw [Sem.run_bind, h2 w]; exact h3 w
theorem Quiet.pure {α : Type} (x : α) : Quiet P (Pure.pure x : Sem α) := by
  intro s y s2 hr
  have hr : some (x, s) = some (y, s2) := hr
  injection hr with hr; injection hr with e1 e2; subst e1; subst e2
  exact ⟨rfl, fun _ => rfl⟩
theorem Quiet.halt {α : Type} {h : Halt} : Quiet P (Sem.halt h : Sem α) := fun _ _ _ hr => nomatch (hr : (none : Option _) = some _)
theorem Quiet.program : Quiet P Go.program := by
  intro s y s2 hr
  have hr : some (P, s) = some (y, s2) := hr
  injection hr with hr; injection hr with e1 e2; subst e1; subst e2
  exact ⟨rfl, fun _ => rfl⟩
theorem Quiet.mark (k : Mark) : Quiet P (Go.mark k) := by
  intro s y s2 hr
  have hr : some ((), s) = some (y, s2) := hr
  injection hr with hr; injection hr with e1 e2; subst e1; subst e2
  exact ⟨rfl, fun _ => rfl⟩
theorem Quiet.typeInfo (t : TypeId) : Quiet P (Go.typeInfo t) := Quiet.bind .program fun p => by split <;> first | exact .pure _ | exact .halt
theorem Quiet.underlying (t : TypeId) : Quiet P (Go.underlying t) := Quiet.bind .program fun p => by split <;> first | exact .pure _ | exact .halt
theorem Quiet.zeroValue (t : TypeId) : Quiet P (Go.zeroValue t) := Quiet.bind (.typeInfo t) fun p => by split <;> first | exact .pure _ | exact .halt
theorem Quiet.sizeOf (t : TypeId) : Quiet P (Go.sizeOf t) := Quiet.bind (.typeInfo t) fun _ => .pure _
theorem Quiet.isAgg (t : TypeId) : Quiet P (Go.isAgg t) := Quiet.bind (.underlying t) fun p => by split <;> exact .pure _
theorem Quiet.asInt (v : Value) : Quiet P (Go.asInt v) := by
  unfold Go.asInt asIntOf
  cases v with
  | pointer a => cases a <;> exact .bind .halt fun _ => .pure _
  | int k n => exact .bind (.pure _) fun _ => .pure _
  | _ => exact .bind .halt fun _ => .pure _
end
end Go.Proofs.YtgfnakdfhfoplaaGreatDoor.Cx
