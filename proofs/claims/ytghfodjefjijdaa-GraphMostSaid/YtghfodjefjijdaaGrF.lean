/- A range over a function whose iterator keeps rows and maps of its own: a contract that names what the loop's body may turn, and the law of the loop. -/
import Derived.Test.YtghfodjefjijdaaGrE
namespace Go.Proofs.Ytghfodjefjijdaa
section
open Go Go.RowKit Go.Shelf
/-- What holds is not of blocks from B on. -/
def OwnAll {β : Type} (B : Nat) (I : β → World → Prop) : Prop := ∀ s X Y row, I s X → X.grownBy Y row → (∀ r, row = some r → B ≤ r) → I s Y
/-- All blocks are as they were, but those of Ob. -/
structure KeepO (Ob : Nat → Prop) (W W' : World) : Prop where
  size : W.heap.size ≤ W'.heap.size
  same : ∀ b o, W.heap[b]? = some o → ¬ Ob b → W'.heap[b]? = some o
theorem KeepO.refl (Ob : Nat → Prop) (W : World) : KeepO Ob W W := ⟨Nat.le_refl _, fun _ _ h _ => h⟩
theorem KeepO.trans {Ob : Nat → Prop} {A B C : World} (h : KeepO Ob A B) (k : KeepO Ob B C) : KeepO Ob A C := ⟨Nat.le_trans h.size k.size, fun b o e hn => k.same b o (h.same b o e hn) hn⟩
theorem KeepO.grown {Ob : Nat → Prop} {W W' : World} {row : Option Nat} (hg : W.grownBy W' row) (hr : ∀ r, row = some r → Ob r) : KeepO Ob W W' :=
  ⟨hg.size, fun b _ e hn => (hg.block b (Reg.size_of_get e) (fun e' => hn (hr b e'.symm))).trans e⟩
/-- .. of cells, maps and their iterators alone. -/
structure KeepX (Ob : Nat → Prop) (W W' : World) : Prop where
  size : W.heap.size ≤ W'.heap.size
  same : ∀ b o, W.heap[b]? = some o → (o.isCells = true ∨ o.isWalk = true) → ¬ Ob b → W'.heap[b]? = some o
theorem KeepO.x {Ob : Nat → Prop} {W W' : World} (h : KeepO Ob W W') : KeepX Ob W W' := ⟨h.size, fun b _ e _ hn => h.same b _ e hn⟩
theorem KeepX.refl (Ob : Nat → Prop) (W : World) : KeepX Ob W W := ⟨Nat.le_refl _, fun _ _ h _ _ => h⟩
theorem KeepX.trans {Ob : Nat → Prop} {A B C : World} (h : KeepX Ob A B) (k : KeepX Ob B C) : KeepX Ob A C := ⟨Nat.le_trans h.size k.size, fun b o e ho hn => k.same b o (h.same b o e ho hn) ho hn⟩
theorem KeepX.putObj {Ob : Nat → Prop} (W : World) (l : Nat) (o o' : Obj) (hl : W.heap[l]? = some o) (h1 : o.isCells = false) (h2 : o.isWalk = false) : KeepX Ob W (W.putObj l o') := by
  have hg := grownBy_putObj' W l o'
  refine ⟨hg.size, fun b o1 e ho _ => (hg.block b (Reg.size_of_get e) (fun e' => ?_)).trans e⟩
  obtain rfl := Option.some.inj e'
  rw [hl] at e
  obtain rfl := Option.some.inj e
  rw [h1, h2] at ho
  simp at ho
/-- An iterator that keeps rows and maps of its own: it hands on what may come next, and asks that these blocks be left alone. -/
def SeqG {α : Type} (n : Nat) (g : Nat) (lb : Array Value) (encs : α → Array Value) (Ob : Nat → Prop) (okk : List α → α → Prop) (S Sp : List α → Prop) (w : World) : Prop :=
  ∀ (l : Nat) (J Jx : List α → World → Prop) (W : World), Below w.heap.size w W →
    (∀ s X Y row, J s X → X.grownBy Y row → (∀ r, row = some r → W.heap.size ≤ r ∧ ∃ o : Obj, X.heap[r]? = some o ∧ (o.isCells = true ∨ o.isWalk = true)) → J s Y) →
    (∀ pre x W1, J pre W1 → okk pre x → YieldAt Fence.wide (n - 1) Try.prog l (encs x) W1 fun e W' =>
      (e = .returned (.bool true) ∧ J (pre ++ [x]) W' ∧ KeepX Ob W1 W') ∨ (e = .returned (.bool false) ∧ Jx (pre ++ [x]) W')) →
    J [] W →
    CallsIn Fence.wide n Try.prog g (#[.func (.yield l) #[] #[]] ++ lb) W fun e W' => (∃ v, e = .returned v) ∧ ((∃ xs, S xs ∧ J xs W') ∨ (∃ pre, Sp pre ∧ Jx pre W'))
/-- How the body of a round may be left. -/
def postG {α : Type} (Ob : Nat → Prop) (I : List α → World → Prop) (Ix : Code → List α → World → Prop) (xs : List α) (W : World) : Exit → Act → World → Prop
  | .normal, _, W' => KeepO Ob W W' ∧ I xs W'
  | .ret, _, W' => KeepO Ob W W' ∧ Ix .ret xs W'
  | .exit id, _, W' => KeepO Ob W W' ∧ Ix (.exit id) xs W'
  | .goto t, _, W' => KeepO Ob W W' ∧ Ix (.goto t) xs W'
  | .panic _, _, _ => False
  | .outgrown, _, _ => False
set_option maxHeartbeats 2000000 in
/-- The law of the loop. -/
theorem wpIn_rangeFunc_all {α : Type} {n : Nat} {g : Operand} {ps : Array Tmp} {assign body : Code} {Q : Exit → Act → World → Prop} {a : Act} {w : World}
    (h1 : 1 ≤ n) {gf : Nat} {lb : Array Value} (hg : a.eval g = .func (.func gf) #[] lb) (eg : ∀ args w, (callFunc gf args).run Try.prog w = .ok (.enter gf args) w)
    {encs : α → Array Value} {Ob : Nat → Prop} {okk : List α → α → Prop} {S Sp : List α → Prop} {w0 : World} (hseq : SeqG (n - 1) gf lb encs Ob okk S Sp w0)
    (hOb : ∀ b, Ob b → b < w.heap.size) (hb0 : Below w0.heap.size w0 w) (hps : ∀ x, (encs x).size = ps.size)
    (I : List α → World → Prop) (Ix : Code → List α → World → Prop) (hI : OwnAll w.heap.size I) (hIx : ∀ c, OwnAll w.heap.size (Ix c)) (h0 : I [] w) (a₁ : α → Act)
    (hassign : ∀ (l : Nat) (x : α) (W : World) (K : Act → World → Prop), K (a₁ x) W →
      assign.wpIn (Fence.wide.inRound l) (n - 1 - 1) Try.prog (Exit.then K (fun _ _ _ => False)) { tmps := (ps.zip (encs x)).foldl (fun t (p, v) => t.setIfInBounds p v) a.tmps, defers := [] } W)
    (hbody : ∀ (l : Nat) (pre : List α) (x : α) (W : World), I pre W → okk pre x → w.heap.size ≤ W.heap.size → body.wpIn (Fence.wide.inRound l) (n - 1 - 1) Try.prog (postG Ob I Ix (pre ++ [x]) W) (a₁ x) W)
    (hdone : ∀ (D : Nat) (xs : List α) (W : World), w.heap.size ≤ D → S xs → I xs W → W.heap[D]? = some (.deferred (some [])) → Q .normal { a with defers := { target := .collected D, args := #[] } :: a.defers } W)
    (hstop : ∀ (D : Nat) (c : Code) (pre : List α) (W : World), w.heap.size ≤ D → Sp pre → Ix c pre W → W.heap[D]? = some (.deferred (some [])) → c.wpIn Fence.wide n Try.prog Q { a with defers := { target := .collected D, args := #[] } :: a.defers } W) :
    (Code.rangeFunc g ps assign body).wpIn Fence.wide n Try.prog Q a w := by
  refine wpIn_rangeFunc ?_
  intro fn hfn
  rw [show Fence.wide.round = none from rfl]
  obtain ⟨rec, hrec⟩ : ∃ rec : LoopState → Option Code → Loop, rec = fun st pe => { state := st, pending := pe, fn, tmps := a.tmps, params := ps, assign, body, defers := w.heap.size } := ⟨_, rfl⟩
  obtain ⟨W1, hW1⟩ : ∃ W1, (w.alloc (.deferred (some []))).alloc (.loop (rec .ready none)) = W1 := ⟨_, rfl⟩
  have hL1 : W1.heap[w.heap.size + 1]? = some (.loop (rec .ready none)) := by
    rw [← hW1]; have := World.alloc_heap_new (w.alloc (.deferred (some []))) (.loop (rec .ready none)); rwa [World.size_alloc] at this
  have hK1 : W1.heap[w.heap.size]? = some (.deferred (some [])) := by
    rw [← hW1]; exact (Below.heap_alloc _ _ _ (by simp)).trans (World.alloc_heap_new w _)
  have hI1 : I [] W1 := by
    rw [← hW1]
    exact hI [] _ _ none (hI [] _ _ none h0 (World.grownBy_alloc w _ none) (fun r e => by cases e)) (World.grownBy_alloc _ _ none) (fun r e => by cases e)
  have hb1 : Below w0.heap.size w0 W1 := by
    rw [← hW1]; exact hb0.trans ((((Below.refl _ w).alloc (Nat.le_refl _) _).alloc (by simp) _).mono hb0.size)
  have hz1 : W1.heap.size = w.heap.size + 2 := by rw [← hW1, World.size_alloc, World.size_alloc]
  refine ⟨w.heap.size + 1, [{ target := .collected w.heap.size, args := #[] }], W1, { target := .fn (.func gf) lb, args := #[.func (.yield (w.heap.size + 1)) #[] #[]] }, W1, gf,
    #[.func (.yield (w.heap.size + 1)) #[] #[]] ++ lb, W1, ?_, ?_, ?_, ?_, fun _ => h1, ?_⟩
  · rw [← hW1, hrec]; exact run_enterLoop_outer _ _ _ _ _
  · simp only [resolve, hg]
    simp [go_sem]
  · intro f' hf'; exact trivial
  · simp [invoke, go_sem, eg]
  · have putI : ∀ (s : List α) (W : World) (o' : Obj), I s W → I s (W.putObj (w.heap.size + 1) o') := fun s W o' hs => hI s _ _ (some (w.heap.size + 1)) hs (grownBy_putObj' W _ o') (fun r e => by cases e; omega)
    have putIx : ∀ (c : Code) (s : List α) (W : World) (o' : Obj), Ix c s W → Ix c s (W.putObj (w.heap.size + 1) o') := fun c s W o' hs => hIx c s _ _ (some (w.heap.size + 1)) hs (grownBy_putObj' W _ o') (fun r e => by cases e; omega)
    have keepL : ∀ (b : Nat) (o : Obj) (X Y : World) (row : Option Nat), X.heap[b]? = some o → o.isCells = false → o.isWalk = false → X.grownBy Y row → (∀ r, row = some r → W1.heap.size ≤ r ∧ ∃ o : Obj, X.heap[r]? = some o ∧ (o.isCells = true ∨ o.isWalk = true)) → Y.heap[b]? = some o := by
      intro b o X Y row hb ho1 ho2 hgr hr
      refine heap_kept hb hgr (fun e => ?_)
      obtain ⟨_, o2, ho, hc⟩ := hr b e.symm
      rw [hb] at ho
      obtain rfl := Option.some.inj ho
      rw [ho1, ho2] at hc
      simp at hc
    refine (hseq (w.heap.size + 1)
      (fun pre W => I pre W ∧ (W.heap[w.heap.size + 1]? = some (.loop (rec .ready none)) ∧ W.heap[w.heap.size]? = some (.deferred (some []))))
      (fun pre W => ∃ c, Ix c pre W ∧ (W.heap[w.heap.size + 1]? = some (.loop (rec .done (some c))) ∧ W.heap[w.heap.size]? = some (.deferred (some []))))
      W1 hb1
      (fun s X Y row hs hg' hr => ⟨hI s X Y row hs.1 hg' (fun r e => by have := (hr r e).1; omega), keepL _ _ X Y row hs.2.1 rfl rfl hg' hr, keepL _ _ X Y row hs.2.2 rfl rfl hg' hr⟩)
      ?_ ⟨hI1, hL1, hK1⟩).mono ?_
    · rintro pre x W ⟨hi, hl, hk⟩ hok
      have hlt : w.heap.size + 1 < W.heap.size := (Array.getElem?_eq_some_iff.1 hl).1
      have hy := run_yield (P := Try.prog) (args := encs x) hl (by rw [hrec]; exact hps x)
      rw [hrec] at hy
      refine ⟨fn, _, assign, body, hy, roundIn_of_wpIn hfn (hassign _ x W _ ⟨_, run_beginRound hl (by rw [hrec]), ?_⟩)⟩
      have hl2 : (W.putObj (w.heap.size + 1) (.loop { rec .ready none with state := .busy })).heap[w.heap.size + 1]? = some (.loop { rec .ready none with state := .busy }) := World.putObj_heap_same hlt
      have hk2 : (W.putObj (w.heap.size + 1) (.loop { rec .ready none with state := .busy })).heap[w.heap.size]? = some (.deferred (some [])) := (World.putObj_heap_other (by omega)).trans hk
      have hw2 : KeepX Ob W (W.putObj (w.heap.size + 1) (.loop { rec .ready none with state := .busy })) := KeepX.putObj _ _ _ _ hl rfl rfl
      refine wpIn_mono (hbody _ pre x _ (putI _ _ _ hi) hok (Nat.le_trans (by omega) hw2.size)) ?_
      have fin : ∀ (jump : Option Code) (W3 : World), KeepO Ob (W.putObj (w.heap.size + 1) (.loop { rec .ready none with state := .busy })) W3 →
          (Instr.endRound (w.heap.size + 1) jump).run Try.prog W3 = .ok (.bool jump.isNone) (W3.putObj (w.heap.size + 1) (.loop (rec (if jump.isNone then .ready else .done) jump))) ∧
          W3.heap[w.heap.size + 1]? = some (.loop { rec .ready none with state := .busy }) ∧
          (W3.putObj (w.heap.size + 1) (.loop (rec (if jump.isNone then .ready else .done) jump))).heap[w.heap.size + 1]? = some (.loop (rec (if jump.isNone then .ready else .done) jump)) ∧
          (W3.putObj (w.heap.size + 1) (.loop (rec (if jump.isNone then .ready else .done) jump))).heap[w.heap.size]? = some (.deferred (some [])) := fun jump W3 hk3 => by
        have hl3 := hk3.same _ _ hl2 (fun ho => by have := hOb _ ho; omega)
        have := run_endRound (P := Try.prog) jump hl3
        rw [hrec] at this ⊢
        exact ⟨this, by rw [hrec] at hl3; exact hl3, World.putObj_heap_same (Array.getElem?_eq_some_iff.1 hl3).1, (World.putObj_heap_other (by omega)).trans (hk3.same _ _ hk2 (fun ho => by have := hOb _ ho; omega))⟩
      rintro e a3 W3 hp
      cases e with
      | normal =>
        obtain ⟨hk3, hi3⟩ := hp
        obtain ⟨hr, hl3, hl4, hk4⟩ := fin none W3 hk3
        exact ⟨_, _, hr, .inl ⟨rfl, ⟨putI _ _ _ hi3, hl4, hk4⟩, (hw2.trans hk3.x).trans (KeepX.putObj _ _ _ _ hl3 rfl rfl)⟩⟩
      | ret =>
        obtain ⟨hk3, hi3⟩ := hp
        obtain ⟨hr, hl3, hl4, hk4⟩ := fin (some .ret) W3 hk3
        exact ⟨_, _, hr, .inr ⟨rfl, .ret, putIx _ _ _ _ hi3, hl4, hk4⟩⟩
      | exit id =>
        obtain ⟨hk3, hi3⟩ := hp
        obtain ⟨hr, hl3, hl4, hk4⟩ := fin (some (.exit id)) W3 hk3
        exact ⟨_, _, hr, .inr ⟨rfl, .exit id, putIx _ _ _ _ hi3, hl4, hk4⟩⟩
      | goto t =>
        obtain ⟨hk3, hi3⟩ := hp
        obtain ⟨hr, hl3, hl4, hk4⟩ := fin (some (.goto t)) W3 hk3
        exact ⟨_, _, hr, .inr ⟨rfl, .goto t, putIx _ _ _ _ hi3, hl4, hk4⟩⟩
      | panic ch => exact hp.elim
      | outgrown => exact hp.elim
    · rintro e W2 ⟨⟨v, rfl⟩, (⟨xs, hS, hi, hl, hk⟩ | ⟨pre, hSp, c, hi, hl, hk⟩)⟩
      · exact ⟨none, _, by have := run_endLoop (P := Try.prog) hl (by rw [hrec]; simp); rw [hrec] at this; exact this, hdone _ xs _ (Nat.le_refl _) hS (putI _ _ _ hi) ((World.putObj_heap_other (by omega)).trans hk)⟩
      · exact ⟨some c, _, by have := run_endLoop (P := Try.prog) hl (by rw [hrec]; simp); rw [hrec] at this; exact this, hstop _ c pre _ (Nat.le_refl _) hSp (putIx _ _ _ _ hi) ((World.putObj_heap_other (by omega)).trans hk)⟩
end
end Go.Proofs.Ytghfodjefjijdaa
