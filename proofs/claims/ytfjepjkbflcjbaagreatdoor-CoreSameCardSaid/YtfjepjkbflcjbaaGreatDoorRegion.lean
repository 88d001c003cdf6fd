/- A region whose order is drawn, walked operation by operation: what each one leaves is told ahead, and each is shown alone, from what it waits for. Generic over the program. -/
import Derived.Test.YtfjepjkbflcjbaaGreatDoorSa
import Derived.Lib.SmallJoins
namespace Go.Proofs.YtfjepjkbflcjbaaGreatDoor.Reg
open Go Go.RowKit
/-- A block that an operation of the region makes: how the value looks that leads to it, its cells' type, what it holds at first. -/
structure Blk where
  shape : Nat → Value
  ty : TypeId
  first : Array Value
/-- What an operation leaves: a value that is known, or a block of its own. -/
abbrev Told := Value ⊕ Blk
/-- A store of the region into a block that it made: its number, that of the block's maker, what the block holds behind it. -/
abbrev Fill := Nat × Nat × Array Value
def now (fills : List Fill) (j : Nat) (c : Blk) (listed : Array Bool) : Array Value :=
  match fills.find? (fun f => f.2.1 == j) with
  | some f => if listed.getD f.1 false = true then f.2.2 else c.first
  | none => c.first
section
variable {P : Program} {ops : Array Oper} {Q : Exit → Act → World → Prop}
structure Inv (ops : Array Oper) (told : Nat → Told) (fills : List Fill) (a0 : Act) (w0 : World) (G : Nat → Nat) (listed : Array Bool) (a : Act) (w : World) : Prop where
  size : listed.size = ops.size
  len : a.tmps.size = a0.tmps.size
  defers : a.defers = a0.defers
  old : ∀ d, (∀ (i : Nat) (o : Oper), ops[i]? = some o → listed.getD i false = true → o.dst ≠ some d) → a.tmps[d]? = a0.tmps[d]?
  base : Below w0.heap.size w0 w
  val : ∀ (i : Nat) (o : Oper) d x, ops[i]? = some o → o.dst = some d → told i = .inl x → listed.getD i false = true → a.tmps[d]? = some x
  mem : ∀ (i : Nat) (o : Oper) d c, ops[i]? = some o → o.dst = some d → told i = .inr c → listed.getD i false = true →
    a.tmps[d]? = some (c.shape (G i)) ∧ w0.heap.size ≤ G i ∧ w.heap[G i]? = some (.cells (now fills i c listed) c.ty)
  filled : ∀ f ∈ fills, listed.getD f.1 false = true → listed.getD f.2.1 false = true
  apart : ∀ (i j : Nat) (o p : Oper) d e c c', ops[i]? = some o → o.dst = some d → told i = .inr c → listed.getD i false = true →
    ops[j]? = some p → p.dst = some e → told j = .inr c' → listed.getD j false = true → i ≠ j → G i ≠ G j
/-- What an operation does in a world, panics aside. -/
def Yields (P : Program) (o : Oper) (A : Act) (w : World) (R : Value → World → Prop) : Prop :=
  match (execOp A.eval o).run P w with
  | .ok (.value v) w' => R v w'
  | .ok .skip w' => R undef w'
  | .ok (.enter f args) w' => Calls P f args w' fun e w'' => ∃ v, e = .returned v ∧ R v w''
  | _ => False
theorem Yields.wp {o : Oper} {A : Act} {w : World} {R : Value → World → Prop} {K : Act → World → Prop} (h : Yields P o A w R) (hk : ∀ v w', R v w' → K (A.put o.dst v) w') : o.wp P A w K Q := by
  unfold Yields at h
  unfold Oper.wp
  generalize (execOp A.eval o).run P w = r at *
  cases r with
  | ok n w' =>
    cases n <;> simp only [Oper.upon] at h ⊢
    case value v => exact hk _ _ h
    case skip => exact hk _ _ h
    case enter f args =>
      exact h.mono fun e w'' ⟨v, he, hr⟩ => by subst he; exact hk _ _ hr
  | halt x w' => exact h.elim
/-- What is asked of an operation that fills no block. -/
def Good (told : Nat → Told) (k : Nat) (w : World) (v : Value) (w' : World) : Prop :=
  match told k with
  | .inl x => v = x ∧ Below w.heap.size w w'
  | .inr c => ∃ g, v = c.shape g ∧ w.heap.size ≤ g ∧ Below w.heap.size w w' ∧ w'.heap[g]? = some (.cells c.first c.ty)
/-- .. of one that does. -/
def Filled (g : Nat) (cs : Array Value) (ty : TypeId) (w w' : World) : Prop :=
  w'.os = w.os ∧ w'.tape = w.tape ∧ w'.output = w.output ∧ w'.heap.size = w.heap.size ∧ (∀ b, b ≠ g → w'.heap[b]? = w.heap[b]?) ∧ w'.heap[g]? = some (.cells cs ty)
def OpOK (P : Program) (ops : Array Oper) (told : Nat → Told) (fills : List Fill) (a0 : Act) (w0 : World) (k : Nat) (o : Oper) : Prop :=
  ∀ (G : Nat → Nat) (listed : Array Bool) (A : Act) (w : World), Inv ops told fills a0 w0 G listed A w → (∀ e ∈ o.after, Region.binds .any e = true → listed.getD e.on false = true) →
    match fills.find? (fun f => f.1 == k) with
    | some f => Region.wanted o (yielded ops A.tmps) = true ∧ o.dst = none ∧ ∃ c p d, told f.2.1 = .inr c ∧ ops[f.2.1]? = some p ∧ p.dst = some d ∧ listed.getD f.2.1 false = true ∧ Yields P o A w fun _ w' => Filled (G f.2.1) f.2.2 c.ty w w'
    | none => (Region.wanted o (yielded ops A.tmps) = true ∧ Yields P o A w (Good told k w)) ∨ (Region.wanted o (yielded ops A.tmps) = false ∧ told k = .inl undef)
theorem put_same {a : Act} {d : Tmp} {v : Value} (h : d < a.tmps.size) : (a.put (some d) v).tmps[d]? = some v := by
  simp [Act.put, h]
theorem put_other {a : Act} {x : Option Tmp} {d : Tmp} {v : Value} (h : x ≠ some d) : (a.put x v).tmps[d]? = a.tmps[d]? := by
  cases x with
  | none => rfl
  | some y => simp only [Act.put]; rw [Array.getElem?_setIfInBounds_ne]; intro e; exact h (by rw [e])
theorem put_size {a : Act} {x : Option Tmp} {v : Value} : (a.put x v).tmps.size = a.tmps.size := by cases x <;> simp [Act.put]
theorem put_defers {a : Act} {x : Option Tmp} {v : Value} : (a.put x v).defers = a.defers := by cases x <;> rfl
theorem set_true {listed : Array Bool} {i j : Nat} (h : (listed.setIfInBounds i true).getD j false = true) : j = i ∨ listed.getD j false = true := by
  by_cases e : i = j
  · exact .inl e.symm
  · rw [getD_set_ne false e] at h; exact .inr h
theorem now_other {fills : List Fill} {k : Nat} (hk : ∀ f ∈ fills, f.1 ≠ k) (j : Nat) (c : Blk) (listed : Array Bool) : now fills j c (listed.setIfInBounds k true) = now fills j c listed := by
  unfold now
  split
  · rename_i f hf
    rw [getD_set_ne false (fun e => hk f (List.mem_of_find?_eq_some hf) e.symm)]
  · rfl
variable {told : Nat → Told} {fills : List Fill} {a0 : Act} {w0 : World}
theorem set_self {listed : Array Bool} {k : Nat} (h : k < listed.size) : (listed.setIfInBounds k true).getD k false = true := by
  simp [h]
theorem un_false {listed : Array Bool} {k : Nat} (h : listed.getD k true = false) : ¬ listed.getD k false = true := by
  intro h1
  rcases Nat.lt_or_ge k listed.size with hl | hl
  · simp [hl] at h h1; rw [h] at h1; cases h1
  · simp [Array.getElem?_eq_none hl] at h1
theorem size_of_get {w : World} {g : Nat} {o : Obj} (h : w.heap[g]? = some o) : g < w.heap.size := by
  rcases Nat.lt_or_ge g w.heap.size with hl | hl
  · exact hl
  · rw [Array.getElem?_eq_none hl] at h; cases h
theorem old_step {G : Nat → Nat} {listed : Array Bool} {A : Act} {w : World} {k : Nat} {o : Oper} {v : Value} (ho : ops[k]? = some o) (hI : Inv ops told fills a0 w0 G listed A w) :
    ∀ d, (∀ (i : Nat) (o : Oper), ops[i]? = some o → (listed.setIfInBounds k true).getD i false = true → o.dst ≠ some d) → (A.put o.dst v).tmps[d]? = a0.tmps[d]? := by
  intro d hdd
  have hkn : k < listed.size := by
    rw [hI.size]
    rcases Nat.lt_or_ge k ops.size with hl | hl
    · exact hl
    · rw [Array.getElem?_eq_none hl] at ho; cases ho
  rw [put_other (hdd k o ho (set_self hkn))]
  refine hI.old d fun i o' ho' hl => hdd i o' ho' ?_
  exact getD_set_true hl
theorem step_plain {G : Nat → Nat} {listed : Array Bool} {A : Act} {w : World} {k : Nat} {o : Oper} (ho : ops[k]? = some o)
    (hd : ∀ (i j : Nat) (o p : Oper) d, ops[i]? = some o → ops[j]? = some p → o.dst = some d → p.dst = some d → i = j) (hs : ∀ (i : Nat) (o : Oper) d, ops[i]? = some o → o.dst = some d → d < a0.tmps.size)
    (hk : ∀ f ∈ fills, f.1 ≠ k) (hI : Inv ops told fills a0 w0 G listed A w) (hun : ¬ listed.getD k false = true) (hin : k < listed.size) (v : Value) (w' : World) (hg : Good told k w v w') :
    ∃ G', Inv ops told fills a0 w0 G' (listed.setIfInBounds k true) (A.put o.dst v) w' := by
  unfold Good at hg
  have hsz : (listed.setIfInBounds k true).size = ops.size := by simpa using hI.size
  have hfil : ∀ f ∈ fills, (listed.setIfInBounds k true).getD f.1 false = true → (listed.setIfInBounds k true).getD f.2.1 false = true := by
    intro f hf hl
    have hcase := set_true hl
    clear hl
    rcases hcase with e | hl
    · exact absurd e (hk f hf)
    · exact getD_set_true (hI.filled f hf hl)
  cases ht : told k with
  | inl x =>
    simp only [ht] at hg
    obtain ⟨rfl, hb⟩ := hg
    refine ⟨G, hsz, put_size.trans hI.len, put_defers.trans hI.defers, old_step ho hI, hI.base.trans (hb.mono hI.base.size), ?_, ?_, hfil, ?_⟩
    · intro i p d x hp hpd hx hl
      have hcase := set_true hl
      clear hl
      rcases hcase with rfl | hl
      · rw [ho] at hp; obtain rfl := Option.some.inj hp
        rw [ht] at hx; obtain rfl := Sum.inl.inj hx
        rw [hpd]; exact put_same (by rw [hI.len]; exact hs i o d ho hpd)
      · rw [put_other (fun e => by rcases hd i k p o d hp ho hpd e with rfl; exact hun hl)]
        exact hI.val i p d x hp hpd hx hl
    · intro i p d c hp hpd hc hl
      have hcase := set_true hl
      clear hl
      rcases hcase with rfl | hl
      · rw [ht] at hc; cases hc
      · obtain ⟨m1, m2, m3⟩ := hI.mem i p d c hp hpd hc hl
        refine ⟨?_, m2, ?_⟩
        · rw [put_other (fun e => by rcases hd i k p o d hp ho hpd e with rfl; exact hun hl)]; exact m1
        · rw [now_other hk, hb.block _ (size_of_get m3)]; exact m3
    · intro i j p q d e c c' hp hpd hc hl hq hqd hc' hl' hne
      have hcase := set_true hl
      clear hl
      rcases hcase with rfl | hl
      · rw [ht] at hc; cases hc
      · have hcase := set_true hl'
        clear hl'
        rcases hcase with rfl | hl'
        · rw [ht] at hc'; cases hc'
        · exact hI.apart i j p q d e c c' hp hpd hc hl hq hqd hc' hl' hne
  | inr c0 =>
    simp only [ht] at hg
    obtain ⟨g, rfl, hg0, hb, hgc⟩ := hg
    have hnow : now fills k c0 (listed.setIfInBounds k true) = c0.first := by
      rw [now_other hk]
      unfold now
      split
      · rename_i f hf
        have hm := List.mem_of_find?_eq_some hf
        have h2 := List.find?_some hf
        simp only [beq_iff_eq] at h2
        rw [if_neg]
        intro hl
        have := hI.filled f hm hl
        rw [h2] at this
        exact hun this
      · rfl
    refine ⟨fun i => if i = k then g else G i, hsz, put_size.trans hI.len, put_defers.trans hI.defers, old_step ho hI, hI.base.trans (hb.mono hI.base.size), ?_, ?_, hfil, ?_⟩
    · intro i p d x hp hpd hx hl
      have hcase := set_true hl
      clear hl
      rcases hcase with rfl | hl
      · rw [ht] at hx; cases hx
      · rw [put_other (fun e => by rcases hd i k p o d hp ho hpd e with rfl; exact hun hl)]
        exact hI.val i p d x hp hpd hx hl
    · intro i p d c hp hpd hc hl
      have hcase := set_true hl
      clear hl
      rcases hcase with rfl | hl
      · rw [ho] at hp; obtain rfl := Option.some.inj hp
        rw [ht] at hc; obtain rfl := Sum.inr.inj hc
        simp only [if_true]
        refine ⟨by rw [hpd]; exact put_same (by rw [hI.len]; exact hs i o d ho hpd), Nat.le_trans hI.base.size hg0, ?_⟩
        rw [hnow]; exact hgc
      · have hik : i ≠ k := fun e => by subst e; exact hun hl
        obtain ⟨m1, m2, m3⟩ := hI.mem i p d c hp hpd hc hl
        simp only [if_neg hik]
        refine ⟨?_, m2, ?_⟩
        · rw [put_other (fun e => by rcases hd i k p o d hp ho hpd e with rfl; exact hun hl)]; exact m1
        · rw [now_other hk, hb.block _ (size_of_get m3)]; exact m3
    · intro i j p q d e c c' hp hpd hc hl hq hqd hc' hl' hne
      have hcase := set_true hl
      clear hl
      rcases hcase with rfl | hl
      · have hcase := set_true hl'
        clear hl'
        rcases hcase with rfl | hl'
        · exact absurd rfl hne
        · have hjk : j ≠ i := Ne.symm hne
          simp only [if_true, if_neg hjk]
          have := size_of_get (hI.mem j q e c' hq hqd hc' hl').2.2
          omega
      · have hik : i ≠ k := fun e => by subst e; exact hun hl
        have hcase := set_true hl'
        clear hl'
        rcases hcase with rfl | hl'
        · simp only [if_true, if_neg hik]
          have := size_of_get (hI.mem i p d c hp hpd hc hl).2.2
          omega
        · have hjk : j ≠ k := fun e => by subst e; exact hun hl'
          simp only [if_neg hik, if_neg hjk]
          exact hI.apart i j p q d e c c' hp hpd hc hl hq hqd hc' hl' hne
theorem step_fill {G : Nat → Nat} {listed : Array Bool} {A : Act} {w : World} {k : Nat} {o : Oper} (ho : ops[k]? = some o) (hdst : o.dst = none)
    (u1 : ∀ f ∈ fills, ∀ f' ∈ fills, f.1 = f'.1 → f = f') (u2 : ∀ f ∈ fills, ∀ f' ∈ fills, f.2.1 = f'.2.1 → f = f')
    (f : Fill) (hf : f ∈ fills) (hfk : f.1 = k) (c : Blk) (p : Oper) (d : Tmp) (hc : told f.2.1 = .inr c) (hp : ops[f.2.1]? = some p) (hpd : p.dst = some d) (hl : listed.getD f.2.1 false = true)
    (hI : Inv ops told fills a0 w0 G listed A w) (hin : k < listed.size) (w' : World) (hg : Filled (G f.2.1) f.2.2 c.ty w w') :
    ∃ G', Inv ops told fills a0 w0 G' (listed.setIfInBounds k true) A w' := by
  obtain ⟨g1, g2, g3, g4, g5, g6⟩ := hg
  obtain ⟨m1, m2, m3⟩ := hI.mem _ p d c hp hpd hc hl
  have hold : ∀ d, (∀ (i : Nat) (o : Oper), ops[i]? = some o → (listed.setIfInBounds k true).getD i false = true → o.dst ≠ some d) → A.tmps[d]? = a0.tmps[d]? :=
    fun d hdd => hI.old d fun i o' ho' hl => hdd i o' ho' (getD_set_true hl)
  refine ⟨G, by simpa using hI.size, hI.len, hI.defers, hold, ?_, ?_, ?_, ?_, ?_⟩
  · exact ⟨g1.trans hI.base.os, g2.trans hI.base.tape, g3.trans hI.base.output, by rw [g4]; exact hI.base.size, fun b hb => (g5 b (by omega)).trans (hI.base.block b hb)⟩
  · intro i q e x hq hqe hx hli
    have hcase := set_true hli
    clear hli
    rcases hcase with rfl | hli
    · rw [ho] at hq; obtain rfl := Option.some.inj hq
      rw [hdst] at hqe; cases hqe
    · exact hI.val i q e x hq hqe hx hli
  · intro i q e c' hq hqe hc' hli
    have hcase := set_true hli
    clear hli
    rcases hcase with rfl | hli
    · rw [ho] at hq; obtain rfl := Option.some.inj hq
      rw [hdst] at hqe; cases hqe
    · obtain ⟨n1, n2, n3⟩ := hI.mem i q e c' hq hqe hc' hli
      refine ⟨n1, n2, ?_⟩
      by_cases hij : i = f.2.1
      · subst hij
        rw [hc] at hc'; obtain rfl := Sum.inr.inj hc'
        rw [g6]
        congr 2
        unfold now
        split
        · rename_i f' hf'
          have h2 := List.find?_some hf'
          simp only [beq_iff_eq] at h2
          have := u2 f hf f' (List.mem_of_find?_eq_some hf') h2.symm
          subst this
          rw [if_pos (by rw [hfk]; exact set_self hin)]
        · rename_i hn
          exact absurd (List.find?_eq_none.1 hn f hf) (by simp)
      · rw [g5 _ (hI.apart i f.2.1 q p e d c' c hq hqe hc' hli hp hpd hc hl hij), n3]
        congr 2
        unfold now
        split
        · rename_i f' hf'
          have h2 := List.find?_some hf'
          simp only [beq_iff_eq] at h2
          have hne : k ≠ f'.1 := fun e => hij (by
            have := u1 f hf f' (List.mem_of_find?_eq_some hf') (hfk.trans e)
            subst this; exact h2.symm)
          rw [getD_set_ne false hne]
        · rfl
  · intro f' hf' hl'
    have hcase := set_true hl'
    clear hl'
    rcases hcase with e | hl'
    · have := u1 f hf f' hf' (hfk.trans e.symm)
      subst this
      exact getD_set_true hl
    · exact getD_set_true (hI.filled f' hf' hl')
  · intro i j q r d e c c' hq hqd hc hli hr hre hc' hlj hne
    have hcase := set_true hli
    clear hli
    rcases hcase with rfl | hli
    · rw [ho] at hq; obtain rfl := Option.some.inj hq
      rw [hdst] at hqd; cases hqd
    · have hcase := set_true hlj
      clear hlj
      rcases hcase with rfl | hlj
      · rw [ho] at hr; obtain rfl := Option.some.inj hr
        rw [hdst] at hre; cases hre
      · exact hI.apart i j q r d e c c' hq hqd hc hli hr hre hc' hlj hne
def left (n : Nat) (listed : Array Bool) : List Nat := (List.range n).filter fun i => !listed.getD i true
theorem left_lt {n k : Nat} {listed : Array Bool} (hk : k < n) (hn : listed.size = n) (hun : listed.getD k true = false) : (left n (listed.setIfInBounds k true)).length < (left n listed).length := by
  have e : left n (listed.setIfInBounds k true) = (left n listed).filter fun i => !(listed.setIfInBounds k true).getD i true := by
    unfold left
    rw [List.filter_filter]
    refine List.filter_congr fun i _ => ?_
    by_cases hik : k = i
    · subst hik
      have : (listed.setIfInBounds k true).getD k true = true := by simp [hn, hk]
      simp [this]
    · rw [getD_set_ne true hik]; simp
  rw [e, List.length_filter_lt_length_iff_exists]
  refine ⟨k, ?_, ?_⟩
  · unfold left; rw [List.mem_filter]; exact ⟨List.mem_range.2 hk, by rw [hun]; rfl⟩
  · have : (listed.setIfInBounds k true).getD k true = true := by simp [hn, hk]
    rw [this]; simp
theorem lt_of_get {k : Nat} {o : Oper} (h : ops[k]? = some o) : k < ops.size := by
  rcases Nat.lt_or_ge k ops.size with hl | hl
  · exact hl
  · rw [Array.getElem?_eq_none hl] at h; cases h
theorem all_listed {listed : Array Bool} (hn : listed.size = ops.size) (back : ∀ (k : Nat) (o : Oper), ops[k]? = some o → ∀ e ∈ o.after, Region.binds .any e = true → e.on < k) (hr : Region.ready .any ops listed = []) : listed = Array.replicate ops.size true := by
  have all : ∀ k, k < ops.size → listed.getD k true = true := by
    intro k
    induction k using Nat.strongRecOn with
    | ind k ih =>
      intro hk
      cases hx : listed.getD k true with
      | true => rfl
      | false =>
        exfalso
        have : k ∈ Region.ready .any ops listed := by
          rw [mem_ready]
          refine ⟨hx, ops[k], Array.getElem?_eq_getElem hk, fun e he hbi => ?_⟩
          have hlt := back k _ (Array.getElem?_eq_getElem hk) e he hbi
          have := ih e.on hlt (by omega)
          have hs : e.on < listed.size := by omega
          simp [hs] at this ⊢
          exact this
        rw [hr] at this
        cases this
  apply Array.ext
  · simpa using hn
  · intro i h1 h2
    have := all i (by omega)
    simp [h1] at this
    simp [this]
theorem wpAny_posts {told : Nat → Told} {fills : List Fill} {a : Act} {w0 : World}
    (hd : ∀ (i j : Nat) (o p : Oper) d, ops[i]? = some o → ops[j]? = some p → o.dst = some d → p.dst = some d → i = j) (hs : ∀ (i : Nat) (o : Oper) d, ops[i]? = some o → o.dst = some d → d < a.tmps.size)
    (u1 : ∀ f ∈ fills, ∀ f' ∈ fills, f.1 = f'.1 → f = f') (u2 : ∀ f ∈ fills, ∀ f' ∈ fills, f.2.1 = f'.2.1 → f = f')
    (back : ∀ (k : Nat) (o : Oper), ops[k]? = some o → ∀ e ∈ o.after, Region.binds .any e = true → e.on < k)
    (hok : ∀ (k : Nat) (o : Oper), ops[k]? = some o → OpOK P ops told fills a w0 k o)
    (hend : ∀ G a' w', Inv ops told fills a w0 G (Array.replicate ops.size true) a' w' → Q .normal a' w') :
    ∀ (fuel : Nat) (G : Nat → Nat) (listed : Array Bool) (A : Act) (w : World), Inv ops told fills a w0 G listed A w → (left ops.size listed).length ≤ fuel → wpAny P .any ops Q fuel listed A w
  | 0, G, listed, A, w, hI, hf => by
    have hnil : left ops.size listed = [] := List.length_eq_zero_iff.1 (Nat.le_zero.1 hf)
    have hr : Region.ready .any ops listed = [] := by
      rw [List.eq_nil_iff_forall_not_mem]
      intro k hk
      obtain ⟨h0, o, ho, _⟩ := mem_ready.1 hk
      have : k ∈ left ops.size listed := by
        unfold left; rw [List.mem_filter]; exact ⟨List.mem_range.2 (lt_of_get ho), by rw [h0]; rfl⟩
      rw [hnil] at this; cases this
    exact ⟨hr, hend G A w (by have := all_listed hI.size back hr; rw [← this]; exact hI)⟩
  | fuel + 1, G, listed, A, w, hI, hf => by
    refine ⟨fun hr => hend G A w (by have := all_listed hI.size back hr; rw [← this]; exact hI), fun k hk => ?_⟩
    obtain ⟨h0, o, ho, hall⟩ := mem_ready.1 hk
    have hkn : k < ops.size := lt_of_get ho
    have hin : k < listed.size := by rw [hI.size]; exact hkn
    have hun := un_false h0
    have hl := left_lt hkn hI.size h0
    have hop := hok k o ho G listed A w hI hall
    have next : ∀ (A' : Act) (w' : World), (∃ G', Inv ops told fills a w0 G' (listed.setIfInBounds k true) A' w') → wpAny P .any ops Q fuel (listed.setIfInBounds k true) A' w' :=
      fun A' w' ⟨G', h'⟩ => wpAny_posts hd hs u1 u2 back hok hend fuel G' _ A' w' h' (by omega)
    unfold wpOp
    simp only [ho]
    cases hfi : fills.find? (fun f => f.1 == k) with
    | some f =>
      rw [hfi] at hop
      obtain ⟨hw, hdst, c, p, d, hc, hp, hpd, hlf, hy⟩ := hop
      have hfm := List.mem_of_find?_eq_some hfi
      have hfk : f.1 = k := by have := List.find?_some hfi; simpa using this
      rw [if_pos hw]
      refine .inl (hy.wp fun v w' hg => next _ _ ?_)
      rw [hdst]
      exact step_fill ho hdst u1 u2 f hfm hfk c p d hc hp hpd hlf hI hin w' hg
    | none =>
      rw [hfi] at hop
      have hkf : ∀ f ∈ fills, f.1 ≠ k := fun f hf e => by
        have := List.find?_eq_none.1 hfi f hf
        simp [e] at this
      rcases hop with ⟨hw, hy⟩ | ⟨hw, hx⟩
      · rw [if_pos hw]
        exact .inl (hy.wp fun v w' hg => next _ _ (step_plain ho hd hs hkf hI hun hin v w' hg))
      · rw [if_neg (by rw [hw]; exact Bool.false_ne_true)]
        exact next _ _ (step_plain ho hd hs hkf hI hun hin undef w (by unfold Good; rw [hx]; exact ⟨rfl, Below.refl _ _⟩))
/-- A region whose order is drawn: each operation shown alone. -/
theorem wp_region_posts {id : Nat} {a : Act} {w : World} (told : Nat → Told) (fills : List Fill) (hm : P.follows .mixedOrders = true)
    (hd : ∀ (i j : Nat) (o p : Oper) d, ops[i]? = some o → ops[j]? = some p → o.dst = some d → p.dst = some d → i = j) (hs : ∀ (i : Nat) (o : Oper) d, ops[i]? = some o → o.dst = some d → d < a.tmps.size)
    (u1 : ∀ f ∈ fills, ∀ f' ∈ fills, f.1 = f'.1 → f = f') (u2 : ∀ f ∈ fills, ∀ f' ∈ fills, f.2.1 = f'.2.1 → f = f')
    (back : ∀ (k : Nat) (o : Oper), ops[k]? = some o → ∀ e ∈ o.after, Region.binds .any e = true → e.on < k)
    (hok : ∀ (k : Nat) (o : Oper), ops[k]? = some o → OpOK P ops told fills a w.drew k o)
    (hend : ∀ G a' w', Inv ops told fills a w.drew G (Array.replicate ops.size true) a' w' → Q .normal a' w') : (Code.region id ops true).wp P Q a w := by
  refine wp_region_any hm (wpAny_posts hd hs u1 u2 back hok hend _ (fun _ => 0) _ _ _ ?_ ?_)
  · refine ⟨by simp, rfl, rfl, fun _ _ => rfl, Below.refl _ _, ?_, ?_, ?_, ?_⟩
    · intro i o d x ho _ _ hl
      simp [lt_of_get ho] at hl
    · intro i o d c ho _ _ hl
      simp [lt_of_get ho] at hl
    · intro f _ hl
      rcases Nat.lt_or_ge f.1 ops.size with h | h
      · simp [h] at hl
      · simp [h] at hl
    · intro i j o p d e c c' ho _ _ hl
      simp [lt_of_get ho] at hl
  · unfold left
    exact Nat.le_trans (List.length_filter_le _ _) (by simp)
/-! ### The closed facts of a region, as one Bool; the frame behind it -/
def dstAt (ops : Array Oper) (i : Nat) : Option Tmp := (ops[i]?).bind (·.dst)
def checkB (ops : Array Oper) (n : Nat) : Bool :=
  ((List.range ops.size).all fun i => (List.range ops.size).all fun j => i == j || (dstAt ops i).isNone || dstAt ops i != dstAt ops j) &&
  ((List.range ops.size).all fun i => match dstAt ops i with | some d => decide (d < n) | none => true) &&
  ((List.range ops.size).all fun i => match ops[i]? with | some o => o.after.all (fun e => !Region.binds .any e || decide (e.on < i)) | none => true)
theorem dstAt_of {i : Nat} {o : Oper} (h : ops[i]? = some o) : dstAt ops i = o.dst := by unfold dstAt; rw [h]; rfl
theorem checkB_spec {n : Nat} (h : checkB ops n = true) :
    (∀ (i j : Nat) (o p : Oper) d, ops[i]? = some o → ops[j]? = some p → o.dst = some d → p.dst = some d → i = j) ∧
    (∀ (i : Nat) (o : Oper) d, ops[i]? = some o → o.dst = some d → d < n) ∧
    (∀ (k : Nat) (o : Oper), ops[k]? = some o → ∀ e ∈ o.after, Region.binds .any e = true → e.on < k) := by
  unfold checkB at h
  simp only [Bool.and_eq_true, List.all_eq_true, List.mem_range] at h
  obtain ⟨⟨h1, h2⟩, h3⟩ := h
  refine ⟨?_, ?_, ?_⟩
  · intro i j o p d ho hp hd1 hd2
    have := h1 i (lt_of_get ho) j (lt_of_get hp)
    rw [dstAt_of ho, dstAt_of hp, hd1, hd2] at this
    simpa using this
  · intro i o d ho hd1
    have := h2 i (lt_of_get ho)
    rw [dstAt_of ho, hd1] at this
    simpa using this
  · intro k o ho e he hbi
    have := h3 k (lt_of_get ho)
    rw [ho] at this
    simp only [Array.all_eq_true_iff_forall_mem, Bool.or_eq_true, Bool.not_eq_true', decide_eq_true_eq] at this
    rcases this e he with h | h
    · rw [hbi] at h; cases h
    · exact h
def valOf (told : Nat → Told) (G : Nat → Nat) (i : Nat) : Value :=
  match told i with | .inl x => x | .inr c => c.shape (G i)
def finalTmps (ops : Array Oper) (told : Nat → Told) (G : Nat → Nat) : List Nat → Array Value → Array Value
  | [], ts => ts
  | i :: r, ts => finalTmps ops told G r (match dstAt ops i with | some d => ts.setIfInBounds d (valOf told G i) | none => ts)
theorem finalTmps_none (told : Nat → Told) (G : Nat → Nat) (d : Tmp) : ∀ (l : List Nat) (ts : Array Value), (∀ i ∈ l, dstAt ops i ≠ some d) → (finalTmps ops told G l ts)[d]? = ts[d]?
  | [], _, _ => rfl
  | i :: r, ts, h => by
    unfold finalTmps
    rw [finalTmps_none told G d r _ (fun j hj => h j (by simp [hj]))]
    have := h i (by simp)
    split
    · rename_i e he
      rw [Array.getElem?_setIfInBounds_ne]
      intro h'; subst h'; exact this he
    · rfl
theorem finalTmps_at (told : Nat → Told) (G : Nat → Nat) (d : Tmp) (k : Nat) (hk : dstAt ops k = some d) : ∀ (l : List Nat) (ts : Array Value), k ∈ l → d < ts.size → (∀ i ∈ l, dstAt ops i = some d → i = k) → (finalTmps ops told G l ts)[d]? = some (valOf told G k)
  | [], _, h, _, _ => by cases h
  | i :: r, ts, h, hs, hu => by
    unfold finalTmps
    by_cases hr : k ∈ r
    · refine finalTmps_at told G d k hk r _ hr ?_ (fun j hj => hu j (by simp [hj]))
      split <;> simp [hs]
    · have hik : i = k := by
        cases h with
        | head => rfl
        | tail _ h => exact absurd h hr
      subst hik
      rw [finalTmps_none told G d r _ (fun j hj e => by have := hu j (by simp [hj]) e; subst this; exact hr hj), hk]
      simp [hs]
theorem Inv.final {told : Nat → Told} {fills : List Fill} {a0 : Act} {w0 : World} {G : Nat → Nat} {A : Act} {w : World} (hB : checkB ops a0.tmps.size = true) (h : Inv ops told fills a0 w0 G (Array.replicate ops.size true) A w) :
    A.tmps = finalTmps ops told G (List.range ops.size) a0.tmps := by
  obtain ⟨hd, hs, _⟩ := checkB_spec hB
  apply Array.ext_getElem?
  intro d
  by_cases he : ∃ (i : Nat) (o : Oper), ops[i]? = some o ∧ o.dst = some d
  · obtain ⟨i, o, ho, hod⟩ := he
    have hin := lt_of_get ho
    have hl : (Array.replicate ops.size true).getD i false = true := by simp [hin]
    rw [finalTmps_at told G d i (by rw [dstAt_of ho]; exact hod) _ _ (List.mem_range.2 hin) (hs i o d ho hod) (fun j hj e => by
      have hj' := List.mem_range.1 hj
      have hoj : ops[j]? = some ops[j] := Array.getElem?_eq_getElem hj'
      rw [dstAt_of hoj] at e
      exact hd j i _ o d hoj ho e hod)]
    unfold valOf
    cases ht : told i with
    | inl x => exact h.val i o d x ho hod ht hl
    | inr c => exact (h.mem i o d c ho hod ht hl).1
  · rw [finalTmps_none told G d _ _ (fun i hi e => by
      have hi' := List.mem_range.1 hi
      have hoi : ops[i]? = some ops[i] := Array.getElem?_eq_getElem hi'
      rw [dstAt_of hoi] at e
      exact he ⟨i, _, hoi, e⟩)]
    exact h.old d fun i o ho _ e => he ⟨i, o, ho, e⟩
/-! ### What an operation knows -/
variable {told : Nat → Told} {fills : List Fill} {a0 : Act} {w0 : World} {G : Nat → Nat} {listed : Array Bool} {A : Act} {w : World}
theorem Inv.ev (h : Inv ops told fills a0 w0 G listed A w) {i d : Nat} {x : Value} (hi : dstAt ops i = some d) (ht : told i = .inl x) (hl : listed.getD i false = true) : A.tmps[d]? = some x := by
  unfold dstAt at hi
  cases ho : ops[i]? with
  | none => rw [ho] at hi; cases hi
  | some o => rw [ho] at hi; exact h.val i o d x ho hi ht hl
theorem Inv.evm (h : Inv ops told fills a0 w0 G listed A w) {i d : Nat} {c : Blk} (hi : dstAt ops i = some d) (ht : told i = .inr c) (hl : listed.getD i false = true) :
    A.tmps[d]? = some (c.shape (G i)) ∧ w0.heap.size ≤ G i ∧ w.heap[G i]? = some (.cells (now fills i c listed) c.ty) := by
  unfold dstAt at hi
  cases ho : ops[i]? with
  | none => rw [ho] at hi; cases hi
  | some o => rw [ho] at hi; exact h.mem i o d c ho hi ht hl
theorem Inv.evo (h : Inv ops told fills a0 w0 G listed A w) {d : Nat} {x : Value} (hno : (ops.all fun o => o.dst != some d) = true) (h0 : a0.tmps[d]? = some x) : A.tmps[d]? = some x := by
  rw [h.old d fun i o ho _ e => ?_]
  · exact h0
  · have := Array.all_eq_true_iff_forall_mem.1 hno o (Array.mem_of_getElem? ho)
    rw [e] at this; simp at this
theorem wanted_none {o : Oper} (h : o.guard = none) : Region.wanted o (yielded ops A.tmps) = true := by unfold Region.wanted; rw [h]
theorem wanted_some {o : Oper} {j d : Nat} {b c : Bool} (h : o.guard = some (j, b)) (hj : dstAt ops j = some d) (hA : A.tmps[d]? = some (.bool c)) : Region.wanted o (yielded ops A.tmps) = (c == b) := by
  unfold Region.wanted
  rw [h]
  unfold dstAt at hj
  simp only [yielded, hj, Option.bind_some, hA]
  cases b <;> cases c <;> rfl
theorem opOK_plain {k : Nat} {o : Oper} (hk : fills.find? (fun f => f.1 == k) = none)
    (h : ∀ (G : Nat → Nat) (listed : Array Bool) (A : Act) (w : World), Inv ops told fills a0 w0 G listed A w → (∀ e ∈ o.after, Region.binds .any e = true → listed.getD e.on false = true) →
      (Region.wanted o (yielded ops A.tmps) = true ∧ Yields P o A w (Good told k w)) ∨ (Region.wanted o (yielded ops A.tmps) = false ∧ told k = .inl undef)) : OpOK P ops told fills a0 w0 k o := by
  intro G listed A w hI hall
  rw [hk]
  exact h G listed A w hI hall
theorem good_val {k : Nat} {x : Value} (ht : told k = .inl x) {w : World} {v : Value} {w' : World} (hv : v = x) (hb : Below w.heap.size w w') : Good told k w v w' := by
  unfold Good; rw [ht]; exact ⟨hv, hb⟩
theorem good_new {k : Nat} {c : Blk} (ht : told k = .inr c) {w : World} {v : Value} {w' : World} (hv : v = c.shape w.heap.size) (hw : w' = w.alloc (.cells c.first c.ty)) : Good told k w v w' := by
  subst hw
  unfold Good; rw [ht]
  refine ⟨w.heap.size, hv, Nat.le_refl _, below1 _ _, ?_⟩
  show (w.heap.push _)[w.heap.size]? = _
  simp
theorem opOK_fill {k : Nat} {o : Oper} {f : Fill} {c : Blk} {d : Tmp} (hk : fills.find? (fun f => f.1 == k) = some f) (hc : told f.2.1 = .inr c) (hp : dstAt ops f.2.1 = some d) (hdst : o.dst = none) (hg : o.guard = none)
    (he : (⟨f.2.1, .data⟩ : Edge) ∈ o.after)
    (h : ∀ (G : Nat → Nat) (listed : Array Bool) (A : Act) (w : World), Inv ops told fills a0 w0 G listed A w → (∀ e ∈ o.after, Region.binds .any e = true → listed.getD e.on false = true) →
      A.tmps[d]? = some (c.shape (G f.2.1)) → (w.heap[G f.2.1]? = some (.cells c.first c.ty) ∨ w.heap[G f.2.1]? = some (.cells f.2.2 c.ty)) → Yields P o A w fun _ w' => Filled (G f.2.1) f.2.2 c.ty w w')
    (u2 : ∀ f ∈ fills, ∀ f' ∈ fills, f.2.1 = f'.2.1 → f = f') : OpOK P ops told fills a0 w0 k o := by
  intro G listed A w hI hall
  rw [hk]
  unfold dstAt at hp
  cases ho : ops[f.2.1]? with
  | none => rw [ho] at hp; cases hp
  | some p =>
    rw [ho] at hp
    have hl := hall _ he rfl
    obtain ⟨m1, _, m3⟩ := hI.mem f.2.1 p d c ho hp hc hl
    refine ⟨wanted_none hg, hdst, c, p, d, hc, ho, hp, hl, h G listed A w hI hall m1 ?_⟩
    rw [m3]
    unfold now
    split
    · rename_i f' hf'
      have h2 := List.find?_some hf'
      simp only [beq_iff_eq] at h2
      have := u2 f (List.mem_of_find?_eq_some hk) f' (List.mem_of_find?_eq_some hf') h2.symm
      subst this
      split
      · exact .inr rfl
      · exact .inl rfl
    · exact .inl rfl
theorem filled4 {w : World} {g : Nat} {ty : TypeId} {x0 x1 x2 x3 : Value} (h : w.heap[g]? = some (.cells #[x0, x1, x2, x3] ty)) (v0 v1 v2 v3 : Value) :
    Filled g #[v0, v1, v2, v3] ty w ((((w.setCell ⟨g, 0, none⟩ v0).setCell ⟨g, 1, none⟩ v1).setCell ⟨g, 2, none⟩ v2).setCell ⟨g, 3, none⟩ v3) := by
  refine ⟨rfl, rfl, rfl, by simp [World.setCell], fun b hb => ?_, ?_⟩
  · rw [Below.heap_setCell _ _ _ _ hb, Below.heap_setCell _ _ _ _ hb, Below.heap_setCell _ _ _ _ hb, Below.heap_setCell _ _ _ _ hb]
  · exact Joins.block_setCell (Joins.block_setCell (Joins.block_setCell (Joins.block_setCell h v0) v1) v2) v3
theorem cells4 {w : World} {g : Nat} {ty : TypeId} {x0 x1 x2 x3 : Value} (h : w.heap[g]? = some (.cells #[x0, x1, x2, x3] ty)) :
    w.cell? ⟨g, 0, none⟩ = some x0 ∧ w.cell? ⟨g, 1, none⟩ = some x1 ∧ w.cell? ⟨g, 2, none⟩ = some x2 ∧ w.cell? ⟨g, 3, none⟩ = some x3 ∧
    w.frozen? ⟨g, 0, none⟩ = false ∧ w.frozen? ⟨g, 1, none⟩ = false ∧ w.frozen? ⟨g, 2, none⟩ = false ∧ w.frozen? ⟨g, 3, none⟩ = false :=
  ⟨Joins.cell_of_block h 0, Joins.cell_of_block h 1, Joins.cell_of_block h 2, Joins.cell_of_block h 3, Joins.unfrozen_of_block h 0, Joins.unfrozen_of_block h 1, Joins.unfrozen_of_block h 2, Joins.unfrozen_of_block h 3⟩
def AllOK (P : Program) (ops : Array Oper) (told : Nat → Told) (fills : List Fill) (a0 : Act) (w0 : World) : Nat → List Oper → Prop
  | _, [] => True
  | k, o :: r => OpOK P ops told fills a0 w0 k o ∧ AllOK P ops told fills a0 w0 (k + 1) r
theorem allOK_get : ∀ (l : List Oper) (k : Nat), AllOK P ops told fills a0 w0 k l → ∀ (i : Nat) (o : Oper), l[i]? = some o → OpOK P ops told fills a0 w0 (k + i) o
  | [], _, _, i, o, h => by cases i <;> cases h
  | p :: r, k, h, 0, o, ho => by
    obtain rfl : p = o := by simpa using ho
    exact h.1
  | p :: r, k, h, i + 1, o, ho => by
    have := allOK_get r (k + 1) h.2 i o (by simpa using ho)
    rw [show k + (i + 1) = k + 1 + i by omega]
    exact this
/-- The theorem, for a region written out. -/
theorem wp_region_told {id : Nat} {a : Act} {w : World} {l : List Oper} (told : Nat → Told) (fills : List Fill) (ks : List Nat) (hks : ks = List.range l.length) (hm : P.follows .mixedOrders = true) (hB : checkB l.toArray a.tmps.size = true)
    (u1 : ∀ f ∈ fills, ∀ f' ∈ fills, f.1 = f'.1 → f = f') (u2 : ∀ f ∈ fills, ∀ f' ∈ fills, f.2.1 = f'.2.1 → f = f')
    (hok : AllOK P l.toArray told fills a w.drew 0 l)
    (hend : ∀ G w', Inv l.toArray told fills a w.drew G (Array.replicate l.length true) { tmps := finalTmps l.toArray told G ks a.tmps, defers := a.defers } w' → Q .normal { tmps := finalTmps l.toArray told G ks a.tmps, defers := a.defers } w') :
    (Code.region id l.toArray true).wp P Q a w := by
  subst hks
  obtain ⟨hd, hs, back⟩ := checkB_spec hB
  refine wp_region_posts told fills hm hd hs u1 u2 back (fun k o ho => ?_) (fun G a' w' hI => ?_)
  · have := allOK_get l 0 hok k o (by simpa using ho)
    simpa using this
  · have ht := hI.final hB
    have hdf := hI.defers
    obtain ⟨ts, ds⟩ := a'
    simp only at ht hdf
    subst ht hdf
    simp only [List.size_toArray] at hI ⊢
    exact hend G w' hI
end
end Go.Proofs.YtfjepjkbflcjbaaGreatDoor.Reg
