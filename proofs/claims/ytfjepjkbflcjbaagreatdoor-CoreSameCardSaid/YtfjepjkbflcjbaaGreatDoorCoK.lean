/- Maps keyed by cores' pointers, nil among them. -/
import Derived.Test.YtfjepjkbflcjbaaGreatDoorCoQ
namespace Go.Proofs.YtfjepjkbflcjbaaGreatDoor
section
open Go Go.RowKit
attribute [local go_sem ↓] Go.wp_at_zero Go.wp_at_succ
attribute [local go_sem] eq4
/-- A core's pointer. -/
abbrev kPtr (q : Option Nat) : Value := .pointer (q.map fun a => ⟨a, 0, none⟩)
/-- nil, or a block of cells. -/
def IsK (w : World) (q : Option Nat) : Prop := ∀ a, q = some a → ∃ c t, w.heap[a]? = some (.cells c t (0, 0))
theorem keq_ptr (q q' : Option Nat) (w : World) (h : IsK w q) (h' : IsK w q') : (Op.equal 23 (kPtr q) (kPtr q')).run Tryz.prog w = .ok (q == q') w := by
  have u3 := Tryz.underlying23
  unfold Op.equal
  rw [show Op.maxDepth = 9999 + 1 from rfl, Op.equalIn]
  simp only [Sem.run_bind, run_underlying Tryz.underlying23, Result.andThen_ok]
  have z3 := Tryz.sizeOf47
  cases q with
  | none =>
    cases q' with
    | none =>
      show Sem.run _ _ _ = _
      simp only [kPtr, Option.map_none]
      go_simp
    | some b =>
      simp only [kPtr, Option.map_none, Option.map_some]
      go_simp
  | some a =>
    cases q' with
    | none =>
      simp only [kPtr, Option.map_none, Option.map_some]
      go_simp
    | some b =>
      simp only [kPtr, Option.map_some]
      go_simp
      by_cases hq : a = b
      · subst hq
        rw [run_sameAddr_same]; simp
      · obtain ⟨c, t, hc⟩ := h a rfl
        obtain ⟨c', t', hc'⟩ := h' b rfl
        rw [run_sameAddr_other w (fun e => hq (congrArg Addr.block e)) hc hc']
        simp [hq]
/-- What is found of a key: its place, and its number. -/
def klookD (D : List (Option Nat × Int)) (q : Option Nat) (i : Nat) : Option (Nat × Value) := match D with
  | [] => none
  | p :: D => if q = p.1 then some (i, .int .i64 p.2) else klookD D q (i + 1)
/-- A map's entries are these. -/
def kEntAre (es : List MapEntry) (D : List (Option Nat × Int)) : Prop := es.map (fun e => (e.key, e.val)) = D.map fun p => (kPtr p.1, Value.int .i64 p.2)
theorem kfind_ptr (q : Option Nat) (w : World) (hq0 : IsK w q) : ∀ (es : List MapEntry) (D : List (Option Nat × Int)) (i : Nat), (∀ p ∈ D, IsK w p.1) → kEntAre es D → (Instr.findAsking 23 (kPtr q) es i).run Tryz.prog w = .ok (klookD D q i) w
  | [], [], i, _, _ => by simp [Instr.findAsking, klookD]
  | [], p :: D, i, _, h => by simp [kEntAre] at h
  | e :: es, [], i, _, h => by simp [kEntAre] at h
  | e :: es, p :: D, i, hD, h => by
    simp only [kEntAre, List.map_cons, List.cons.injEq, Prod.mk.injEq] at h
    obtain ⟨⟨h1, h2⟩, h3⟩ := h
    have ih := kfind_ptr q w hq0 es D (i + 1) (fun p hp => hD p (List.mem_cons_of_mem _ hp)) h3
    rw [Instr.findAsking, klookD]
    simp only [Sem.run_bind, h1, keq_ptr q p.1 w hq0 (hD p (List.mem_cons_self ..)), Result.andThen_ok]
    by_cases hq : q = p.1
    · simp [hq, h2]
    · have hb : (q == p.1) = false := by simpa using hq
      simp only [hb, hq, if_false]
      exact ih
theorem kfindNow_ptr (q : Option Nat) : ∀ (es : List MapEntry) (D : List (Option Nat × Int)) (i : Nat), kEntAre es D → D ≠ [] → ∀ d, Tryz.prog.underlying 23 = some d → Instr.findNow d (kPtr q) es i = none
  | [], [], _, _, h, _, _ => absurd rfl h
  | [], p :: D, _, h, _, _, _ => by simp [kEntAre] at h
  | e :: es, [], _, h, _, _, _ => by simp [kEntAre] at h
  | e :: es, p :: D, i, h, _, d, hd => by
    simp only [kEntAre, List.map_cons, List.cons.injEq, Prod.mk.injEq] at h
    have hd' := Tryz.underlying23
    rw [hd] at hd'
    obtain rfl := Option.some.inj hd'
    rw [Instr.findNow, h.1.1]
    rfl
theorem kfindKey_ptr (q : Option Nat) (w : World) (es : List MapEntry) (D : List (Option Nat × Int)) (hq0 : IsK w q) (hD : ∀ p ∈ D, IsK w p.1) (h : kEntAre es D) : (Instr.findKey 23 (kPtr q) es).run Tryz.prog w = .ok (klookD D q 0) w := by
  unfold Instr.findKey
  simp only [Sem.run_bind, run_underlying Tryz.underlying23, Result.andThen_ok]
  cases D with
  | nil =>
    have he : es = [] := by simpa [kEntAre] using h
    subst he
    simp [Instr.findNow, klookD]
  | cons p D =>
    rw [kfindNow_ptr q es (p :: D) 0 h (by simp) _ Tryz.underlying23]
    exact kfind_ptr q w hq0 es (p :: D) 0 hD h
/-- Such a map lies in a block. -/
def kPtrMap (w : World) (b : Nat) (D : List (Option Nat × Int)) : Prop := ∃ es clock, w.heap[b]? = some (.map es clock) ∧ kEntAre es.toList D
/-- What a look-up answers. -/
def kgotD : List (Option Nat × Int) → Option Nat → Int × Bool
  | [], _ => (0, false)
  | p :: D, q => if q = p.1 then (p.2, true) else kgotD D q
/-- What a store leaves. -/
def kputD : List (Option Nat × Int) → Option Nat → Int → List (Option Nat × Int)
  | [], q, v => [(q, v)]
  | p :: D, q, v => if q = p.1 then (q, v) :: D else p :: kputD D q v
theorem kgotD_put (D : List (Option Nat × Int)) (q q' : Option Nat) (v : Int) : kgotD (kputD D q v) q' = if q' = q then (v, true) else kgotD D q' := by
  induction D with
  | nil =>
    by_cases h : q' = q <;> simp [kputD, kgotD, h]
  | cons p D ih =>
    rw [kputD]
    by_cases h : q = p.1
    · rw [if_pos h, kgotD, kgotD]
      by_cases h2 : q' = q
      · rw [if_pos h2, if_pos h2]
      · rw [if_neg h2, if_neg h2, if_neg (by rw [← h]; exact h2)]
    · rw [if_neg h, kgotD, kgotD]
      by_cases h2 : q' = p.1
      · rw [if_pos h2, if_pos h2, if_neg (by rw [h2]; exact fun e => h e.symm)]
      · rw [if_neg h2, if_neg h2]; exact ih
theorem klook_got (D : List (Option Nat × Int)) (q : Option Nat) : ∀ i, (kgotD D q = (0, false) ∧ klookD D q i = none) ∨ ∃ j v, kgotD D q = (v, true) ∧ klookD D q i = some (j, .int .i64 v) := by
  induction D with
  | nil => exact fun i => .inl ⟨rfl, rfl⟩
  | cons p D ih =>
    intro i
    rw [kgotD, klookD]
    by_cases h : q = p.1
    · rw [if_pos h, if_pos h]; exact .inr ⟨i, p.2, rfl, rfl⟩
    · rw [if_neg h, if_neg h]; exact ih (i + 1)
theorem kcheckKey_ptr (q : Option Nat) (e : Bool) (w : World) : (Instr.checkKey e 10000 23 (kPtr q)).run Tryz.prog w = .ok () w := by
  rw [show (10000 : Nat) = 9999 + 1 from rfl]
  unfold Instr.checkKey
  simp only [Sem.run_bind, run_underlying Tryz.underlying23, Result.andThen]
  rfl
/-- A look-up in such a map. -/
theorem klookup_ptr {w : World} {b : Nat} {q : Option Nat} {D : List (Option Nat × Int)} (h : kPtrMap w b D) (hq : IsK w q) (hD : ∀ p ∈ D, IsK w p.1) :
    (Instr.lookup 79 (.map (some b)) (kPtr q) true).run Tryz.prog w = .ok (.tuple #[.int .i64 (kgotD D q).1, .bool (kgotD D q).2]) w := by
  obtain ⟨es, clock, hb, he⟩ := h
  have hz : (zeroValue 3).run Tryz.prog w = .ok (.int .i64 0) w := by kernel_rfl
  have hf := kfindKey_ptr q w es.toList D hq hD he
  unfold Instr.lookup
  simp only [Sem.run_bind, run_underlying Tryz.underlying79, Result.andThen_ok, Sem.run_pure, MapKept.run_getObj_map hb, kcheckKey_ptr, hf]
  rcases klook_got D q 0 with ⟨h1, h2⟩ | ⟨j, v, h1, h2⟩
  · rw [h1, h2]
    simp [hz]
  · rw [h1, h2]
    simp
theorem kput_none {D : List (Option Nat × Int)} {q : Option Nat} {i : Nat} {v : Int} (h : klookD D q i = none) : kputD D q v = D ++ [(q, v)] := by
  induction D generalizing i with
  | nil => rfl
  | cons p D ih =>
    rw [klookD] at h
    by_cases hq : q = p.1
    · rw [if_pos hq] at h; cases h
    · rw [if_neg hq] at h
      rw [kputD, if_neg hq, ih h]; rfl
/-- A stored key's entry, turned. -/
theorem kput_some {D : List (Option Nat × Int)} {q : Option Nat} {v : Int} : ∀ {i j : Nat} {x : Value}, klookD D q i = some (j, x) → ∃ k, j = i + k ∧ ∀ es : List MapEntry, kEntAre es D → (∃ e, es[k]? = some e ∧ e.key = kPtr q) ∧ kEntAre (es.modify k fun e => { e with key := kPtr q, val := .int .i64 v }) (kputD D q v) := by
  induction D with
  | nil => intro i j x h; simp [klookD] at h
  | cons p D ih =>
    intro i j x h
    rw [klookD] at h
    by_cases hq : q = p.1
    · rw [if_pos hq] at h
      injection h with h; injection h with h1 h2
      subst h1
      refine ⟨0, rfl, fun es he => ?_⟩
      cases es with
      | nil => simp [kEntAre] at he
      | cons e es =>
        simp only [kEntAre, List.map_cons, List.cons.injEq, Prod.mk.injEq] at he
        refine ⟨⟨e, rfl, by rw [he.1.1, hq]⟩, ?_⟩
        rw [kputD, if_pos hq]
        simp only [kEntAre, List.modify_zero_cons, List.map_cons, List.cons.injEq, true_and]
        exact he.2
    · rw [if_neg hq] at h
      obtain ⟨k, hk, hes⟩ := ih h
      refine ⟨k + 1, by omega, fun es he => ?_⟩
      cases es with
      | nil => simp [kEntAre] at he
      | cons e es =>
        simp only [kEntAre, List.map_cons, List.cons.injEq, Prod.mk.injEq] at he
        obtain ⟨⟨e', h1, h2⟩, h3⟩ := hes es he.2
        refine ⟨⟨e', by simpa using h1, h2⟩, ?_⟩
        rw [kputD, if_neg hq]
        simp only [kEntAre, List.modify_succ_cons, List.map_cons, List.cons.injEq, Prod.mk.injEq]
        exact ⟨he.1, h3⟩
/-- A store into such a map. -/
theorem kupdate_ptr {w : World} {b : Nat} {q : Option Nat} {D : List (Option Nat × Int)} (v : Int) (h : kPtrMap w b D) (hq : IsK w q) (hD : ∀ p ∈ D, IsK w p.1) :
    ∃ w', (Instr.mapUpdate 79 (.map (some b)) (kPtr q) (.int .i64 v)).run Tryz.prog w = .ok () w' ∧ kPtrMap w' b (kputD D q v) ∧ w.grownBy w' (some b) := by
  obtain ⟨es, clock, hb, he⟩ := h
  have hlt := Reg.size_of_get hb
  have hf := kfindKey_ptr q w es.toList D hq hD he
  have grown : ∀ o, w.grownBy { w with heap := w.heap.setIfInBounds b o } (some b) := fun o =>
    ⟨rfl, rfl, rfl, by simp, fun k hk hne => by
      show (w.heap.setIfInBounds b o)[k]? = w.heap[k]?
      rw [Array.getElem?_setIfInBounds_ne (fun e => hne (by rw [e]))]⟩
  have got : ∀ o, ({ w with heap := w.heap.setIfInBounds b o } : World).heap[b]? = some o := fun o => by
    show (w.heap.setIfInBounds b o)[b]? = some o
    simp [hlt]
  unfold Instr.mapUpdate
  simp only [Sem.run_bind, run_underlying Tryz.underlying79, Result.andThen_ok, MapKept.run_getObj_map hb, kcheckKey_ptr, hf]
  rcases klook_got D q 0 with ⟨_, h2⟩ | ⟨j, x, _, h2⟩
  · rw [h2]
    simp only [MapKept.run_setObj_map _ hb]
    refine ⟨_, rfl, ⟨_, _, got _, ?_⟩, grown _⟩
    rw [kput_none h2]
    simp only [kEntAre, Array.toList_push, List.map_append, List.map_cons, List.map_nil]
    rw [show es.toList.map (fun e => (e.key, e.val)) = _ from he]
  · rw [h2]
    obtain ⟨k, hk, hes⟩ := kput_some (v := v) h2
    obtain rfl : j = k := by omega
    obtain ⟨⟨e, he1, he2⟩, he3⟩ := hes es.toList he
    have hek : ((es[j]?).map (·.key)).getD (kPtr q) = kPtr q := by
      rw [← Array.getElem?_toList, he1]; simp [he2]
    have hst : (Instr.keyThatStays (kPtr q) (kPtr q)).run Tryz.prog w = .ok (kPtr q) w := by
      simp [Instr.keyThatStays, Instr.sameBits]
    simp only [Sem.run_bind, hek, hst, Result.andThen_ok, MapKept.run_setObj_map _ hb]
    refine ⟨_, rfl, ⟨_, _, got _, ?_⟩, grown _⟩
    rw [Array.toList_modify]
    exact he3
end
end Go.Proofs.YtfjepjkbflcjbaaGreatDoor
