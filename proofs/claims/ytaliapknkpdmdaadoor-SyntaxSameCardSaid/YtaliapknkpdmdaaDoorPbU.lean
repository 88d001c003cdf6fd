/- Contracts of trees: how many nodes, how many groups. Maps whose keys are pairs of nodes' pointers: what is found there. Contracts of trees: whether two nodes are alike. Whether two trees are the same, and how a stack of pairs finds it out, told plainly. Contracts of trees: whether two trees are the same. -/
import Derived.Test.YtaliapknkpdmdaaDoorPbH
import Derived.Test.YtaliapknkpdmdaaDoorPbE
import Derived.Carry
import Derived.Deep.DeepCutAuto
namespace Go.Proofs.YtaliapknkpdmdaaDoor
section
open Go Go.RowKit
attribute [local go_sem ↓] Go.wp_at_zero Go.wp_at_succ
attribute [local go_sem] eq4
theorem run_store_fncQ (P : Program) (w : World) (a : Addr) (f : Fn) (x y : Array Value) (m : Mode) : (store a (.func f x y) m).run P w = stored P w a (.func f x y) m := run_store P w a _ m rfl
attribute [local go_sem] run_store_fncQ
def isum (ps : List Int) : Int := ps.foldl (· + ·) 0
theorem isum_cons (x : Int) (ps : List Int) : isum (x :: ps) = x + isum ps := by
  have key : ∀ (l : List Int) (a : Int), l.foldl (· + ·) a = a + l.foldl (· + ·) 0 := by
    intro l
    induction l with
    | nil => intro a; simp
    | cons y l ih => intro a; rw [List.foldl_cons, List.foldl_cons, ih (a + y), ih (0 + y)]; omega
  unfold isum
  rw [List.foldl_cons, key]; omega
/-- What count makes of a node. -/
def cntN (o : Tr → Int) (u : Tr) (ps : List Int) : Int := o u + isum ps
theorem cnt_bound (o : Tr → Int) (ho : ∀ u, 0 ≤ o u ∧ o u ≤ 1) : ∀ (n : Nat) (u : Tr), trSize u ≤ n → 0 ≤ foldR (cntN o) u ∧ foldR (cntN o) u ≤ trSize u ∧ 0 ≤ isum ((prts u).map (foldR (cntN o))) ∧ isum ((prts u).map (foldR (cntN o))) ≤ trSizes (prts u) := by
  intro n
  induction n with
  | zero => intro u hu; have := trSize_pos u; omega
  | succ n ih =>
    intro u hu
    have hs := trSize_eq u
    have key : ∀ l : List Tr, trSizes l ≤ n → 0 ≤ isum (l.map (foldR (cntN o))) ∧ isum (l.map (foldR (cntN o))) ≤ trSizes l := by
      intro l
      induction l with
      | nil => intro _; simp [isum, trSizes]
      | cons t l ihl =>
        intro hl
        rw [trSizes] at hl ⊢
        rw [List.map_cons, isum_cons]
        have h1 := ih t (by omega)
        have h2 := ihl (by omega)
        omega
    have := key (prts u) (by omega)
    have h2 := ho u
    rw [foldR_eq]
    unfold cntN at *
    omega
end
section
open Go Go.RowKit
attribute [local go_sem ↓] Go.wp_at_zero Go.wp_at_succ
attribute [local go_sem] eq4
theorem eqIn_ptr (n q q' : Nat) (w : World) (h : IsC w q) (h' : IsC w q') : (Op.equalIn (n + 1) 23 (ndPtr q) (ndPtr q')).run Tryd.prog w = .ok (q == q') w := by
  have u3 := Tryd.underlying23
  rw [Op.equalIn]
  simp only [Sem.run_bind, run_underlying Tryd.underlying23, Result.andThen_ok]
  go_simp
  by_cases hq : q = q'
  · subst hq
    rw [run_sameAddr_same]; simp
  · obtain ⟨c, t, hc⟩ := h
    obtain ⟨c', t', hc'⟩ := h'
    rw [run_sameAddr_other w (fun e => hq (congrArg Addr.block e)) hc hc']
    simp [hq]
theorem eq_pair (a b c d : Nat) (w : World) (ha : IsC w a) (hb : IsC w b) (hc : IsC w c) (hd : IsC w d) : (Op.equal 61 (.agg #[ndPtr a, ndPtr b]) (.agg #[ndPtr c, ndPtr d])).run Tryd.prog w = .ok (a == c && b == d) w := by
  have e1 := eqIn_ptr 9998 a c w ha hc
  have e2 := eqIn_ptr 9998 b d w hb hd
  have u3 := Tryd.underlying23
  unfold Op.equal
  rw [show Op.maxDepth = 9999 + 1 from rfl, Op.equalIn]
  simp only [Sem.run_bind, run_underlying Tryd.underlying61, Result.andThen_ok]
  have a3 := Tryd.isAgg23
  have z3 := Tryd.sizeOf23
  have hst : Tryd.prog.stoodInHeld 61 = false := by kernel_rfl
  simp only [show (Sem.run Tryd.prog program w) = .ok Tryd.prog w from rfl, Result.andThen_ok, hst, Bool.false_eq_true, if_false, List.forIn_toArray, List.forIn_cons, List.forIn_nil]
  go_simp
  by_cases h1 : a = c <;> by_cases h2 : b = d <;> simp [h1, h2]
/-- A pair of nodes' pointers. -/
abbrev prV (p : Nat × Nat) : Value := .agg #[ndPtr p.1, ndPtr p.2]
/-- Both are blocks of cells. -/
def IsCC (w : World) (p : Nat × Nat) : Prop := IsC w p.1 ∧ IsC w p.2
def lookP (D : List (Nat × Nat)) (q : Nat × Nat) (i : Nat) : Option (Nat × Value) := match D with
  | [] => none
  | p :: D => if q = p then some (i, .agg #[]) else lookP D q (i + 1)
def EntP (es : List MapEntry) (D : List (Nat × Nat)) : Prop := es.map (fun e => (e.key, e.val)) = D.map fun p => (prV p, Value.agg #[])
theorem eq_prV (p q : Nat × Nat) (w : World) (hp : IsCC w p) (hq : IsCC w q) : (Op.equal 61 (prV p) (prV q)).run Tryd.prog w = .ok (decide (p = q)) w := by
  rw [eq_pair p.1 p.2 q.1 q.2 w hp.1 hp.2 hq.1 hq.2]
  congr 1
  obtain ⟨a, b⟩ := p
  obtain ⟨c, d⟩ := q
  by_cases h1 : a = c <;> by_cases h2 : b = d <;> simp [h1, h2]
theorem find_pr (q : Nat × Nat) (w : World) (hq0 : IsCC w q) : ∀ (es : List MapEntry) (D : List (Nat × Nat)) (i : Nat), (∀ p ∈ D, IsCC w p) → EntP es D → (Instr.findAsking 61 (prV q) es i).run Tryd.prog w = .ok (lookP D q i) w
  | [], [], i, _, _ => by simp [Instr.findAsking, lookP]
  | [], p :: D, i, _, h => by simp [EntP] at h
  | e :: es, [], i, _, h => by simp [EntP] at h
  | e :: es, p :: D, i, hD, h => by
    simp only [EntP, List.map_cons, List.cons.injEq, Prod.mk.injEq] at h
    obtain ⟨⟨h1, h2⟩, h3⟩ := h
    have ih := find_pr q w hq0 es D (i + 1) (fun p hp => hD p (List.mem_cons_of_mem _ hp)) h3
    rw [Instr.findAsking, lookP]
    simp only [Sem.run_bind, h1, eq_prV q p w hq0 (hD p (List.mem_cons_self ..)), Result.andThen_ok]
    by_cases hq : q = p
    · simp [hq, h2]
    · simp only [hq, if_false]
      exact ih
theorem findNow_pr (q : Nat × Nat) : ∀ (es : List MapEntry) (D : List (Nat × Nat)) (i : Nat), EntP es D → D ≠ [] → ∀ d, Tryd.prog.underlying 61 = some d → Instr.findNow d (prV q) es i = none
  | [], [], _, _, h, _, _ => absurd rfl h
  | [], p :: D, _, h, _, _, _ => by simp [EntP] at h
  | e :: es, [], _, h, _, _, _ => by simp [EntP] at h
  | e :: es, p :: D, i, h, _, d, hd => by
    simp only [EntP, List.map_cons, List.cons.injEq, Prod.mk.injEq] at h
    have hd' := Tryd.underlying61
    rw [hd] at hd'
    obtain rfl := Option.some.inj hd'
    rw [Instr.findNow, h.1.1]
    rfl
theorem findKey_pr (q : Nat × Nat) (w : World) (es : List MapEntry) (D : List (Nat × Nat)) (hq0 : IsCC w q) (hD : ∀ p ∈ D, IsCC w p) (h : EntP es D) : (Instr.findKey 61 (prV q) es).run Tryd.prog w = .ok (lookP D q 0) w := by
  unfold Instr.findKey
  simp only [Sem.run_bind, run_underlying Tryd.underlying61, Result.andThen_ok]
  cases D with
  | nil =>
    have he : es = [] := by simpa [EntP] using h
    subst he
    simp [Instr.findNow, lookP]
  | cons p D =>
    rw [findNow_pr q es (p :: D) 0 h (by simp) _ Tryd.underlying61]
    exact find_pr q w hq0 es (p :: D) 0 hD h
/-- Such a map lies in a block. -/
def PrMap (w : World) (b : Nat) (D : List (Nat × Nat)) : Prop := ∃ es clock, w.heap[b]? = some (.map es clock) ∧ EntP es.toList D
theorem look_mem (D : List (Nat × Nat)) (q : Nat × Nat) : ∀ i, (q ∉ D ∧ lookP D q i = none) ∨ (q ∈ D ∧ ∃ j, lookP D q i = some (j, .agg #[])) := by
  induction D with
  | nil => exact fun i => .inl ⟨by simp, rfl⟩
  | cons p D ih =>
    intro i
    rw [lookP]
    by_cases h : q = p
    · rw [if_pos h]; exact .inr ⟨by rw [h]; exact List.mem_cons_self .., i, rfl⟩
    · rw [if_neg h]
      rcases ih (i + 1) with ⟨h1, h2⟩ | ⟨h1, h2⟩
      · exact .inl ⟨fun hm => by rcases List.mem_cons.1 hm with e | e; exact h e; exact h1 e, h2⟩
      · exact .inr ⟨List.mem_cons_of_mem _ h1, h2⟩
theorem ck_ptr (n q : Nat) (e : Bool) (w : World) : (Instr.checkKey e (n + 1) 23 (ndPtr q)).run Tryd.prog w = .ok () w := by
  unfold Instr.checkKey
  simp only [Sem.run_bind, run_underlying Tryd.underlying23, Result.andThen]
  rfl
theorem checkKey_pr (q : Nat × Nat) (e : Bool) (w : World) : (Instr.checkKey e 10000 61 (prV q)).run Tryd.prog w = .ok () w := by
  rw [show (10000 : Nat) = 9999 + 1 from rfl]
  unfold Instr.checkKey
  have c1 := ck_ptr 9998 q.1 e w
  have c2 := ck_ptr 9998 q.2 e w
  have a3 := Tryd.isAgg23
  have z3 := Tryd.sizeOf23
  simp only [Sem.run_bind, run_underlying Tryd.underlying61, Result.andThen_ok, List.forIn_toArray, List.forIn_cons, List.forIn_nil]
  go_simp
/-- A look-up in such a map. -/
theorem lookup_pr {w : World} {b : Nat} {q : Nat × Nat} {D : List (Nat × Nat)} (h : PrMap w b D) (hq : IsCC w q) (hD : ∀ p ∈ D, IsCC w p) :
    (Instr.lookup 59 (.map (some b)) (prV q) true).run Tryd.prog w = .ok (.tuple #[.agg #[], .bool (decide (q ∈ D))]) w := by
  obtain ⟨es, clock, hb, he⟩ := h
  have hz : (zeroValue 63).run Tryd.prog w = .ok (.agg #[]) w := by kernel_rfl
  have hf := findKey_pr q w es.toList D hq hD he
  unfold Instr.lookup
  simp only [Sem.run_bind, run_underlying Tryd.underlying59, Result.andThen_ok, Sem.run_pure, MapKept.run_getObj_map hb, checkKey_pr, hf]
  rcases look_mem D q 0 with ⟨h1, h2⟩ | ⟨h1, j, h2⟩
  · rw [h2, decide_eq_false h1]
    simp [hz]
  · rw [h2, decide_eq_true h1]
    simp
theorem lookP_none {D : List (Nat × Nat)} {q : Nat × Nat} {i : Nat} (h : q ∉ D) : lookP D q i = none := by
  rcases look_mem D q i with ⟨_, h2⟩ | ⟨h1, _⟩
  · exact h2
  · exact absurd h1 h
/-- A pair not met is stored. -/
theorem update_pr {w : World} {b : Nat} {q : Nat × Nat} {D : List (Nat × Nat)} (h : PrMap w b D) (hq : IsCC w q) (hD : ∀ p ∈ D, IsCC w p) (hn : q ∉ D) :
    ∃ w', (Instr.mapUpdate 59 (.map (some b)) (prV q) (.agg #[])).run Tryd.prog w = .ok () w' ∧ PrMap w' b (D ++ [q]) ∧ w.grownBy w' (some b) := by
  obtain ⟨es, clock, hb, he⟩ := h
  have hlt := Reg.size_of_get hb
  have hf := findKey_pr q w es.toList D hq hD he
  have grown : ∀ o, w.grownBy { w with heap := w.heap.setIfInBounds b o } (some b) := fun o =>
    ⟨rfl, rfl, rfl, by simp, fun k hk hne => by
      show (w.heap.setIfInBounds b o)[k]? = w.heap[k]?
      rw [Array.getElem?_setIfInBounds_ne (fun e => hne (by rw [e]))]⟩
  have got : ∀ o, ({ w with heap := w.heap.setIfInBounds b o } : World).heap[b]? = some o := fun o => by
    show (w.heap.setIfInBounds b o)[b]? = some o
    simp [hlt]
  unfold Instr.mapUpdate
  simp only [Sem.run_bind, run_underlying Tryd.underlying59, Result.andThen_ok, MapKept.run_getObj_map hb, checkKey_pr, hf]
  rw [lookP_none hn]
  simp only [MapKept.run_setObj_map _ hb]
  refine ⟨_, rfl, ⟨_, _, got _, ?_⟩, grown _⟩
  simp only [EntP, Array.toList_push, List.map_append, List.map_cons, List.map_nil]
  rw [show es.toList.map (fun e => (e.key, e.val)) = _ from he]
end
section
open Go Go.RowKit
attribute [local go_sem ↓] Go.wp_at_zero Go.wp_at_succ
attribute [local go_sem] eq4
def eqW4 (s t : W4) : Bool := s.a == t.a && s.b == t.b && s.c == t.c && s.d == t.d
def alikeT : Tr → Tr → Bool
  | .mk k s lo hi z _ _ l, .mk k' s' lo' hi' z' _ _ l' => k == k' && (eqW4 s s' && (lo == lo' && (hi == hi' && (z == z' && decide (l.length = l'.length)))))
set_option maxRecDepth 100000 in
set_option maxHeartbeats 4000000 in
theorem salike_any (A A' : Nat → Prop) (t u : Tr) (p q : Nat) (w : World) (ht : NdAt w A t (ndPtr p)) (hu : NdAt w A' u (ndPtr q)) :
    Calls Tryd.prog 15 #[ndPtr p, ndPtr q] w fun e w' => e = .returned (.bool (alikeT t u)) ∧ Below w.heap.size w w' := by
  obtain ⟨k, s, lo, hi, z, a, b, l⟩ := t
  obtain ⟨k', s', lo', hi', z', a', b', l'⟩ := u
  obtain ⟨p1, np, nc, e, _, hp, _⟩ := ht.head
  injection e with e; injection e with e; injection e with e
  subst e
  obtain ⟨q1, np', nc', e, _, hq, _⟩ := hu.head
  injection e with e; injection e with e; injection e with e
  subst e
  have n0 := Joins.cell_of_block hp 0
  have n1 := Joins.cell_of_block hp 1
  have n2 := Joins.cell_of_block hp 2
  have n3 := Joins.cell_of_block hp 3
  have n4 := Joins.cell_of_block hp 4
  have n5 := Joins.cell_of_block hp 5
  have n6 := Joins.cell_of_block hp 6
  have n7 := Joins.cell_of_block hp 7
  have n8 := Joins.cell_of_block hp 8
  have m0 := Joins.cell_of_block hq 0
  have m1 := Joins.cell_of_block hq 1
  have m2 := Joins.cell_of_block hq 2
  have m3 := Joins.cell_of_block hq 3
  have m4 := Joins.cell_of_block hq 4
  have m5 := Joins.cell_of_block hq 5
  have m6 := Joins.cell_of_block hq 6
  have m7 := Joins.cell_of_block hq 7
  have m8 := Joins.cell_of_block hq 8
  simp only [List.getElem?_toArray, List.getElem?_cons_zero, List.getElem?_cons_succ] at n0 n1 n2 n3 n4 n5 n6 n7 n8 m0 m1 m2 m3 m4 m5 m6 m7 m8
  have HA : Hid (alikeT (.mk k s lo hi z a b l) (.mk k' s' lo' hi' z' a' b' l') = (k == k' && (eqW4 s s' && (lo == lo' && (hi == hi' && (z == z' && decide (l.length = l'.length))))))) := qhid rfl
  generalize alikeT (.mk k s lo hi z a b l) (.mk k' s' lo' hi' z' a' b' l') = res at *
  clear ht hu hp hq
  by_cases e0 : (k == k') = true
  · skip
    by_cases e1 : (s.a == s'.a && s.b == s'.b && s.c == s'.c && s.d == s'.d) = true
    · skip
      have e1m : eqW4 s s' = true := e1
      by_cases e2 : (lo == lo') = true
      · skip
        by_cases e3 : (hi == hi') = true
        · skip
          by_cases e4 : (z == z') = true
          · skip
            by_cases e5 : (((l.length : Int) == (l'.length : Int))) = true
            · skip
              have e5m : decide (l.length = l'.length) = true := by simpa [Int.natCast_inj] using e5
              have HF : Hid (res = true) := qhid (by rw [HA.out, e0, e1m, e2, e3, e4, e5m]; rfl)
              clear HA
              go_enter Tryd.func15, Tryd.ntmps15
              go_wp2_with fail
              go_quiet (fail)
              go_wp2_with fail
              exact bodyPost_ret (v := .bool true) (by simp [results, Tryd.results15, go_sem]) rfl ⟨by rw [HF.out], ⟨rfl, rfl, rfl, Nat.le_refl _, fun _ _ => rfl⟩⟩
            · replace e5 : (((l.length : Int) == (l'.length : Int))) = false := by simpa only [Bool.not_eq_true] using e5
              have e5m : decide (l.length = l'.length) = false := by simpa [Int.natCast_inj] using e5
              have HF : Hid (res = false) := qhid (by rw [HA.out, e0, e1m, e2, e3, e4, e5m]; rfl)
              clear HA
              go_enter Tryd.func15, Tryd.ntmps15
              go_wp2_with fail
              go_quiet (fail)
              go_wp2_with fail
              exact bodyPost_ret (v := .bool false) (by simp [results, Tryd.results15, go_sem]) rfl ⟨by rw [HF.out], ⟨rfl, rfl, rfl, Nat.le_refl _, fun _ _ => rfl⟩⟩
          · replace e4 : (z == z') = false := by simpa only [Bool.not_eq_true] using e4
            have HF : Hid (res = false) := qhid (by rw [HA.out, e0, e1m, e2, e3, e4]; rfl)
            clear HA
            go_enter Tryd.func15, Tryd.ntmps15
            go_wp2_with fail
            go_quiet (fail)
            go_wp2_with fail
            exact bodyPost_ret (v := .bool false) (by simp [results, Tryd.results15, go_sem]) rfl ⟨by rw [HF.out], ⟨rfl, rfl, rfl, Nat.le_refl _, fun _ _ => rfl⟩⟩
        · replace e3 : (hi == hi') = false := by simpa only [Bool.not_eq_true] using e3
          have HF : Hid (res = false) := qhid (by rw [HA.out, e0, e1m, e2, e3]; rfl)
          clear HA
          go_enter Tryd.func15, Tryd.ntmps15
          go_wp2_with fail
          go_quiet (fail)
          go_wp2_with fail
          exact bodyPost_ret (v := .bool false) (by simp [results, Tryd.results15, go_sem]) rfl ⟨by rw [HF.out], ⟨rfl, rfl, rfl, Nat.le_refl _, fun _ _ => rfl⟩⟩
      · replace e2 : (lo == lo') = false := by simpa only [Bool.not_eq_true] using e2
        have HF : Hid (res = false) := qhid (by rw [HA.out, e0, e1m, e2]; rfl)
        clear HA
        go_enter Tryd.func15, Tryd.ntmps15
        go_wp2_with fail
        go_quiet (fail)
        go_wp2_with fail
        exact bodyPost_ret (v := .bool false) (by simp [results, Tryd.results15, go_sem]) rfl ⟨by rw [HF.out], ⟨rfl, rfl, rfl, Nat.le_refl _, fun _ _ => rfl⟩⟩
    · replace e1 : (s.a == s'.a && s.b == s'.b && s.c == s'.c && s.d == s'.d) = false := by simpa only [Bool.not_eq_true] using e1
      have e1m : eqW4 s s' = false := e1
      have HF : Hid (res = false) := qhid (by rw [HA.out, e0, e1m]; rfl)
      clear HA
      go_enter Tryd.func15, Tryd.ntmps15
      go_wp2_with fail
      go_quiet (fail)
      go_wp2_with fail
      exact bodyPost_ret (v := .bool false) (by simp [results, Tryd.results15, go_sem]) rfl ⟨by rw [HF.out], ⟨rfl, rfl, rfl, Nat.le_refl _, fun _ _ => rfl⟩⟩
  · replace e0 : (k == k') = false := by simpa only [Bool.not_eq_true] using e0
    have HF : Hid (res = false) := qhid (by rw [HA.out, e0]; rfl)
    clear HA
    go_enter Tryd.func15, Tryd.ntmps15
    go_wp2_with fail
    go_quiet (fail)
    go_wp2_with fail
    exact bodyPost_ret (v := .bool false) (by simp [results, Tryd.results15, go_sem]) rfl ⟨by rw [HF.out], ⟨rfl, rfl, rfl, Nat.le_refl _, fun _ _ => rfl⟩⟩
end
section
open Go Go.RowKit
mutual
/-- Are two trees the same, but for spans? -/
def sameT : Tr → Tr → Bool
  | .mk k s lo hi z a b l, .mk k' s' lo' hi' z' a' b' l' => alikeT (.mk k s lo hi z a b l) (.mk k' s' lo' hi' z' a' b' l') && sameL l l'
def sameL : List Tr → List Tr → Bool
  | [], _ => true
  | _ :: _, [] => true
  | t :: l, u :: l' => sameT t u && sameL l l'
end
theorem sameT_eq (t u : Tr) : sameT t u = (alikeT t u && sameL (prts t) (prts u)) := by
  cases t; cases u; rw [sameT]; rfl
theorem sameL_iff : ∀ (l l' : List Tr), sameL l l' = true ↔ ∀ (i : Nat) (c c' : Tr), l[i]? = some c → l'[i]? = some c' → sameT c c' = true
  | [], l' => by simp [sameL]
  | t :: l, [] => by simp [sameL]
  | t :: l, u :: l' => by
    rw [sameL, Bool.and_eq_true, sameL_iff l l']
    constructor
    · rintro ⟨h1, h2⟩ i c c' hc hc'
      cases i with
      | zero =>
        obtain rfl : t = c := by simpa using hc
        obtain rfl : u = c' := by simpa using hc'
        exact h1
      | succ i => exact h2 i c c' (by simpa using hc) (by simpa using hc')
    · intro h
      exact ⟨h 0 t u rfl rfl, fun i c c' hc hc' => h (i + 1) c c' (by simpa using hc) (by simpa using hc')⟩
theorem alikeT_refl (t : Tr) : alikeT t t = true := by
  cases t; simp [alikeT, eqW4]
theorem sameT_refl : ∀ (n : Nat) (t : Tr), trSize t ≤ n → sameT t t = true := by
  intro n
  induction n with
  | zero => intro t h; have := trSize_pos t; omega
  | succ n ih =>
    intro t h
    rw [sameT_eq, alikeT_refl, Bool.true_and, sameL_iff]
    intro i c c' hc hc'
    rw [hc] at hc'
    obtain rfl := Option.some.inj hc'
    have := trSize_part hc
    exact ih c (by omega)
theorem alikeT_len {t u : Tr} (h : alikeT t u = true) : (prts t).length = (prts u).length := by
  cases t; cases u
  simp only [alikeT, Bool.and_eq_true, decide_eq_true_eq] at h
  exact h.2.2.2.2.2
theorem sameT_leaf {t u : Tr} (h : alikeT t u = true) (h0 : (prts t).length = 0) : sameT t u = true := by
  rw [sameT_eq, h, List.length_eq_zero_iff.1 h0]; simp [sameL]
/-- A pair that waits: its nodes' blocks, and their trees. -/
structure Ent where
  p : Nat
  q : Nat
  t : Tr
  u : Tr
abbrev EntOK (w : World) (A : Nat → Prop) (e : Ent) : Prop := NdAt w A e.t (ndPtr e.p) ∧ NdAt w A e.u (ndPtr e.q)
/-- A pair that needn't be looked at any more: it waits, or was met, or its trees are the same. -/
def DoneP (S : List Ent) (D : List (Nat × Nat)) (p q : Nat) (t u : Tr) : Prop := (∃ e ∈ S, e.p = p ∧ e.q = q) ∨ (p, q) ∈ D ∨ sameT t u = true
structure SmInv (w : World) (A : Nat → Prop) (a b : Nat) (ta tb : Tr) (S : List Ent) (D : List (Nat × Nat)) : Prop where
  st : ∀ e ∈ S, EntOK w A e
  met : ∀ d ∈ D, ∃ t u, NdAt w A t (ndPtr d.1) ∧ NdAt w A u (ndPtr d.2) ∧ alikeT t u = true ∧ ∀ (i : Nat) (c c' : Tr), (prts t)[i]? = some c → (prts u)[i]? = some c' → ∃ p' q', NdAt w A c (ndPtr p') ∧ NdAt w A c' (ndPtr q') ∧ DoneP S D p' q' c c'
  ab : DoneP S D a b ta tb
  know : sameT ta tb = true → ∀ e ∈ S, sameT e.t e.u = true
theorem DoneP.pop {w : World} {A : Nat → Prop} {S : List Ent} {D D' : List (Nat × Nat)} {x : Ent} {p q : Nat} {t u : Tr} (h : DoneP (S ++ [x]) D p q t u) (ht : NdAt w A t (ndPtr p)) (hu : NdAt w A u (ndPtr q)) (hx : EntOK w A x) (hD : ∀ d ∈ D, d ∈ D') (hs : sameT x.t x.u = true ∨ (x.p, x.q) ∈ D') : DoneP S D' p q t u := by
  rcases h with ⟨e, he, h1, h2⟩ | h | h
  · rcases List.mem_append.1 he with he | he
    · exact .inl ⟨e, he, h1, h2⟩
    · obtain rfl : e = x := by simpa using he
      subst h1 h2
      rcases hs with hs | hs
      · rw [ht.uniq hx.1, hu.uniq hx.2]; exact .inr (.inr hs)
      · exact .inr (.inl hs)
  · exact .inr (.inl (hD _ h))
  · exact .inr (.inr h)
theorem DoneP.more {S S' : List Ent} {D : List (Nat × Nat)} {p q : Nat} {t u : Tr} (h : DoneP S D p q t u) (hS : ∀ e ∈ S, e ∈ S') : DoneP S' D p q t u := by
  rcases h with ⟨e, he, h⟩ | h | h
  · exact .inl ⟨e, hS e he, h⟩
  · exact .inr (.inl h)
  · exact .inr (.inr h)
/-- A pair is let go. -/
theorem SmInv.pop {w : World} {A : Nat → Prop} {a b : Nat} {ta tb : Tr} {S : List Ent} {D : List (Nat × Nat)} {x : Ent} (h : SmInv w A a b ta tb (S ++ [x]) D) (ha : NdAt w A ta (ndPtr a)) (hb : NdAt w A tb (ndPtr b)) (hs : sameT x.t x.u = true ∨ (x.p, x.q) ∈ D) : SmInv w A a b ta tb S D := by
  have hx := h.st x (by simp)
  refine ⟨fun e he => h.st e (List.mem_append_left _ he), fun d hd => ?_, h.ab.pop ha hb hx (fun _ h => h) hs, fun hk e he => h.know hk e (List.mem_append_left _ he)⟩
  obtain ⟨t, u, h1, h2, h3, h4⟩ := h.met d hd
  refine ⟨t, u, h1, h2, h3, fun i c c' hc hc' => ?_⟩
  obtain ⟨p', q', g1, g2, g3⟩ := h4 i c c' hc hc'
  exact ⟨p', q', g1, g2, g3.pop g1 g2 hx (fun _ h => h) hs⟩
/-- A pair's parts wait in its place. -/
theorem SmInv.expand {w : World} {A : Nat → Prop} {a b : Nat} {ta tb : Tr} {S P : List Ent} {D : List (Nat × Nat)} {x : Ent} (h : SmInv w A a b ta tb (S ++ [x]) D) (ha : NdAt w A ta (ndPtr a)) (hb : NdAt w A tb (ndPtr b)) (hal : alikeT x.t x.u = true)
    (hP : ∀ e ∈ P, EntOK w A e ∧ ∃ i : Nat, (prts x.t)[i]? = some e.t ∧ (prts x.u)[i]? = some e.u) (hall : ∀ (i : Nat) (c c' : Tr), (prts x.t)[i]? = some c → (prts x.u)[i]? = some c' → ∃ e ∈ P, e.t = c ∧ e.u = c') : SmInv w A a b ta tb (S ++ P) (D ++ [(x.p, x.q)]) := by
  have hx := h.st x (by simp)
  have hD : ∀ d ∈ D, d ∈ D ++ [(x.p, x.q)] := fun d hd => List.mem_append_left _ hd
  have hin : (x.p, x.q) ∈ D ++ [(x.p, x.q)] := by simp
  have hS : ∀ e ∈ S, e ∈ S ++ P := fun e he => List.mem_append_left _ he
  refine ⟨fun e he => ?_, fun d hd => ?_, (h.ab.pop ha hb hx hD (.inr hin)).more hS, fun hk e he => ?_⟩
  · rcases List.mem_append.1 he with he | he
    · exact h.st e (List.mem_append_left _ he)
    · exact (hP e he).1
  · rcases List.mem_append.1 hd with hd | hd
    · obtain ⟨t, u, h1, h2, h3, h4⟩ := h.met d hd
      refine ⟨t, u, h1, h2, h3, fun i c c' hc hc' => ?_⟩
      obtain ⟨p', q', g1, g2, g3⟩ := h4 i c c' hc hc'
      exact ⟨p', q', g1, g2, (g3.pop g1 g2 hx hD (.inr hin)).more hS⟩
    · obtain rfl : d = (x.p, x.q) := by simpa using hd
      refine ⟨x.t, x.u, hx.1, hx.2, hal, fun i c c' hc hc' => ?_⟩
      obtain ⟨e, he, rfl, rfl⟩ := hall i c c' hc hc'
      exact ⟨e.p, e.q, (hP e he).1.1, (hP e he).1.2, .inl ⟨e, List.mem_append_right _ he, rfl, rfl⟩⟩
  · rcases List.mem_append.1 he with he | he
    · exact h.know hk e (List.mem_append_left _ he)
    · have hs := h.know hk x (by simp)
      rw [sameT_eq, Bool.and_eq_true, sameL_iff] at hs
      obtain ⟨i, h1, h2⟩ := (hP e he).2
      exact hs.2 i _ _ h1 h2
/-- Nothing waits: the trees are the same. -/
theorem SmInv.done {w : World} {A : Nat → Prop} {a b : Nat} {ta tb : Tr} {D : List (Nat × Nat)} (h : SmInv w A a b ta tb [] D) (ha : NdAt w A ta (ndPtr a)) (hb : NdAt w A tb (ndPtr b)) : sameT ta tb = true := by
  have key : ∀ (n : Nat) (p q : Nat) (t u : Tr), trSize t ≤ n → NdAt w A t (ndPtr p) → NdAt w A u (ndPtr q) → DoneP [] D p q t u → sameT t u = true := by
    intro n
    induction n with
    | zero => intro p q t u hn; have := trSize_pos t; omega
    | succ n ih =>
      intro p q t u hn ht hu hd
      rcases hd with ⟨e, he, _⟩ | hd | hd
      · cases he
      · obtain ⟨t', u', h1, h2, h3, h4⟩ := h.met _ hd
        obtain rfl := ht.uniq h1
        obtain rfl := hu.uniq h2
        rw [sameT_eq, h3, Bool.true_and, sameL_iff]
        intro i c c' hc hc'
        obtain ⟨p', q', g1, g2, g3⟩ := h4 i c c' hc hc'
        have := trSize_part hc
        exact ih p' q' c c' (by omega) g1 g2 g3
      · exact hd
  exact key (trSize ta) a b ta tb (Nat.le_refl _) ha hb h.ab
/-- What is left to look at. -/
def entSz (S : List Ent) : Nat := (S.map fun e => trSize e.t).sum
theorem entSz_snoc (S : List Ent) (x : Ent) : entSz (S ++ [x]) = entSz S + trSize x.t := by simp [entSz]
theorem entSz_append (S P : List Ent) : entSz (S ++ P) = entSz S + entSz P := by simp [entSz]
theorem sm_start (w : World) (A : Nat → Prop) (a b : Nat) (ta tb : Tr) (ha : NdAt w A ta (ndPtr a)) (hb : NdAt w A tb (ndPtr b)) : SmInv w A a b ta tb [⟨a, b, ta, tb⟩] [] := by
  refine ⟨fun e he => ?_, (fun d hd => absurd hd (by simp)), .inl ⟨_, List.mem_singleton.2 rfl, rfl, rfl⟩, fun hk e he => ?_⟩
  · obtain rfl : e = ⟨a, b, ta, tb⟩ := by simpa using he
    exact ⟨ha, hb⟩
  · obtain rfl : e = ⟨a, b, ta, tb⟩ := by simpa using he
    exact hk
end
section
open Go Go.RowKit
attribute [local go_sem ↓] Go.wp_at_zero Go.wp_at_succ
attribute [local go_sem] eq4
def entC (e : Ent) : List Value := [ndPtr e.p, ndPtr e.q]
theorem entC_len (S : List Ent) : (S.flatMap entC).length = S.length * 2 := by
  induction S with
  | nil => rfl
  | cons s S ih => simp [entC, ih]; omega
theorem entSz_len (S : List Ent) : S.length ≤ entSz S := by
  induction S with
  | nil => simp
  | cons e S ih => have := trSize_pos e.t; simp [entSz] at *; omega
/-- The pairs that wait, and those that were met, in memory. -/
structure SmAt (w wr : World) (S : List Ent) (D : List (Nat × Nat)) (v : Value) : Prop where
  bel : Below w.heap.size w wr
  row : wr.ownsRow (w.heap.size + 1) 61 2 v S.length (S.flatMap entC)
  map : PrMap wr w.heap.size D
theorem SmAt.below {w wr w' : World} {S : List Ent} {D : List (Nat × Nat)} {v : Value} (h : SmAt w wr S D v) (hb : Below wr.heap.size wr w') : SmAt w w' S D v := by
  refine ⟨h.bel.trans (hb.mono h.bel.size), ownsKeep h.row (grown_below none hb) (fun g _ e => by cases e), ?_⟩
  obtain ⟨es, c, h1, h2⟩ := h.map
  exact ⟨es, c, below_kept hb h1, h2⟩
/-- The last pair, and the slice without it. -/
theorem SmAt.last {w wr : World} {S : List Ent} {x : Ent} {D : List (Nat × Nat)} {v : Value} (h : SmAt w wr (S ++ [x]) D v) :
    ∃ g cap, v = .slice (some ⟨g, 0, none⟩) (S.length + 1) cap ∧ S.length + 1 ≤ cap ∧ wr.cell? ⟨g, S.length * 2, none⟩ = some (ndPtr x.p) ∧ wr.cell? ⟨g, S.length * 2 + 1, none⟩ = some (ndPtr x.q) ∧ SmAt w wr S D (.slice (some ⟨g, 0, none⟩) S.length cap) := by
  have hl : (S ++ [x]).length = S.length + 1 := by simp
  rcases h.row.2 with ⟨_, h0⟩ | ⟨g, cap, cur, rfl, hb, hh, hn, hm, hs, ht⟩
  · rw [hl] at h0; omega
  · rw [hl] at hn ht ⊢
    have key : ∀ j u, ((S ++ [x]).flatMap entC)[j]? = some u → wr.cell? ((⟨g, 0, none⟩ : Addr).add j) = some u := h.row.cells (g := g) rfl
    have ha : ∀ j, (⟨g, 0, none⟩ : Addr).add j = ⟨g, j, none⟩ := fun j => by unfold Addr.add; split <;> simp_all
    have k0 := key (S.length * 2) (ndPtr x.p) (by rw [List.flatMap_append, List.getElem?_append_right (by rw [entC_len]; omega), entC_len]; simp [entC])
    have k1 := key (S.length * 2 + 1) (ndPtr x.q) (by rw [List.flatMap_append, List.getElem?_append_right (by rw [entC_len]; omega), entC_len]; simp [entC])
    rw [ha] at k0 k1
    refine ⟨g, cap, rfl, hn, k0, k1, h.bel, ⟨by rw [entC_len], .inr ⟨g, cap, cur, rfl, hb, hh, by omega, hm, hs, ?_⟩⟩, h.map⟩
    have : (cur.toList.take ((S.length + 1) * 2)).take (S.length * 2) = ((S ++ [x]).flatMap entC).take (S.length * 2) := by rw [ht]
    rw [List.take_take, Nat.min_eq_left (by omega)] at this
    rw [this, List.flatMap_append, List.take_append_of_le_length (by rw [entC_len]; omega), List.take_of_length_le (by rw [entC_len]; omega)]
theorem sm_at0 (w : World) (a b : Nat) (ta tb : Tr) : SmAt w ((w.alloc (.map #[] 0)).alloc (.cells #[ndPtr a, ndPtr b] 61)) [⟨a, b, ta, tb⟩] [] (.slice (some ⟨w.heap.size + 1, 0, none⟩) 1 1) := by
  have b1 := below1 w (.map #[] 0)
  have b2 := below1 (w.alloc (.map #[] 0)) (.cells #[ndPtr a, ndPtr b] 61)
  have he := heap_new (w.alloc (.map #[] 0)) (.cells #[ndPtr a, ndPtr b] 61)
  rw [World.size_alloc] at he
  exact ⟨b1.trans (b2.mono b1.size), ⟨rfl, .inr ⟨_, 1, _, rfl, Nat.le_refl _, he, by simp, by decide, rfl, rfl⟩⟩, ⟨#[], 0, below_kept b2 (heap_new _ _), rfl⟩⟩
theorem snoc_of {S : List Ent} {n : Nat} (h : S.length = n + 1) : ∃ S' x, S = S' ++ [x] ∧ S'.length = n := by
  refine ⟨S.dropLast, S.getLast (by intro e; rw [e] at h; simp at h), (List.dropLast_concat_getLast _).symm, by rw [List.length_dropLast, h]; rfl⟩
theorem SmAt.met {w wr w1 : World} {S : List Ent} {D D' : List (Nat × Nat)} {v : Value} (h : SmAt w wr S D v) (hg : wr.grownBy w1 (some w.heap.size)) (hM : PrMap w1 w.heap.size D') : SmAt w w1 S D' v :=
  ⟨⟨hg.os.trans h.bel.os, hg.tape.trans h.bel.tape, hg.output.trans h.bel.output, Nat.le_trans h.bel.size hg.size, fun k hk => (hg.block k (Nat.lt_of_lt_of_le hk h.bel.size) (fun e => by have := Option.some.inj e; omega)).trans (h.bel.block k hk)⟩, ownsKeep h.row hg (fun g hb e => by have := (ownsLt h.row hb).1; have := Option.some.inj e; omega), hM⟩
/-- One more pair waits. -/
theorem SmAt.push {w wr w4 : World} {S : List Ent} {D : List (Nat × Nat)} {v v4 : Value} {o : Obj} {e : Ent} (h : SmAt w wr S D v) (ho : w4.ownsRow (w.heap.size + 1) 61 2 v4 (S.length + 1) (S.flatMap entC ++ [ndPtr e.p, ndPtr e.q])) (hg : (wr.alloc o).grownBy w4 v.ownBlock) : SmAt w w4 (S ++ [e]) D v4 := by
  have hsz := h.bel.size
  have hml : w.heap.size < wr.heap.size := Reg.size_of_get h.map.choose_spec.choose_spec.1
  have hne : ∀ k, k < w.heap.size + 1 → some k ≠ v.ownBlock := fun k hk e => by have := (ownsLt h.row e.symm).1; omega
  have hs4 := hg.size
  rw [World.size_alloc] at hs4
  refine ⟨⟨hg.os.trans h.bel.os, hg.tape.trans h.bel.tape, hg.output.trans h.bel.output, by omega, fun k hk => (hg.block k (by rw [World.size_alloc]; omega) (hne k (by omega))).trans (((below1 wr o).block k (by omega)).trans (h.bel.block k hk))⟩, ?_, ?_⟩
  · rw [List.flatMap_append, List.length_append]
    simpa [entC] using ho
  · obtain ⟨es, c, h1, h2⟩ := h.map
    exact ⟨es, c, (hg.block _ (by rw [World.size_alloc]; omega) (hne _ (by omega))).trans (((below1 wr o).block _ hml).trans h1), h2⟩
theorem Tryd.infoPair : (Tryd.prog.info? 61).map (fun i => (i.zero, i.size, i.bytes)) = some (some (.agg #[.pointer none, .pointer none]), 2, 16) := by kernel_rfl
theorem two_ptr (p q : Nat) : ∀ u ∈ [ndPtr p, ndPtr q], u.oneCell' = true := by
  intro u hu
  rcases List.mem_cons.1 hu with rfl | hu
  · rfl
  · obtain rfl : u = ndPtr q := by simpa using hu
    rfl
/-- The pairs of two nodes' parts. -/
def pairsOf (us vs : Nat → Nat) : Nat → List Tr → List Tr → List Ent
  | i, t :: l, u :: l' => ⟨us i, vs i, t, u⟩ :: pairsOf us vs (i + 1) l l'
  | _, _, _ => []
theorem pairsOf_at (us vs : Nat → Nat) : ∀ (l l' : List Tr) (i j : Nat) (c c' : Tr), l[j]? = some c → l'[j]? = some c' → (pairsOf us vs i l l')[j]? = some ⟨us (i + j), vs (i + j), c, c'⟩
  | [], _, _, _, _, _, h, _ => by simp at h
  | _ :: _, [], _, _, _, _, _, h => by simp at h
  | t :: l, u :: l', i, 0, c, c', h, h' => by
    obtain rfl : t = c := by simpa using h
    obtain rfl : u = c' := by simpa using h'
    rfl
  | t :: l, u :: l', i, j + 1, c, c', h, h' => by
    rw [pairsOf, List.getElem?_cons_succ, pairsOf_at us vs l l' (i + 1) j c c' (by simpa using h) (by simpa using h')]
    rw [show i + 1 + j = i + (j + 1) by omega]
theorem pairsOf_len (us vs : Nat → Nat) : ∀ (l l' : List Tr) (i : Nat), l.length = l'.length → (pairsOf us vs i l l').length = l.length
  | [], [], _, _ => rfl
  | [], _ :: _, _, h => by simp at h
  | _ :: _, [], _, h => by simp at h
  | t :: l, u :: l', i, h => by
    rw [pairsOf, List.length_cons, List.length_cons, pairsOf_len us vs l l' (i + 1) (by simpa using h)]
theorem pairsOf_sz (us vs : Nat → Nat) : ∀ (l l' : List Tr) (i : Nat), l.length = l'.length → entSz (pairsOf us vs i l l') = trSizes l
  | [], [], _, _ => rfl
  | [], _ :: _, _, h => by simp at h
  | _ :: _, [], _, h => by simp at h
  | t :: l, u :: l', i, h => by
    have := pairsOf_sz us vs l l' (i + 1) (by simpa using h)
    rw [pairsOf, trSizes, ← this]
    simp [entSz]
theorem pairsOf_mem (us vs : Nat → Nat) : ∀ (l l' : List Tr) (i : Nat) (e : Ent), e ∈ pairsOf us vs i l l' → ∃ j, l[j]? = some e.t ∧ l'[j]? = some e.u ∧ e.p = us (i + j) ∧ e.q = vs (i + j)
  | [], _, _, _, h => by simp [pairsOf] at h
  | _ :: _, [], _, _, h => by simp [pairsOf] at h
  | t :: l, u :: l', i, e, h => by
    rw [pairsOf] at h
    rcases List.mem_cons.1 h with rfl | h
    · exact ⟨0, rfl, rfl, rfl, rfl⟩
    · obtain ⟨j, h1, h2, h3, h4⟩ := pairsOf_mem us vs l l' (i + 1) e h
      exact ⟨j + 1, by simpa using h1, by simpa using h2, by rw [h3, show i + 1 + j = i + (j + 1) by omega], by rw [h4, show i + 1 + j = i + (j + 1) by omega]⟩
theorem bin_ptr (p q : Nat) (W : World) (hp : IsC W p) (hq : IsC W q) : (binOp .eql 23 (ndPtr p) (ndPtr q)).run Tryd.prog W = .ok (.bool (p == q)) W := by
  simp only [binOp]
  simp [eq_ptr p q W hp hq]
set_option maxRecDepth 100000 in
set_option maxHeartbeats 8000000 in
theorem ssame_any (A : Nat → Prop) (ta tb : Tr) (a b : Nat) (w : World) (ha : NdAt w A ta (ndPtr a)) (hb : NdAt w A tb (ndPtr b)) (hs : trSize ta ≤ 1099511000000) :
    Calls Tryd.prog 7 #[ndPtr a, ndPtr b] w fun e w' => e = .returned (.bool (sameT ta tb)) ∧ Below w.heap.size w w' := by
  have HA := qhid ha
  have HB := qhid hb
  have HI := qhid (sm_start w A a b ta tb ha hb)
  have HM := qhid (sm_at0 w a b ta tb)
  have hmm := @run_makeMap Tryd.prog
  clear ha hb
  obtain ⟨res, hres⟩ : ∃ res, res = sameT ta tb := ⟨_, rfl⟩
  rw [← hres]
  have HRES := qhid hres
  clear hres
  go_enter Tryd.func7, Tryd.ntmps7
  go_wp2_with fail
  clear hmm
  go_loopg [6] (trSize ta) (fun rr l wr => Hid (rr ≤ 1099511000000) ∧ ∃ (S : List Ent) (D : List (Nat × Nat)) (vp : Option Addr) (n vc : Nat), l = .slice vp n vc ∧ Hid (S.length = n) ∧ Hid (entSz S = rr) ∧ Hid (SmInv w A a b ta tb S D) ∧ Hid (SmAt w wr S D l))
  case atStart => exact ⟨qhid hs, _, _, _, 1, 1, rfl, qhid rfl, qhid (by simp [entSz]), HI, HM⟩
  case round =>
    clear HI HM
    obtain ⟨HRR, S, D, vp, n, vc, rfl, HN, HSZ, HI, HM⟩ := hrel
    by_cases h0 : n = 0
    · subst h0
      have hS0 : S = [] := List.length_eq_zero_iff.1 HN.out
      subst hS0
      have HF : Hid (res = true) := qhid (by rw [HRES.out]; exact HI.out.done HA.out HB.out)
      go_wp2_with fail
      exact bodyPost_ret (v := .bool true) (by simp [results, Tryd.results7, go_sem]) rfl ⟨by rw [HF.out], HM.out.bel⟩
    · obtain ⟨m, rfl⟩ : ∃ m, n = m + 1 := ⟨n - 1, by omega⟩
      obtain ⟨S', ⟨p, q, t, u⟩, rfl, hS'⟩ := snoc_of HN.out
      obtain ⟨g, cap, hv, hcap, k0, k1, hm'⟩ := HM.out.last
      have e1 : vp = some ⟨g, 0, none⟩ := by injection hv
      have e3 : vc = cap := by injection hv
      clear hv
      subst e1 e3
      rw [hS'] at hcap k0 k1 hm'
      have hx : NdAt w A t (ndPtr p) ∧ NdAt w A u (ndPtr q) := HI.out.st ⟨p, q, t, u⟩ (by simp)
      have HX := qhid hx
      have HM2 := qhid hm'
      have HS' := qhid hS'
      have hmc : m ≤ vc := by omega
      have hm40 : m ≤ 1099511000000 := by have h1 := entSz_len (S' ++ [⟨p, q, t, u⟩]); rw [HSZ.out, HN.out] at h1; have := HRR.out; omega
      have hwm : wrap64 (m : Int) = (m : Int) := by simp [wrap64]; omega
      clear hm' hx hS'
      have HSZ2 : Hid (entSz S' + trSize t = gk) := qhid (by rw [← HSZ.out, entSz_snoc])
      have HIS := qhid HI
      go_upto_region 6 with fail
      obtain ⟨W1, hW1⟩ : ∃ X, X = wr.alloc (.cells #[ndPtr p, ndPtr q] 61) := ⟨_, rfl⟩
      change Code.wp _ _ _ _ (wr.alloc (.cells #[ndPtr p, ndPtr q] 61))
      rw [← hW1]
      have hb1 : Below wr.heap.size wr W1 := by rw [hW1]; exact below1 _ _
      have HM1 := qhid (HM2.out.below hb1)
      have HXB : Hid (W1.heap[wr.heap.size]? = some (.cells #[ndPtr p, ndPtr q] 61)) := qhid (by rw [hW1]; exact heap_new _ _)
      obtain ⟨xb, hxb⟩ : ∃ b, b = wr.heap.size := ⟨_, rfl⟩
      rw [← hxb] at HXB ⊢
      have HBX : Hid (w.heap.size + 1 ≤ xb) := qhid (by have := HM.out.bel.size; have := Reg.size_of_get (HM.out.map.choose_spec.choose_spec.1); omega)
      have HGX : Hid (g ≠ xb) := qhid (by have h2 : g < wr.heap.size := (ownsLt HM.out.row rfl).2; rw [hxb]; omega)
      clear hW1 hb1 hxb k0 k1 hcap HM HM2 HIS
      have k0 := Joins.cell_of_block HXB.out 0
      have k1 := Joins.cell_of_block HXB.out 1
      simp only [List.getElem?_toArray, List.getElem?_cons_zero, List.getElem?_cons_succ] at k0 k1
      have HCP : Hid (IsCC w (p, q)) := qhid (by
        obtain ⟨_, _, _, _, _, _, _, _, _, _, h1, _⟩ := HX.out.1.prt
        obtain ⟨_, _, _, _, _, _, _, _, _, _, h2, _⟩ := HX.out.2.prt
        exact ⟨⟨_, _, h1⟩, ⟨_, _, h2⟩⟩)
      have hbe := bin_ptr p q W1 (HCP.out.1.below HM1.out.bel) (HCP.out.2.below HM1.out.bel)
      by_cases hpq : p = q
      · subst hpq
        have hsm : sameT t u = true := by rw [HX.out.1.uniq HX.out.2]; exact sameT_refl _ u (Nat.le_refl _)
        have HI2 := qhid (HI.out.pop HA.out HB.out (.inl hsm))
        have hpos := trSize_pos t
        clear hsm
        go_wp2_with fail
        go_roundg (entSz S')
        case rel => exact ⟨qhid (by have := HRR.out; have := HSZ2.out; omega), S', D, _, m, vc, rfl, HS', qhid rfl, HI2, HM1⟩
        case measure => have := HSZ2.out; omega
      · have e0 : (p == q) = false := by simpa using hpq
        rw [e0] at hbe
        clear e0 hpq
        have AL := qhid (salike_any A A t u p q W1 (HX.out.1.up HM1.out.bel) (HX.out.2.up HM1.out.bel))
        obtain ⟨al, hal⟩ : ∃ al, al = alikeT t u := ⟨_, rfl⟩
        rw [← hal] at AL
        have HAL := qhid hal
        clear hal
        go_wp2_with fail
        refine AL.out.mono ?_
        rintro e W2 ⟨rfl, hb2⟩
        have HM2 := qhid (HM1.out.below hb2)
        have HXB2 := qhid (below_kept hb2 HXB.out)
        clear hb2 AL HM1 HXB k0 k1 hbe
        have k0 := Joins.cell_of_block HXB2.out 0
        have k1 := Joins.cell_of_block HXB2.out 1
        simp only [List.getElem?_toArray, List.getElem?_cons_zero, List.getElem?_cons_succ] at k0 k1
        cases al with
        | false =>
          have HF : Hid (res = false) := qhid (by
            rw [HRES.out]
            cases h : sameT ta tb with
            | false => rfl
            | true =>
              have := HI.out.know h ⟨p, q, t, u⟩ (by simp)
              have this : sameT t u = true := this
              rw [sameT_eq, ← HAL.out] at this
              cases this)
          go_wp2_with fail
          exact bodyPost_ret (v := .bool false) (by simp [results, Tryd.results7, go_sem]) rfl ⟨by rw [HF.out], HM2.out.bel⟩
        | true =>
          have HDC : Hid (∀ d ∈ D, IsCC w d) := qhid (fun d hd => by
            obtain ⟨t', u', h1, h2, _⟩ := HI.out.met d hd
            obtain ⟨_, _, _, _, _, _, _, _, _, _, g1, _⟩ := h1.prt
            obtain ⟨_, _, _, _, _, _, _, _, _, _, g2, _⟩ := h2.prt
            exact ⟨⟨_, _, g1⟩, ⟨_, _, g2⟩⟩)
          have hlk := lookup_pr (w := W2) HM2.out.map ⟨HCP.out.1.below HM2.out.bel, HCP.out.2.below HM2.out.bel⟩ (fun d hd => ⟨(HDC.out d hd).1.below HM2.out.bel, (HDC.out d hd).2.below HM2.out.bel⟩)
          have hb3 := below1 W2 (.cells #[] 63)
          have HM3 := qhid (HM2.out.below hb3)
          have HXB3 := qhid (below_kept hb3 HXB2.out)
          obtain ⟨hAp, kk, s4, lo, hi, z, np, nc, c1, c2, hnp, hkp⟩ := HX.out.1.prt
          obtain ⟨hAq, kk', s4', lo', hi', z', np', nc', c1', c2', hnq, hkq⟩ := HX.out.2.prt
          have hln := alikeT_len HAL.out.symm
          by_cases hin : (p, q) ∈ D
          · have HI2 := qhid (HI.out.pop HA.out HB.out (.inr hin))
            have hpos := trSize_pos t
            rw [decide_eq_true hin] at hlk
            clear hin hb3 hnp hnq hkp hkq
            go_wp2_with fail
            go_roundg (entSz S')
            case rel => exact ⟨qhid (by have := HRR.out; have := HSZ2.out; omega), S', D, _, m, vc, rfl, HS', qhid rfl, HI2, HM3⟩
            case measure => have := HSZ2.out; omega
          · rw [decide_eq_false hin] at hlk
            have r0 := Joins.cell_of_block HXB3.out 0
            have r1 := Joins.cell_of_block HXB3.out 1
            simp only [List.getElem?_toArray, List.getElem?_cons_zero, List.getElem?_cons_succ] at r0 r1
            have p8 := Joins.cell_of_block (below_kept HM3.out.bel hnp) 8
            simp only [List.getElem?_toArray, List.getElem?_cons_zero, List.getElem?_cons_succ] at p8
            by_cases hl0 : (prts t).length = 0
            · have HI2 := qhid (HI.out.pop HA.out HB.out (.inl (sameT_leaf HAL.out.symm hl0)))
              have hpos := trSize_pos t
              rw [hl0] at p8
              clear hin hb3 hnp hnq hkp hkq hl0
              go_wp2_with fail
              go_roundg (entSz S')
              case rel => exact ⟨qhid (by have := HRR.out; have := HSZ2.out; omega), S', D, _, m, vc, rfl, HS', qhid rfl, HI2, HM3⟩
              case measure => have := HSZ2.out; omega
            · obtain ⟨W4, hup, hM4, hg4⟩ := update_pr (w := W2.alloc (.cells #[] 63)) HM3.out.map ⟨HCP.out.1.below HM3.out.bel, HCP.out.2.below HM3.out.bel⟩ (fun d hd => ⟨(HDC.out d hd).1.below HM3.out.bel, (HDC.out d hd).2.below HM3.out.bel⟩) hin
              have HM4 := qhid (HM3.out.met hg4 hM4)
              have HXB4 : Hid (W4.heap[xb]? = some (.cells #[ndPtr p, ndPtr q] 61)) := qhid ((hg4.block xb (Reg.size_of_get HXB3.out) (fun e => by have := Option.some.inj e; have := HBX.out; omega)).trans HXB3.out)
              have hl0' : ((prts t).length == 0) = false := by simpa using hl0
              obtain ⟨n0, hn0⟩ : ∃ n, n = (prts t).length := ⟨_, rfl⟩
              have hn0u : n0 = (prts u).length := by omega
              have hex : ∀ i, ∃ cp cq, ∀ c c', (prts t)[i]? = some c → (prts u)[i]? = some c' → (∃ g1, np = some ⟨g1, 0, none⟩ ∧ g1 < w.heap.size ∧ w.cell? ⟨g1, i, none⟩ = some (ndPtr cp)) ∧ NdAt w A c (ndPtr cp) ∧ (∃ g2, np' = some ⟨g2, 0, none⟩ ∧ g2 < w.heap.size ∧ w.cell? ⟨g2, i, none⟩ = some (ndPtr cq)) ∧ NdAt w A c' (ndPtr cq) := fun i => by
                cases h1 : (prts t)[i]? with
                | none => exact ⟨0, 0, fun c c' h => by cases h⟩
                | some c =>
                  cases h2 : (prts u)[i]? with
                  | none => exact ⟨0, 0, fun c c' _ h => by cases h⟩
                  | some c' =>
                    obtain ⟨g1, cp, a1, a2, a3, a4⟩ := hkp i c h1
                    obtain ⟨g2, cq, b1, b2, b3, b4⟩ := hkq i c' h2
                    refine ⟨cp, cq, fun d d' hd hd' => ?_⟩
                    rw [← Option.some.inj hd, ← Option.some.inj hd']
                    exact ⟨⟨g1, a1, a2, a3⟩, a4, ⟨g2, b1, b2, b3⟩, b4⟩
              have hus : ∃ us vs : Nat → Nat, ∀ i c c', (prts t)[i]? = some c → (prts u)[i]? = some c' → (∃ g1, np = some ⟨g1, 0, none⟩ ∧ g1 < w.heap.size ∧ w.cell? ⟨g1, i, none⟩ = some (ndPtr (us i))) ∧ NdAt w A c (ndPtr (us i)) ∧ (∃ g2, np' = some ⟨g2, 0, none⟩ ∧ g2 < w.heap.size ∧ w.cell? ⟨g2, i, none⟩ = some (ndPtr (vs i))) ∧ NdAt w A c' (ndPtr (vs i)) :=
                ⟨fun i => (hex i).choose, fun i => (hex i).choose_spec.choose, fun i c c' h1 h2 => (hex i).choose_spec.choose_spec c c' h1 h2⟩
              obtain ⟨us, vs, hus⟩ := hus
              have HUS := qhid hus
              obtain ⟨P, hP⟩ : ∃ P, P = pairsOf us vs 0 (prts t) (prts u) := ⟨_, rfl⟩
              have HPL : Hid (P.length = n0) := qhid (by rw [hP, hn0]; exact pairsOf_len us vs _ _ 0 hln)
              have HPZ : Hid (entSz P + 1 = trSize t) := qhid (by rw [hP, pairsOf_sz us vs _ _ 0 hln, trSize_eq]; omega)
              have HI4 : Hid (SmInv w A a b ta tb (S' ++ P) (D ++ [(p, q)])) := qhid (HI.out.expand HA.out HB.out HAL.out.symm (fun e he => by
                  rw [hP] at he
                  obtain ⟨j, g1, g2, g3, g4⟩ := pairsOf_mem us vs _ _ 0 e he
                  rw [Nat.zero_add] at g3 g4
                  have := hus j e.t e.u g1 g2
                  exact ⟨⟨by rw [g3]; exact this.2.1, by rw [g4]; exact this.2.2.2⟩, j, g1, g2⟩) (fun i c c' h1 h2 => by
                  have := pairsOf_at us vs (prts t) (prts u) 0 i c c' h1 h2
                  exact ⟨_, by rw [hP]; exact List.mem_of_getElem? this, rfl, rfl⟩))
              have HPA : Hid (∀ (j : Nat) (c c' : Tr), (prts t)[j]? = some c → (prts u)[j]? = some c' → P[j]? = some ⟨us j, vs j, c, c'⟩) := qhid (fun j c c' h1 h2 => by
                  have := pairsOf_at us vs (prts t) (prts u) 0 j c c' h1 h2
                  rw [Nat.zero_add] at this
                  rw [hP]; exact this)
              have hn40 : n0 ≤ 1099511000000 := by have h1 := trSizes_len (prts t); have h2 := trSize_eq t; have := HSZ2.out; have := HRR.out; omega
              have HNP : Hid (w.heap[p]? = some (ndOb kk s4 lo hi z (.slice np n0 nc) c1 c2)) := qhid (by rw [hn0]; exact hnp)
              have HNQ : Hid (w.heap[q]? = some (ndOb kk' s4' lo' hi' z' (.slice np' n0 nc') c1' c2')) := qhid (by rw [hn0u]; exact hnq)
              have HLT : Hid (∀ j : Nat, j < n0 → ∃ c c' : Tr, (prts t)[j]? = some c ∧ (prts u)[j]? = some c') := qhid (fun j hj => ⟨_, _, List.getElem?_eq_getElem (by omega), List.getElem?_eq_getElem (by omega)⟩)
              have q8 := Joins.cell_of_block (below_kept HM4.out.bel HNP.out) 8
              simp only [List.getElem?_toArray, List.getElem?_cons_zero, List.getElem?_cons_succ] at q8
              have s0 := Joins.cell_of_block HXB4.out 0
              simp only [List.getElem?_toArray, List.getElem?_cons_zero] at s0
              have hl0i : ((n0 : Int) == 0) = false := by rw [beq_eq_false_iff_ne]; omega
              rw [← hn0] at p8
              clear hin hb3 hnp hnq hkp hkq hl0 hl0' hex hus hg4 hM4 hln hP HM3 HXB3 hn0u hn0
              obtain ⟨i0, hif, hy0, hy1, hy2⟩ := info_parts Tryd.infoPair
              go_wp2_with fail
              clear r0 r1 hup hlk p8 q8 s0 hl0i
              go_loopw [6, 77] (fun l i wr => ∃ (j : Nat) (vp : Option Addr) (vcc : Nat), j ≤ n0 ∧ i = .int .i64 j ∧ l = .slice vp (m + j) vcc ∧ Hid (SmAt w wr (S' ++ P.take j) (D ++ [(p, q)]) l) ∧ Hid (wr.heap[xb]? = some (.cells #[ndPtr p, ndPtr q] 61)) ∧ Hid (l.ownBlock ≠ some xb)) (fun _ i _ => n0 - (intOf i).toNat)
              case atStart => exact ⟨0, _, vc, by omega, rfl, rfl, qhid (by rw [List.take_zero, List.append_nil]; exact HM4.out), HXB4, qhid (fun e => HGX.out (Option.some.inj e))⟩
              case round =>
                clear HM4 HXB4
                obtain ⟨j, vp, vcc, hj, rfl, rfl, HM5, HXB5, HOB⟩ := hrel
                have hlen : (S' ++ P.take j).length = m + j := by rw [List.length_append, HS'.out, List.length_take, HPL.out]; omega
                have s0 := Joins.cell_of_block HXB5.out 0
                have s1 := Joins.cell_of_block HXB5.out 1
                have q8 := Joins.cell_of_block (below_kept HM5.out.bel HNQ.out) 8
                simp only [List.getElem?_toArray, List.getElem?_cons_zero, List.getElem?_cons_succ] at s0 s1 q8
                by_cases hlt : j < n0
                · obtain ⟨c, c', h1, h2⟩ := HLT.out j hlt
                  obtain ⟨⟨g1, rfl, hg1, hc1⟩, _, ⟨g2, rfl, hg2, hc2⟩, _⟩ := HUS.out j c c' h1 h2
                  have x1 := (World.cell?_of_block (w := w) (a := ⟨g1, j, none⟩) (HM5.out.bel.block g1 hg1)).trans hc1
                  have x2 := (World.cell?_of_block (w := w) (a := ⟨g2, j, none⟩) (HM5.out.bel.block g2 hg2)).trans hc2
                  have hrow := HM5.out.row
                  rw [hlen] at hrow
                  have HPT : Hid (P.take (j + 1) = P.take j ++ [⟨us j, vs j, c, c'⟩]) := qhid (by rw [List.take_add_one, HPA.out j c c' h1 h2]; rfl)
                  have HLEN := qhid hlen
                  have hxl := Reg.size_of_get HXB5.out
                  have hbw : w.heap.size + 1 ≤ wr.heap.size := by have := HM5.out.bel.size; have := HBX.out; omega
                  clear h1 h2 hc1 hc2 hlen
                  go_wp2_with (at_builtin; go_must (refine wpList_append_own_at _ rfl (.tmp 82) (.tmp 93) 62 rfl (w.heap.size + 1) 61 i0 (.agg #[.pointer none, .pointer none]) 2 16 Tryd.underlying62 hif hy0 hy1 hy2 rfl (by decide) _ (m + j) ((S' ++ P.take j).flatMap entC) rfl (ownsAlloc hrow _) ⟨_, 0, none⟩ 1 1 [ndPtr (us j), ndPtr (vs j)] rfl rfl (cell_two_new _ _ _ _) (two_ptr _ _) (by unfold maxLen; omega) (by omega) (by simp; omega) ?_; intro v4 w4 ho hg4 _ hat; have HP4 := qhid (HM5.out.push (e := ⟨us j, vs j, c, c'⟩) (by rw [HLEN.out]; exact ho) hg4); have HXB6 : Hid (w4.heap[xb]? = some (.cells #[ndPtr p, ndPtr q] 61)) := qhid ((hg4.block xb (by rw [World.size_alloc]; omega) (fun e => HOB.out e.symm)).trans (((below1 wr _).block xb hxl).trans HXB5.out)); have HOB6 : Hid (v4.ownBlock ≠ some xb) := qhid (by rcases hat with e | e; (rw [e]; exact HOB.out); (rw [e, World.size_alloc]; intro e2; have := Option.some.inj e2; omega)); obtain ⟨b4, c4, hs4⟩ : ∃ b c, v4 = .slice b (m + j + 1) c := row_slice ho; subst hs4; clear ho hg4 hat))
                  go_roundw
                  case rel => exact ⟨j + 1, b4, c4, by omega, by go_num, rfl, qhid (by rw [HPT.out, ← List.append_assoc]; exact HP4.out), HXB6, HOB6⟩
                  case measure => simp [intOf]; omega
                · obtain rfl : j = n0 := by omega
                  have HPT : Hid (P.take j = P) := qhid (List.take_of_length_le (by rw [HPL.out]; exact Nat.le_refl _))
                  have HLN : Hid ((S' ++ P).length = m + j) := qhid (by rw [List.length_append, HS'.out, HPL.out])
                  clear hlen
                  go_wp2_with fail
                  go_roundg (entSz (S' ++ P))
                  case rel => exact ⟨qhid (by have := HRR.out; have := HSZ2.out; have := HPZ.out; rw [entSz_append]; omega), S' ++ P, D ++ [(p, q)], _, m + j, _, rfl, HLN, qhid rfl, HI4, qhid (by have := HM5.out; rwa [HPT.out] at this)⟩
                  case measure => have := HSZ2.out; have := HPZ.out; rw [entSz_append]; omega
end
end Go.Proofs.YtaliapknkpdmdaaDoor
