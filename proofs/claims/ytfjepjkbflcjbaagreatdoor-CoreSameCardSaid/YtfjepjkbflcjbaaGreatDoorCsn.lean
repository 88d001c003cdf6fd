/- Plain mathematics of core.Same: why a stack of pairs with a set of those met tells whether two cores are the same. Maps keyed by pairs of cores' pointers; the stack of such pairs. Out of XPbU by gen_csp.py. core.Same told. Written by gen_csn.py. -/
import Derived.Test.YtfjepjkbflcjbaaGreatDoorCoK
import Derived.Test.YtfjepjkbflcjbaaGreatDoorPbU
import Derived.Test.YtfjepjkbflcjbaaGreatDoorRegionM
namespace Go.Proofs.YtfjepjkbflcjbaaGreatDoor
section
section
open Go Go.RowKit
/-- A pair that waits: two pointers, and the cores that lie there. -/
structure CEnt where
  p : Option Nat
  q : Option Nat
  t : Co
  u : Co
/-- How many places a core has, nil ones among them. -/
def cPl : Co → Nat
  | .nil => 1
  | .node _ _ _ a b => 1 + cPl a + cPl b
theorem cPl_pos (c : Co) : 1 ≤ cPl c := by cases c <;> simp [cPl] <;> omega
theorem cPl_size (c : Co) : cPl c = 2 * coSize c + 1 := by
  induction c with
  | nil => rfl
  | node k s z a b iha ihb => simp only [cPl, coSize, iha, ihb]; omega
def cEsz (S : List CEnt) : Nat := (S.map fun e => cPl e.t).sum
theorem cEsz_snoc (S : List CEnt) (x : CEnt) : cEsz (S ++ [x]) = cEsz S + cPl x.t := by simp [cEsz]
theorem cEsz_len (S : List CEnt) : S.length ≤ cEsz S := by
  induction S with
  | nil => simp
  | cons e S ih => have := cPl_pos e.t; simp [cEsz] at *; omega
def DoneC (S : List CEnt) (D : List (Nat × Nat)) (p q : Option Nat) (t u : Co) : Prop := t = u ∨ (∃ e ∈ S, e.p = p ∧ e.q = q) ∨ ∃ i j, p = some i ∧ q = some j ∧ (i, j) ∈ D
/-- A pair that was met: both are alike, and what they are made of is done. -/
structure MetC (w : World) (S : List CEnt) (D : List (Nat × Nat)) (i j : Nat) : Prop where
  ex : ∃ (k : Int) (s : W4) (z : Bool) (a b c d : Co) (pa pb pc pd : Option Nat), CoAt w (.node k s z a b) (kPtr (some i)) ∧ CoAt w (.node k s z c d) (kPtr (some j)) ∧ CoAt w a (kPtr pa) ∧ CoAt w b (kPtr pb) ∧ CoAt w c (kPtr pc) ∧ CoAt w d (kPtr pd) ∧ DoneC S D pa pc a c ∧ DoneC S D pb pd b d
structure CsInv (w : World) (p q : Option Nat) (t u : Co) (S : List CEnt) (D : List (Nat × Nat)) : Prop where
  at_ : ∀ e ∈ S, CoAt w e.t (kPtr e.p) ∧ CoAt w e.u (kPtr e.q)
  nec : t = u → ∀ e ∈ S, e.t = e.u
  root : DoneC S D p q t u
  met : ∀ x ∈ D, MetC w S D x.1 x.2
theorem DoneC.map {S S' : List CEnt} {D D' : List (Nat × Nat)} {p q : Option Nat} {t u : Co} (h : DoneC S D p q t u) (hf : ∀ e ∈ S, e.p = p → e.q = q → DoneC S' D' p q t u) (hD : ∀ x ∈ D, x ∈ D') : DoneC S' D' p q t u := by
  rcases h with h | ⟨e, he, h1, h2⟩ | ⟨i, j, h1, h2, h3⟩
  · exact .inl h
  · exact hf e he h1 h2
  · exact .inr (.inr ⟨i, j, h1, h2, hD _ h3⟩)
variable {w : World} {p q : Option Nat} {t u : Co} {S : List CEnt} {D : List (Nat × Nat)} {x : CEnt}
theorem CsInv.start (ha : CoAt w t (kPtr p)) (hb : CoAt w u (kPtr q)) : CsInv w p q t u [⟨p, q, t, u⟩] [] where
  at_ e he := by
    rw [List.mem_singleton.1 he]
    exact ⟨ha, hb⟩
  nec h e he := by rw [List.mem_singleton.1 he]; exact h
  root := .inr (.inl ⟨_, List.mem_singleton.2 rfl, rfl, rfl⟩)
  met x hx := by cases hx
/-- The last pair goes: it is the same, or it was met. -/
theorem CsInv.pop (h : CsInv w p q t u (S ++ [x]) D) (ha : CoAt w t (kPtr p)) (hb : CoAt w u (kPtr q)) (hx : x.t = x.u ∨ ∃ i j, x.p = some i ∧ x.q = some j ∧ (i, j) ∈ D) : CsInv w p q t u S D := by
  have hat := h.at_ x (List.mem_append_right _ (List.mem_singleton.2 rfl))
  have key : ∀ {p' q' : Option Nat} {t' u' : Co}, CoAt w t' (kPtr p') → CoAt w u' (kPtr q') → DoneC (S ++ [x]) D p' q' t' u' → DoneC S D p' q' t' u' := by
    intro p' q' t' u' h1 h2 hd
    refine hd.map (fun e he ep eq => ?_) (fun _ h => h)
    rcases List.mem_append.1 he with he | he
    · exact .inr (.inl ⟨e, he, ep, eq⟩)
    · rw [List.mem_singleton.1 he] at ep eq
      rcases hx with hx | ⟨i, j, e1, e2, e3⟩
      · rw [← ep] at h1
        rw [← eq] at h2
        exact .inl ((h1.uniq hat.1).trans (hx.trans (hat.2.uniq h2)))
      · exact .inr (.inr ⟨i, j, ep.symm.trans e1, eq.symm.trans e2, e3⟩)
  refine ⟨fun e he => h.at_ e (List.mem_append_left _ he), fun e e' he => h.nec e e' (List.mem_append_left _ he), key ha hb h.root, fun y hy => ?_⟩
  obtain ⟨k, s, z, a, b, c, d, pa, pb, pc, pd, h1, h2, h3, h4, h5, h6, h7, h8⟩ := (h.met y hy).ex
  exact ⟨k, s, z, a, b, c, d, pa, pb, pc, pd, h1, h2, h3, h4, h5, h6, key h3 h5 h7, key h4 h6 h8⟩
/-- The last pair is met: what the two are made of waits. -/
theorem CsInv.expand {i j : Nat} {k : Int} {s : W4} {z : Bool} {a b c d : Co} {pa pb pc pd : Option Nat} (h : CsInv w p q t u (S ++ [x]) D) (hp : x.p = some i) (hq : x.q = some j) (ht : x.t = .node k s z a b) (hu : x.u = .node k s z c d)
    (h1 : CoAt w a (kPtr pa)) (h2 : CoAt w b (kPtr pb)) (h3 : CoAt w c (kPtr pc)) (h4 : CoAt w d (kPtr pd)) : CsInv w p q t u (S ++ [⟨pb, pd, b, d⟩] ++ [⟨pa, pc, a, c⟩]) (D ++ [(i, j)]) := by
  have hat := h.at_ x (List.mem_append_right _ (List.mem_singleton.2 rfl))
  rw [hp, hq, ht, hu] at hat
  have key : ∀ {p' q' : Option Nat} {t' u' : Co}, DoneC (S ++ [x]) D p' q' t' u' → DoneC (S ++ [⟨pb, pd, b, d⟩] ++ [⟨pa, pc, a, c⟩]) (D ++ [(i, j)]) p' q' t' u' := by
    intro p' q' t' u' hd
    refine hd.map (fun e he ep eq => ?_) (fun _ h => List.mem_append_left _ h)
    rcases List.mem_append.1 he with he | he
    · exact .inr (.inl ⟨e, List.mem_append_left _ (List.mem_append_left _ he), ep, eq⟩)
    · rw [List.mem_singleton.1 he] at ep eq
      exact .inr (.inr ⟨i, j, ep.symm.trans hp, eq.symm.trans hq, List.mem_append_right _ (List.mem_singleton.2 rfl)⟩)
  refine ⟨fun e he => ?_, fun e e' he => ?_, key h.root, fun y hy => ?_⟩
  · rcases List.mem_append.1 he with he | he
    · rcases List.mem_append.1 he with he | he
      · exact h.at_ e (List.mem_append_left _ he)
      · rw [List.mem_singleton.1 he]; exact ⟨h2, h4⟩
    · rw [List.mem_singleton.1 he]; exact ⟨h1, h3⟩
  · have hx := h.nec e x (List.mem_append_right _ (List.mem_singleton.2 rfl))
    rw [ht, hu] at hx
    injection hx with _ _ _ e1 e2
    rcases List.mem_append.1 he with he | he
    · rcases List.mem_append.1 he with he | he
      · exact h.nec e e' (List.mem_append_left _ he)
      · rw [List.mem_singleton.1 he]; exact e2
    · rw [List.mem_singleton.1 he]; exact e1
  · rcases List.mem_append.1 hy with hy | hy
    · obtain ⟨k', s', z', a', b', c', d', pa', pb', pc', pd', g1, g2, g3, g4, g5, g6, g7, g8⟩ := (h.met y hy).ex
      exact ⟨k', s', z', a', b', c', d', pa', pb', pc', pd', g1, g2, g3, g4, g5, g6, key g7, key g8⟩
    · rw [List.mem_singleton.1 hy]
      exact ⟨k, s, z, a, b, c, d, pa, pb, pc, pd, hat.1, hat.2, h1, h2, h3, h4, .inr (.inl ⟨_, List.mem_append_right _ (List.mem_singleton.2 rfl), rfl, rfl⟩), .inr (.inl ⟨_, List.mem_append_left _ (List.mem_append_right _ (List.mem_singleton.2 rfl)), rfl, rfl⟩)⟩
/-- None waits: they are the same. -/
theorem CsInv.done (h : CsInv w p q t u [] D) (ha : CoAt w t (kPtr p)) (hb : CoAt w u (kPtr q)) : t = u := by
  have key : ∀ (n : Nat) (p' q' : Option Nat) (t' u' : Co), cPl t' ≤ n → CoAt w t' (kPtr p') → CoAt w u' (kPtr q') → DoneC [] D p' q' t' u' → t' = u' := by
    intro n
    induction n with
    | zero => intro p' q' t' u' hn; have := cPl_pos t'; omega
    | succ n ih =>
      intro p' q' t' u' hn h1 h2 hd
      rcases hd with hd | ⟨e, he, _⟩ | ⟨i, j, rfl, rfl, hm⟩
      · exact hd
      · cases he
      · obtain ⟨k, s, z, a, b, c, d, pa, pb, pc, pd, g1, g2, g3, g4, g5, g6, g7, g8⟩ := (h.met _ hm).ex
        obtain rfl := h1.uniq g1
        obtain rfl := h2.uniq g2
        simp only [cPl] at hn
        rw [ih pa pc a c (by omega) g3 g5 g7, ih pb pd b d (by omega) g4 g6 g8]
  exact key _ p q t u (Nat.le_refl _) ha hb h.root
end
end
end Go.Proofs.YtfjepjkbflcjbaaGreatDoor
namespace Go.Proofs.YtfjepjkbflcjbaaGreatDoor
section
section
open Go Go.RowKit
attribute [local go_sem ↓] Go.wp_at_zero Go.wp_at_succ
attribute [local go_sem] eq4
theorem ceqIn_ptr (n q q' : Nat) (w : World) (h : IsC w q) (h' : IsC w q') : (Op.equalIn (n + 1) 23 (ndPtr q) (ndPtr q')).run Tryz.prog w = .ok (q == q') w := by
  have u3 := Tryz.underlying23
  rw [Op.equalIn]
  simp only [Sem.run_bind, run_underlying Tryz.underlying23, Result.andThen_ok]
  go_simp
  by_cases hq : q = q'
  · subst hq
    rw [run_sameAddr_same]; simp
  · obtain ⟨c, t, hc⟩ := h
    obtain ⟨c', t', hc'⟩ := h'
    rw [run_sameAddr_other w (fun e => hq (congrArg Addr.block e)) hc hc']
    simp [hq]
theorem ceq_pair (a b c d : Nat) (w : World) (ha : IsC w a) (hb : IsC w b) (hc : IsC w c) (hd : IsC w d) : (Op.equal 41 (.agg #[ndPtr a, ndPtr b]) (.agg #[ndPtr c, ndPtr d])).run Tryz.prog w = .ok (a == c && b == d) w := by
  have e1 := ceqIn_ptr 9998 a c w ha hc
  have e2 := ceqIn_ptr 9998 b d w hb hd
  have u3 := Tryz.underlying23
  unfold Op.equal
  rw [show Op.maxDepth = 9999 + 1 from rfl, Op.equalIn]
  simp only [Sem.run_bind, run_underlying Tryz.underlying41, Result.andThen_ok]
  have a3 := Tryz.isAgg23
  have z3 := Tryz.sizeOf23
  have hst : Tryz.prog.stoodInHeld 41 = false := by kernel_rfl
  simp only [show (Sem.run Tryz.prog program w) = .ok Tryz.prog w from rfl, Result.andThen_ok, hst, Bool.false_eq_true, if_false, List.forIn_toArray, List.forIn_cons, List.forIn_nil]
  go_simp
  by_cases h1 : a = c <;> by_cases h2 : b = d <;> simp [h1, h2]
theorem ceq_prV (p q : Nat × Nat) (w : World) (hp : IsCC w p) (hq : IsCC w q) : (Op.equal 41 (prV p) (prV q)).run Tryz.prog w = .ok (decide (p = q)) w := by
  rw [ceq_pair p.1 p.2 q.1 q.2 w hp.1 hp.2 hq.1 hq.2]
  congr 1
  obtain ⟨a, b⟩ := p
  obtain ⟨c, d⟩ := q
  by_cases h1 : a = c <;> by_cases h2 : b = d <;> simp [h1, h2]
theorem cfind_pr (q : Nat × Nat) (w : World) (hq0 : IsCC w q) : ∀ (es : List MapEntry) (D : List (Nat × Nat)) (i : Nat), (∀ p ∈ D, IsCC w p) → EntP es D → (Instr.findAsking 41 (prV q) es i).run Tryz.prog w = .ok (lookP D q i) w
  | [], [], i, _, _ => by simp [Instr.findAsking, lookP]
  | [], p :: D, i, _, h => by simp [EntP] at h
  | e :: es, [], i, _, h => by simp [EntP] at h
  | e :: es, p :: D, i, hD, h => by
    simp only [EntP, List.map_cons, List.cons.injEq, Prod.mk.injEq] at h
    obtain ⟨⟨h1, h2⟩, h3⟩ := h
    have ih := cfind_pr q w hq0 es D (i + 1) (fun p hp => hD p (List.mem_cons_of_mem _ hp)) h3
    rw [Instr.findAsking, lookP]
    simp only [Sem.run_bind, h1, ceq_prV q p w hq0 (hD p (List.mem_cons_self ..)), Result.andThen_ok]
    by_cases hq : q = p
    · simp [hq, h2]
    · simp only [hq, if_false]
      exact ih
theorem cfindNow_pr (q : Nat × Nat) : ∀ (es : List MapEntry) (D : List (Nat × Nat)) (i : Nat), EntP es D → D ≠ [] → ∀ d, Tryz.prog.underlying 41 = some d → Instr.findNow d (prV q) es i = none
  | [], [], _, _, h, _, _ => absurd rfl h
  | [], p :: D, _, h, _, _, _ => by simp [EntP] at h
  | e :: es, [], _, h, _, _, _ => by simp [EntP] at h
  | e :: es, p :: D, i, h, _, d, hd => by
    simp only [EntP, List.map_cons, List.cons.injEq, Prod.mk.injEq] at h
    have hd' := Tryz.underlying41
    rw [hd] at hd'
    obtain rfl := Option.some.inj hd'
    rw [Instr.findNow, h.1.1]
    rfl
theorem cfindKey_pr (q : Nat × Nat) (w : World) (es : List MapEntry) (D : List (Nat × Nat)) (hq0 : IsCC w q) (hD : ∀ p ∈ D, IsCC w p) (h : EntP es D) : (Instr.findKey 41 (prV q) es).run Tryz.prog w = .ok (lookP D q 0) w := by
  unfold Instr.findKey
  simp only [Sem.run_bind, run_underlying Tryz.underlying41, Result.andThen_ok]
  cases D with
  | nil =>
    have he : es = [] := by simpa [EntP] using h
    subst he
    simp [Instr.findNow, lookP]
  | cons p D =>
    rw [cfindNow_pr q es (p :: D) 0 h (by simp) _ Tryz.underlying41]
    exact cfind_pr q w hq0 es (p :: D) 0 hD h
theorem cck_ptr (n q : Nat) (e : Bool) (w : World) : (Instr.checkKey e (n + 1) 23 (ndPtr q)).run Tryz.prog w = .ok () w := by
  unfold Instr.checkKey
  simp only [Sem.run_bind, run_underlying Tryz.underlying23, Result.andThen]
  rfl
theorem ccheckKey_pr (q : Nat × Nat) (e : Bool) (w : World) : (Instr.checkKey e 10000 41 (prV q)).run Tryz.prog w = .ok () w := by
  rw [show (10000 : Nat) = 9999 + 1 from rfl]
  unfold Instr.checkKey
  have c1 := cck_ptr 9998 q.1 e w
  have c2 := cck_ptr 9998 q.2 e w
  have a3 := Tryz.isAgg23
  have z3 := Tryz.sizeOf23
  simp only [Sem.run_bind, run_underlying Tryz.underlying41, Result.andThen_ok, List.forIn_toArray, List.forIn_cons, List.forIn_nil]
  go_simp
/-- A look-up in such a map. -/
theorem clookup_pr {w : World} {b : Nat} {q : Nat × Nat} {D : List (Nat × Nat)} (h : PrMap w b D) (hq : IsCC w q) (hD : ∀ p ∈ D, IsCC w p) :
    (Instr.lookup 39 (.map (some b)) (prV q) true).run Tryz.prog w = .ok (.tuple #[.agg #[], .bool (decide (q ∈ D))]) w := by
  obtain ⟨es, clock, hb, he⟩ := h
  have hz : (zeroValue 48).run Tryz.prog w = .ok (.agg #[]) w := by kernel_rfl
  have hf := cfindKey_pr q w es.toList D hq hD he
  unfold Instr.lookup
  simp only [Sem.run_bind, run_underlying Tryz.underlying39, Result.andThen_ok, Sem.run_pure, MapKept.run_getObj_map hb, ccheckKey_pr, hf]
  rcases look_mem D q 0 with ⟨h1, h2⟩ | ⟨h1, j, h2⟩
  · rw [h2, decide_eq_false h1]
    simp [hz]
  · rw [h2, decide_eq_true h1]
    simp
/-- A pair not met is stored. -/
theorem cupdate_pr {w : World} {b : Nat} {q : Nat × Nat} {D : List (Nat × Nat)} (h : PrMap w b D) (hq : IsCC w q) (hD : ∀ p ∈ D, IsCC w p) (hn : q ∉ D) :
    ∃ w', (Instr.mapUpdate 39 (.map (some b)) (prV q) (.agg #[])).run Tryz.prog w = .ok () w' ∧ PrMap w' b (D ++ [q]) ∧ w.grownBy w' (some b) := by
  obtain ⟨es, clock, hb, he⟩ := h
  have hlt := Reg.size_of_get hb
  have hf := cfindKey_pr q w es.toList D hq hD he
  have grown : ∀ o, w.grownBy { w with heap := w.heap.setIfInBounds b o } (some b) := fun o =>
    ⟨rfl, rfl, rfl, by simp, fun k hk hne => by
      show (w.heap.setIfInBounds b o)[k]? = w.heap[k]?
      rw [Array.getElem?_setIfInBounds_ne (fun e => hne (by rw [e]))]⟩
  have got : ∀ o, ({ w with heap := w.heap.setIfInBounds b o } : World).heap[b]? = some o := fun o => by
    show (w.heap.setIfInBounds b o)[b]? = some o
    simp [hlt]
  unfold Instr.mapUpdate
  simp only [Sem.run_bind, run_underlying Tryz.underlying39, Result.andThen_ok, MapKept.run_getObj_map hb, ccheckKey_pr, hf]
  rw [lookP_none hn]
  simp only [MapKept.run_setObj_map _ hb]
  refine ⟨_, rfl, ⟨_, _, got _, ?_⟩, grown _⟩
  simp only [EntP, Array.toList_push, List.map_append, List.map_cons, List.map_nil]
  rw [show es.toList.map (fun e => (e.key, e.val)) = _ from he]
end
section
open Go Go.RowKit
attribute [local go_sem ↓] Go.wp_at_zero Go.wp_at_succ
attribute [local go_sem] eq4
theorem kbin_ptr (q q' : Option Nat) (W : World) (h : IsK W q) (h' : IsK W q') : (binOp .eql 23 (kPtr q) (kPtr q')).run Tryz.prog W = .ok (.bool (q == q')) W := by
  simp only [binOp]
  simp [keq_ptr q q' W h h']
def centC (e : Option Nat × Option Nat) : List Value := [kPtr e.1, kPtr e.2]
theorem centC_len (S : List (Option Nat × Option Nat)) : (S.flatMap centC).length = S.length * 2 := by
  induction S with
  | nil => rfl
  | cons s S ih => simp [centC, ih]; omega
/-- The pairs that wait, and those that were met, in memory. -/
structure CmAt (w wr : World) (S : List (Option Nat × Option Nat)) (D : List (Nat × Nat)) (v : Value) : Prop where
  bel : Below w.heap.size w wr
  row : wr.ownsRow (w.heap.size + 1) 41 2 v S.length (S.flatMap centC)
  map : PrMap wr w.heap.size D
theorem CmAt.below {w wr w' : World} {S : List (Option Nat × Option Nat)} {D : List (Nat × Nat)} {v : Value} (h : CmAt w wr S D v) (hb : Below wr.heap.size wr w') : CmAt w w' S D v := by
  refine ⟨h.bel.trans (hb.mono h.bel.size), ownsKeep h.row (grown_below none hb) (fun g _ e => by cases e), ?_⟩
  obtain ⟨es, c, h1, h2⟩ := h.map
  exact ⟨es, c, below_kept hb h1, h2⟩
/-- The last pair, and the slice without it. -/
theorem CmAt.last {w wr : World} {S : List (Option Nat × Option Nat)} {x : Option Nat × Option Nat} {D : List (Nat × Nat)} {v : Value} (h : CmAt w wr (S ++ [x]) D v) :
    ∃ g cap, v = .slice (some ⟨g, 0, none⟩) (S.length + 1) cap ∧ S.length + 1 ≤ cap ∧ wr.cell? ⟨g, S.length * 2, none⟩ = some (kPtr x.1) ∧ wr.cell? ⟨g, S.length * 2 + 1, none⟩ = some (kPtr x.2) ∧ CmAt w wr S D (.slice (some ⟨g, 0, none⟩) S.length cap) := by
  have hl : (S ++ [x]).length = S.length + 1 := by simp
  rcases h.row.2 with ⟨_, h0⟩ | ⟨g, cap, cur, rfl, hb, hh, hn, hm, hs, ht⟩
  · rw [hl] at h0; omega
  · rw [hl] at hn ht ⊢
    have key : ∀ j u, ((S ++ [x]).flatMap centC)[j]? = some u → wr.cell? ((⟨g, 0, none⟩ : Addr).add j) = some u := h.row.cells (g := g) rfl
    have ha : ∀ j, (⟨g, 0, none⟩ : Addr).add j = ⟨g, j, none⟩ := fun j => by unfold Addr.add; split <;> simp_all
    have k0 := key (S.length * 2) (kPtr x.1) (by rw [List.flatMap_append, List.getElem?_append_right (by rw [centC_len]; omega), centC_len]; simp [centC])
    have k1 := key (S.length * 2 + 1) (kPtr x.2) (by rw [List.flatMap_append, List.getElem?_append_right (by rw [centC_len]; omega), centC_len]; simp [centC])
    rw [ha] at k0 k1
    refine ⟨g, cap, rfl, hn, k0, k1, h.bel, ⟨by rw [centC_len], .inr ⟨g, cap, cur, rfl, hb, hh, by omega, hm, hs, ?_⟩⟩, h.map⟩
    have : (cur.toList.take ((S.length + 1) * 2)).take (S.length * 2) = ((S ++ [x]).flatMap centC).take (S.length * 2) := by rw [ht]
    rw [List.take_take, Nat.min_eq_left (by omega)] at this
    rw [this, List.flatMap_append, List.take_append_of_le_length (by rw [centC_len]; omega), List.take_of_length_le (by rw [centC_len]; omega)]
theorem cm_at0 (w : World) (a b : Option Nat) : CmAt w ((w.alloc (.map #[] 0)).alloc (.cells #[kPtr a, kPtr b] 41)) [(a, b)] [] (.slice (some ⟨w.heap.size + 1, 0, none⟩) 1 1) := by
  have b1 := below1 w (.map #[] 0)
  have b2 := below1 (w.alloc (.map #[] 0)) (.cells #[kPtr a, kPtr b] 41)
  have he := heap_new (w.alloc (.map #[] 0)) (.cells #[kPtr a, kPtr b] 41)
  rw [World.size_alloc] at he
  exact ⟨b1.trans (b2.mono b1.size), ⟨rfl, .inr ⟨_, 1, _, rfl, Nat.le_refl _, he, by simp, by decide, rfl, rfl⟩⟩, ⟨#[], 0, below_kept b2 (heap_new _ _), rfl⟩⟩
theorem CmAt.met {w wr w1 : World} {S : List (Option Nat × Option Nat)} {D D' : List (Nat × Nat)} {v : Value} (h : CmAt w wr S D v) (hg : wr.grownBy w1 (some w.heap.size)) (hM : PrMap w1 w.heap.size D') : CmAt w w1 S D' v :=
  ⟨⟨hg.os.trans h.bel.os, hg.tape.trans h.bel.tape, hg.output.trans h.bel.output, Nat.le_trans h.bel.size hg.size, fun k hk => (hg.block k (Nat.lt_of_lt_of_le hk h.bel.size) (fun e => by have := Option.some.inj e; omega)).trans (h.bel.block k hk)⟩, ownsKeep h.row hg (fun g hb e => by have := (ownsLt h.row hb).1; have := Option.some.inj e; omega), hM⟩
/-- Two more pairs wait. -/
theorem CmAt.push {w wr Y w4 : World} {S : List (Option Nat × Option Nat)} {D : List (Nat × Nat)} {v v4 : Value} {x y : Option Nat × Option Nat} (h : CmAt w wr S D v) (ho : w4.ownsRow (w.heap.size + 1) 41 2 v4 (S.length + 2) (S.flatMap centC ++ [kPtr x.1, kPtr x.2, kPtr y.1, kPtr y.2])) (hY : Below wr.heap.size wr Y) (hg : Y.grownBy w4 v.ownBlock) : CmAt w w4 (S ++ [x] ++ [y]) D v4 := by
  have hsz := h.bel.size
  have hml : w.heap.size < wr.heap.size := Reg.size_of_get h.map.choose_spec.choose_spec.1
  have hne : ∀ k, k < w.heap.size + 1 → some k ≠ v.ownBlock := fun k hk e => by have := (ownsLt h.row e.symm).1; omega
  have hs4 := hg.size
  have hYs := hY.size
  refine ⟨⟨hg.os.trans (hY.os.trans h.bel.os), hg.tape.trans (hY.tape.trans h.bel.tape), hg.output.trans (hY.output.trans h.bel.output), by omega, fun k hk => (hg.block k (by omega) (hne k (by omega))).trans ((hY.block k (by omega)).trans (h.bel.block k hk))⟩, ?_, ?_⟩
  · rw [List.append_assoc, List.flatMap_append, List.length_append]
    simpa [centC] using ho
  · obtain ⟨es, c, h1, h2⟩ := h.map
    exact ⟨es, c, (hg.block _ (by omega) (hne _ (by omega))).trans ((hY.block _ hml).trans h1), h2⟩
theorem csnoc_of {S : List CEnt} {n : Nat} (h : S.length = n + 1) : ∃ S' x, S = S' ++ [x] ∧ S'.length = n := by
  refine ⟨S.dropLast, S.getLast (by intro e; rw [e] at h; simp at h), (List.dropLast_concat_getLast _).symm, by rw [List.length_dropLast, h]; rfl⟩
theorem Tryz.cinfoPair : (Tryz.prog.info? 41).map (fun i => (i.zero, i.size, i.bytes)) = some (some (.agg #[.pointer none, .pointer none]), 2, 16) := by kernel_rfl
theorem CoAt.isK {w : World} {c : Co} {p : Option Nat} (h : CoAt w c (kPtr p)) : IsK w p := by
  intro a e
  subst e
  rcases c with _ | ⟨k, s, z, a', b'⟩
  · cases h
  · obtain ⟨q, va, vb, e, hq, _⟩ := h.head
    injection e with e; injection e with e; injection e with e
    subst e
    exact ⟨_, _, hq⟩
theorem CoAt.nodeOf {w : World} {c : Co} {p : Nat} (h : CoAt w c (kPtr (some p))) : ∃ k s z a b pa pb, c = .node k s z a b ∧ w.heap[p]? = some (coOb k s z (kPtr pa) (kPtr pb)) ∧ CoAt w a (kPtr pa) ∧ CoAt w b (kPtr pb) := by
  have up : ∀ {c : Co} {v : Value}, CoAt w c v → ∃ q, v = kPtr q := by
    intro c v h
    rcases h.nil_iff with ⟨_, rfl⟩ | ⟨_, q, rfl⟩
    · exact ⟨none, rfl⟩
    · exact ⟨some q, rfl⟩
  rcases c with _ | ⟨k, s, z, a, b⟩
  · cases h
  · obtain ⟨q, va, vb, e, hq, ha, hb⟩ := h.head
    injection e with e; injection e with e; injection e with e
    subst e
    obtain ⟨pa, rfl⟩ := up ha
    obtain ⟨pb, rfl⟩ := up hb
    exact ⟨k, s, z, a, b, pa, pb, rfl, hq, ha, hb⟩
end
end
end Go.Proofs.YtfjepjkbflcjbaaGreatDoor
namespace Go.Proofs.YtfjepjkbflcjbaaGreatDoor
section
section
open Go Go.RowKit
attribute [local go_sem ↓] Go.wp_at_zero Go.wp_at_succ
attribute [local go_sem] eq4
theorem ccells_at {w : World} {g : Nat} {xs : List Value} {t : TypeId} (h : w.heap[g]? = some (.cells xs.toArray t (0, 0))) : ∀ j u, xs[j]? = some u → w.cell? ((⟨g, 0, none⟩ : Addr).add j) = some u := by
  intro j u hj
  have ha : (⟨g, 0, none⟩ : Addr).add j = ⟨g, j, none⟩ := by unfold Addr.add; split <;> simp_all
  rw [ha, Joins.cell_of_block h j, List.getElem?_toArray, hj]
open Classical in
/-- Whether two cores are the same. -/
noncomputable def eqC (t u : Co) : Bool := decide (t = u)
theorem eqC_true {t u : Co} : eqC t u = true ↔ t = u := by simp [eqC]
theorem eqW4_eq {s t : W4} : eqW4 s t = true ↔ s = t := by
  obtain ⟨a, b, c, d⟩ := s
  obtain ⟨a', b', c', d'⟩ := t
  simp [eqW4, and_assoc]
theorem CsInv.no {w : World} {p q : Option Nat} {t u : Co} {S : List CEnt} {D : List (Nat × Nat)} {x : CEnt} (h : CsInv w p q t u (S ++ [x]) D) (hne : x.t ≠ x.u) : eqC t u = false := by
  cases e : eqC t u with
  | false => rfl
  | true => exact absurd (h.nec (eqC_true.1 e) x (by simp)) hne
theorem cdrawn (w : World) (n : Nat) : Below w.heap.size w (w.drewN n) := ⟨rfl, rfl, rfl, Nat.le_refl _, fun _ _ => rfl⟩
def cpr (e : CEnt) : Option Nat × Option Nat := (e.p, e.q)
theorem CoAt.ne_nil {w : World} {t u : Co} {j : Nat} (h : CoAt w t (kPtr none)) (h' : CoAt w u (kPtr (some j))) : t ≠ u ∧ u ≠ t := by
  rcases h.nil_iff with ⟨rfl, _⟩ | ⟨_, q, e⟩
  · rcases h'.nil_iff with ⟨_, e⟩ | ⟨h2, _⟩
    · cases e
    · exact ⟨h2.symm, h2⟩
  · cases e
set_option maxRecDepth 100000 in
set_option maxHeartbeats 4000000 in
theorem calike_any (k k' : Int) (s s' : W4) (z z' : Bool) (va vb va' vb' : Value) (p q : Nat) (w : World) (hp : w.heap[p]? = some (coOb k s z va vb)) (hq : w.heap[q]? = some (coOb k' s' z' va' vb')) :
    Calls Tryz.prog 14 #[ndPtr p, ndPtr q] w fun e w' => e = .returned (.bool (k == k' && (eqW4 s s' && z == z'))) ∧ Below w.heap.size w w' := by
  have n0 := Joins.cell_of_block hp 0
  have n1 := Joins.cell_of_block hp 1
  have n2 := Joins.cell_of_block hp 2
  have n3 := Joins.cell_of_block hp 3
  have n4 := Joins.cell_of_block hp 4
  have n5 := Joins.cell_of_block hp 5
  have m0 := Joins.cell_of_block hq 0
  have m1 := Joins.cell_of_block hq 1
  have m2 := Joins.cell_of_block hq 2
  have m3 := Joins.cell_of_block hq 3
  have m4 := Joins.cell_of_block hq 4
  have m5 := Joins.cell_of_block hq 5
  simp only [List.getElem?_toArray, List.getElem?_cons_zero, List.getElem?_cons_succ] at n0 n1 n2 n3 n4 n5 m0 m1 m2 m3 m4 m5
  have HA : Hid ((k == k' && (eqW4 s s' && z == z')) = (k == k' && (eqW4 s s' && z == z'))) := qhid rfl
  obtain ⟨res, hres⟩ : ∃ r, r = (k == k' && (eqW4 s s' && z == z')) := ⟨_, rfl⟩
  rw [← hres]
  have HA := qhid hres
  clear hres hp hq
  by_cases e0 : (k == k') = true
  · by_cases e1 : (s.a == s'.a && s.b == s'.b && s.c == s'.c && s.d == s'.d) = true
    · have e1m : eqW4 s s' = true := e1
      by_cases e2 : (z == z') = true
      · skip
        have HF : Hid (res = true) := qhid (by rw [HA.out, e0, e1m, e2]; rfl)
        clear HA
        go_enter Tryz.func14, Tryz.ntmps14
        go_wp2_with fail
        go_quiet (fail)
        go_wp2_with fail
        exact bodyPost_ret (v := .bool true) (by simp [results, Tryz.results14, go_sem]) rfl ⟨by rw [HF.out], ⟨rfl, rfl, rfl, Nat.le_refl _, fun _ _ => rfl⟩⟩
      · replace e2 : (z == z') = false := by simpa only [Bool.not_eq_true] using e2
        have HF : Hid (res = false) := qhid (by rw [HA.out, e0, e1m, e2]; rfl)
        clear HA
        go_enter Tryz.func14, Tryz.ntmps14
        go_wp2_with fail
        go_quiet (fail)
        go_wp2_with fail
        exact bodyPost_ret (v := .bool false) (by simp [results, Tryz.results14, go_sem]) rfl ⟨by rw [HF.out], ⟨rfl, rfl, rfl, Nat.le_refl _, fun _ _ => rfl⟩⟩
    · replace e1 : (s.a == s'.a && s.b == s'.b && s.c == s'.c && s.d == s'.d) = false := by simpa only [Bool.not_eq_true] using e1
      have e1m : eqW4 s s' = false := e1
      have HF : Hid (res = false) := qhid (by rw [HA.out, e0, e1m]; rfl)
      clear HA
      go_enter Tryz.func14, Tryz.ntmps14
      go_wp2_with fail
      go_quiet (fail)
      go_wp2_with fail
      exact bodyPost_ret (v := .bool false) (by simp [results, Tryz.results14, go_sem]) rfl ⟨by rw [HF.out], ⟨rfl, rfl, rfl, Nat.le_refl _, fun _ _ => rfl⟩⟩
  · replace e0 : (k == k') = false := by simpa only [Bool.not_eq_true] using e0
    have HF : Hid (res = false) := qhid (by rw [HA.out, e0]; rfl)
    clear HA
    go_enter Tryz.func14, Tryz.ntmps14
    go_wp2_with fail
    go_quiet (fail)
    go_wp2_with fail
    exact bodyPost_ret (v := .bool false) (by simp [results, Tryz.results14, go_sem]) rfl ⟨by rw [HF.out], ⟨rfl, rfl, rfl, Nat.le_refl _, fun _ _ => rfl⟩⟩
def cs13 (g : Nat) (m : Nat) (vc : Nat) (xb : Nat) (pi : Nat) (qj : Nat) (pa : Option Addr) (pb : Option Addr) (pc : Option Addr) (pd : Option Addr) (gh : Nat × Value) : Nat → Value
  | 0 => .slice (some ⟨g, 0, none⟩) m vc
  | 1 => .pointer (some ⟨xb, 0, none⟩)
  | 2 => .pointer (some ⟨pi, 0, none⟩)
  | 3 => .pointer (some ⟨pi, 0, none⟩)
  | 4 => .pointer (some ⟨pi, 7, none⟩)
  | 5 => .pointer pb
  | 6 => .pointer (some ⟨xb, 1, none⟩)
  | 7 => .pointer (some ⟨qj, 0, none⟩)
  | 8 => .pointer (some ⟨qj, 0, none⟩)
  | 9 => .pointer (some ⟨qj, 7, none⟩)
  | 10 => .pointer pd
  | 11 => .agg #[.pointer pb, .pointer pd]
  | 12 => .pointer (some ⟨xb, 0, none⟩)
  | 13 => .pointer (some ⟨pi, 0, none⟩)
  | 14 => .pointer (some ⟨pi, 0, none⟩)
  | 15 => .pointer (some ⟨pi, 6, none⟩)
  | 16 => .pointer pa
  | 17 => .pointer (some ⟨xb, 1, none⟩)
  | 18 => .pointer (some ⟨qj, 0, none⟩)
  | 19 => .pointer (some ⟨qj, 0, none⟩)
  | 20 => .pointer (some ⟨qj, 6, none⟩)
  | 21 => .pointer pc
  | 22 => .agg #[.pointer pa, .pointer pc]
  | 23 => .slice (some ⟨gh.1, 0, none⟩) 2 2
  | 24 => gh.2
  | 25 => gh.2
  | _ => undef
theorem cs13_a {g : Nat} {m : Nat} {vc : Nat} {xb : Nat} {pi : Nat} {qj : Nat} {pa : Option Addr} {pb : Option Addr} {pc : Option Addr} {pd : Option Addr} {gh : Nat × Value} {gx} {j : Nat} (h23 : j ≠ 23) : cs13 g m vc xb pi qj pa pb pc pd (gx, gh.2) j = cs13 g m vc xb pi qj pa pb pc pd gh j := by
  unfold cs13
  split <;> first | rfl | exact absurd rfl ‹_›
theorem cs13_b {g : Nat} {m : Nat} {vc : Nat} {xb : Nat} {pi : Nat} {qj : Nat} {pa : Option Addr} {pb : Option Addr} {pc : Option Addr} {pd : Option Addr} {gh : Nat × Value} {gx} {j : Nat} (h24 : j ≠ 24) (h25 : j ≠ 25) : cs13 g m vc xb pi qj pa pb pc pd (gh.1, gx) j = cs13 g m vc xb pi qj pa pb pc pd gh j := by
  unfold cs13
  split <;> first | rfl | exact absurd rfl ‹_›
set_option maxRecDepth 100000 in
set_option maxHeartbeats 8000000 in
theorem csame_any (t0 u0 : Co) (a b : Option Nat) (w : World) (ha : CoAt w t0 (kPtr a)) (hb : CoAt w u0 (kPtr b)) (hs : cPl t0 ≤ 1099511000000) :
    Calls Tryz.prog 7 #[kPtr a, kPtr b] w fun e w' => e = .returned (.bool (eqC t0 u0)) ∧ Below w.heap.size w w' := by
  have HA := qhid ha
  have HB := qhid hb
  have HI := qhid (CsInv.start ha hb)
  have HM := qhid (cm_at0 w a b)
  have hmm := @run_makeMap Tryz.prog
  clear ha hb
  obtain ⟨res, hres⟩ : ∃ res, res = eqC t0 u0 := ⟨_, rfl⟩
  rw [← hres]
  have HRES := qhid hres
  clear hres
  go_enter Tryz.func7, Tryz.ntmps7
  go_wp2_with fail
  clear hmm
  go_loopg [6] (cPl t0) (fun rr l wr => Hid (rr ≤ 1099511000000) ∧ ∃ (S : List CEnt) (D : List (Nat × Nat)) (vp : Option Addr) (n vc : Nat), l = .slice vp n vc ∧ Hid (S.length = n) ∧ Hid (cEsz S = rr) ∧ Hid (CsInv w a b t0 u0 S D) ∧ Hid (CmAt w wr (S.map cpr) D l))
  case atStart => exact ⟨qhid hs, _, _, _, 1, 1, rfl, qhid rfl, qhid (by simp [cEsz]), HI, HM⟩
  case round =>
    clear HI HM
    obtain ⟨HRR, S, D, vp, n, vc, rfl, HN, HSZ, HI, HM⟩ := hrel
    by_cases h0 : n = 0
    · subst h0
      have hS0 : S = [] := List.length_eq_zero_iff.1 HN.out
      subst hS0
      have HF : Hid (res = true) := qhid (by rw [HRES.out, eqC_true]; exact HI.out.done HA.out HB.out)
      go_wp2_with fail
      exact bodyPost_ret (v := .bool true) (by simp [results, Tryz.results7, go_sem]) rfl ⟨by rw [HF.out], HM.out.bel⟩
    · obtain ⟨m, rfl⟩ : ∃ m, n = m + 1 := ⟨n - 1, by omega⟩
      obtain ⟨S', ⟨p, q, t, u⟩, rfl, hS'⟩ := csnoc_of HN.out
      have hml : CmAt w wr (S'.map cpr ++ [(p, q)]) D (.slice vp (m + 1) vc) := by have := HM.out; rwa [List.map_append] at this
      obtain ⟨g, cap, hv, hcap, k0, k1, hm'⟩ := hml.last
      have e1 : vp = some ⟨g, 0, none⟩ := by injection hv
      have e3 : vc = cap := by injection hv
      clear hv
      subst e1 e3
      rw [List.length_map, hS'] at hcap k0 k1 hm'
      have HX : Hid (CoAt w t (kPtr p) ∧ CoAt w u (kPtr q)) := qhid (HI.out.at_ ⟨p, q, t, u⟩ (by simp))
      have HM2 := qhid hm'
      have HS' := qhid hS'
      have hmc : m ≤ vc := by omega
      have hm40 : m ≤ 1099511000000 := by have h1 := cEsz_len (S' ++ [⟨p, q, t, u⟩]); rw [HSZ.out, HN.out] at h1; have := HRR.out; omega
      have hwm : wrap64 (m : Int) = (m : Int) := by simp [wrap64]; omega
      have HSZ2 : Hid (cEsz S' + cPl t = gk) := qhid (by rw [← HSZ.out, cEsz_snoc])
      obtain ⟨ap, hap⟩ : ∃ x : Option Addr, x = p.map fun a => (⟨a, 0, none⟩ : Addr) := ⟨_, rfl⟩
      obtain ⟨aq, haq⟩ : ∃ x : Option Addr, x = q.map fun a => (⟨a, 0, none⟩ : Addr) := ⟨_, rfl⟩
      replace k0 : wr.cell? ⟨g, m * 2, none⟩ = some (.pointer ap) := by rw [hap]; exact k0
      replace k1 : wr.cell? ⟨g, m * 2 + 1, none⟩ = some (.pointer aq) := by rw [haq]; exact k1
      have HAP := qhid hap
      have HAQ := qhid haq
      have HGX0 : Hid (g < wr.heap.size) := qhid (ownsLt HM.out.row rfl).2
      clear hm' hml hS' hap haq
      go_upto_region 6 with fail
      obtain ⟨W1, hW1⟩ : ∃ X, X = wr.alloc (.cells #[.pointer ap, .pointer aq] 41) := ⟨_, rfl⟩
      change Code.wp _ _ _ _ (wr.alloc (.cells #[.pointer ap, .pointer aq] 41))
      rw [← hW1]
      have hb1 : Below wr.heap.size wr W1 := by rw [hW1]; exact below1 _ _
      have HM1 := qhid (HM2.out.below hb1)
      have HXB : Hid (W1.heap[wr.heap.size]? = some (.cells #[.pointer ap, .pointer aq] 41)) := qhid (by rw [hW1]; exact heap_new _ _)
      obtain ⟨xb, hxb⟩ : ∃ b, b = wr.heap.size := ⟨_, rfl⟩
      rw [← hxb] at HXB ⊢
      have HBX : Hid (w.heap.size + 1 ≤ xb) := qhid (by have := HM.out.bel.size; have := Reg.size_of_get (HM.out.map.choose_spec.choose_spec.1); omega)
      have HGX : Hid (g ≠ xb) := qhid (by have := HGX0.out; rw [hxb]; omega)
      have hbe : (binOp .eql 23 (.pointer ap) (.pointer aq)).run Tryz.prog W1 = .ok (.bool (p == q)) W1 := by
        rw [HAP.out, HAQ.out]
        exact kbin_ptr p q W1 (HX.out.1.up HM1.out.bel).isK (HX.out.2.up HM1.out.bel).isK
      clear hW1 hb1 hxb k0 k1 hcap HM HM2 HGX0
      have k0 := Joins.cell_of_block HXB.out 0
      have k1 := Joins.cell_of_block HXB.out 1
      simp only [List.getElem?_toArray, List.getElem?_cons_zero, List.getElem?_cons_succ] at k0 k1
      by_cases hpq : p = q
      · have e0 : (p == q) = true := by simpa using hpq
        rw [e0] at hbe
        have HI2 := qhid (HI.out.pop HA.out HB.out (.inl (by subst hpq; exact HX.out.1.uniq HX.out.2)))
        have hpos := cPl_pos t
        clear hpq e0
        go_wp2_with fail
        go_roundg (cEsz S')
        case rel => exact ⟨qhid (by have := HRR.out; have := HSZ2.out; omega), S', D, _, m, vc, rfl, HS', qhid rfl, HI2, HM1⟩
        case measure => have := HSZ2.out; omega
      · have e0 : (p == q) = false := by simpa using hpq
        rw [e0] at hbe
        clear e0
        rcases p with _ | pi
        · obtain rfl : ap = none := HAP.out
          rcases q with _ | qj
          · exact absurd rfl hpq
          · have HF : Hid (res = false) := qhid (by rw [HRES.out]; exact HI.out.no (CoAt.ne_nil HX.out.1 HX.out.2).1)
            obtain rfl : aq = some ⟨qj, 0, none⟩ := HAQ.out
            clear hpq
            go_wp2_with fail
            exact bodyPost_ret (v := .bool false) (by simp [results, Tryz.results7, go_sem]) rfl ⟨by rw [HF.out], HM1.out.bel⟩
        · obtain rfl : ap = some ⟨pi, 0, none⟩ := HAP.out
          rcases q with _ | qj
          · have HF : Hid (res = false) := qhid (by rw [HRES.out]; exact HI.out.no (CoAt.ne_nil HX.out.2 HX.out.1).2)
            obtain rfl : aq = none := HAQ.out
            clear hpq
            go_wp2_with fail
            exact bodyPost_ret (v := .bool false) (by simp [results, Tryz.results7, go_sem]) rfl ⟨by rw [HF.out], HM1.out.bel⟩
          · obtain rfl : aq = some ⟨qj, 0, none⟩ := HAQ.out
            clear hpq HAP HAQ
            obtain ⟨k, s, z, c1, c2, la, lb, rfl, hpb, hpa1, hpa2⟩ := HX.out.1.nodeOf
            obtain ⟨k', s', z', d1, d2, lc, ld, rfl, hqb, hqa1, hqa2⟩ := HX.out.2.nodeOf
            have HC : Hid (CoAt w c1 (kPtr la) ∧ CoAt w c2 (kPtr lb) ∧ CoAt w d1 (kPtr lc) ∧ CoAt w d2 (kPtr ld)) := qhid ⟨hpa1, hpa2, hqa1, hqa2⟩
            have HP0 := qhid hpb
            have HQ0 := qhid hqb
            have AL := qhid (calike_any k k' s s' z z' _ _ _ _ pi qj W1 (below_kept HM1.out.bel hpb) (below_kept HM1.out.bel hqb))
            obtain ⟨al, hal⟩ : ∃ al, al = (k == k' && (eqW4 s s' && z == z')) := ⟨_, rfl⟩
            rw [← hal] at AL
            have HAL := qhid hal
            clear hal hpb hqb hpa1 hpa2 hqa1 hqa2
            go_wp2_with fail
            refine AL.out.mono ?_
            rintro e W2 ⟨rfl, hb2⟩
            have HM2 := qhid (HM1.out.below hb2)
            have HXB2 := qhid (below_kept hb2 HXB.out)
            clear hb2 AL HM1 HXB k0 k1 hbe
            cases al with
            | false =>
              have HF : Hid (res = false) := qhid (by
                rw [HRES.out]
                refine HI.out.no (fun e => ?_)
                have e : Co.node k s z c1 c2 = .node k' s' z' d1 d2 := e
                injection e with e1 e2 e3
                have := HAL.out
                rw [e1, e2, e3, show eqW4 s' s' = true from eqW4_eq.2 rfl] at this
                simp at this)
              go_wp2_with fail
              exact bodyPost_ret (v := .bool false) (by simp [results, Tryz.results7, go_sem]) rfl ⟨by rw [HF.out], HM2.out.bel⟩
            | true =>
              have hal := HAL.out
              rw [eq_comm, Bool.and_eq_true, Bool.and_eq_true, eqW4_eq] at hal
              obtain ⟨ek, es, ez⟩ := hal
              obtain rfl : k = k' := by simpa using ek
              obtain rfl : z = z' := by simpa using ez
              subst es
              clear ek ez HAL
              obtain ⟨pa, haa⟩ : ∃ x : Option Addr, x = la.map fun a => (⟨a, 0, none⟩ : Addr) := ⟨_, rfl⟩
              obtain ⟨pb, hab⟩ : ∃ x : Option Addr, x = lb.map fun a => (⟨a, 0, none⟩ : Addr) := ⟨_, rfl⟩
              obtain ⟨pc, hac⟩ : ∃ x : Option Addr, x = lc.map fun a => (⟨a, 0, none⟩ : Addr) := ⟨_, rfl⟩
              obtain ⟨pd, had⟩ : ∃ x : Option Addr, x = ld.map fun a => (⟨a, 0, none⟩ : Addr) := ⟨_, rfl⟩
              have HVE : Hid (kPtr la = .pointer pa ∧ kPtr lb = .pointer pb ∧ kPtr lc = .pointer pc ∧ kPtr ld = .pointer pd) := qhid (by rw [haa, hab, hac, had]; exact ⟨rfl, rfl, rfl, rfl⟩)
              have HPB0 : Hid (w.heap[pi]? = some (coOb k s z (.pointer pa) (.pointer pb))) := qhid (by rw [haa, hab]; exact HP0.out)
              have HQB0 : Hid (w.heap[qj]? = some (coOb k s z (.pointer pc) (.pointer pd))) := qhid (by rw [hac, had]; exact HQ0.out)
              clear haa hab hac had HP0 HQ0
              obtain ⟨rb, hrb⟩ : ∃ x, x = (la == lc && lb == ld) := ⟨_, rfl⟩
              have HRB := qhid hrb
              clear hrb
              go_upto_region 9 with fail
              go_cut [73] (fun v wx => v = .bool rb ∧ Hid (∃ n, wx = W2.drewN n))
              case first =>
                rename_i J K' hR hK
                have heA : ∀ n, (binOp .eql 23 (.pointer pa) (.pointer pc)).run Tryz.prog (W2.drewN n) = .ok (.bool (la == lc)) (W2.drewN n) := fun n => by
                  rw [← HVE.out.1, ← HVE.out.2.2.1]
                  have hbd := HM2.out.bel.trans ((cdrawn W2 n).mono HM2.out.bel.size)
                  exact kbin_ptr la lc _ (HC.out.1.up hbd).isK (HC.out.2.2.1.up hbd).isK
                have heB : ∀ n, (binOp .eql 23 (.pointer pb) (.pointer pd)).run Tryz.prog (W2.drewN n) = .ok (.bool (lb == ld)) (W2.drewN n) := fun n => by
                  rw [← HVE.out.2.1, ← HVE.out.2.2.2]
                  have hbd := HM2.out.bel.trans ((cdrawn W2 n).mono HM2.out.bel.size)
                  exact kbin_ptr lb ld _ (HC.out.2.1.up hbd).isK (HC.out.2.2.2.up hbd).isK
                have k0 := Joins.cell_of_block HXB2.out 0
                have k1 := Joins.cell_of_block HXB2.out 1
                have hbp := below_kept HM2.out.bel HPB0.out
                have hbq := below_kept HM2.out.bel HQB0.out
                have n6 := Joins.cell_of_block hbp 6
                have n7 := Joins.cell_of_block hbp 7
                have m6 := Joins.cell_of_block hbq 6
                have m7 := Joins.cell_of_block hbq 7
                simp only [List.getElem?_toArray, List.getElem?_cons_zero, List.getElem?_cons_succ] at k0 k1 n6 n7 m6 m7
                clear hbp hbq
                obtain ⟨b1, hb1⟩ : ∃ x, x = (la == lc) := ⟨_, rfl⟩
                obtain ⟨b2, hb2⟩ : ∃ x, x = (lb == ld) := ⟨_, rfl⟩
                rw [← hb1] at heA
                rw [← hb2] at heB
                have HRB2 : Hid (rb = (b1 && b2)) := qhid (by rw [HRB.out, hb1, hb2])
                clear hb1 hb2
                cases b1 <;> cases b2
                all_goals
                  go_wp2_with fail
                  go_quiet (fail)
                  refine hK _ _ (Met.intro (hR _ _ ?_))
                  (repeat apply Exists.intro)
                  refine ⟨?_, rfl⟩
                  exact ⟨by rw [HRB2.out] <;> rfl, qhid ⟨_, rfl⟩⟩
              case rest =>
                obtain ⟨rfl, HWN⟩ := hcut
                have hbw : Below W2.heap.size W2 wc := by
                  obtain ⟨n, e⟩ := HWN.out
                  rw [e]; exact cdrawn W2 n
                have HM3 := qhid (HM2.out.below hbw)
                have HXB3 := qhid (below_kept hbw HXB2.out)
                have hpos := cPl_pos (.node k s z c1 c2)
                clear hbw HWN HM2 HXB2
                cases rb with
                | true =>
                  have hAB : la = lc ∧ lb = ld := by have := HRB.out.symm; simpa using this
                  have HI2 := qhid (HI.out.pop HA.out HB.out (.inl (by
                    obtain ⟨rfl, rfl⟩ := hAB
                    show Co.node k s z c1 c2 = .node k s z d1 d2
                    rw [HC.out.1.uniq HC.out.2.2.1, HC.out.2.1.uniq HC.out.2.2.2])))
                  clear hAB
                  go_wp2_with fail
                  go_roundg (cEsz S')
                  case rel => exact ⟨qhid (by have := HRR.out; have := HSZ2.out; omega), S', D, _, m, vc, rfl, HS', qhid rfl, HI2, HM3⟩
                  case measure => have := HSZ2.out; omega
                | false =>
                  have HCP : Hid (IsCC w (pi, qj)) := qhid ⟨⟨_, _, HPB0.out⟩, ⟨_, _, HQB0.out⟩⟩
                  have HDC : Hid (∀ d ∈ D, IsCC w d) := qhid (fun d hd => by
                    obtain ⟨_, _, _, _, _, _, _, _, _, _, _, h1, h2, _⟩ := (HI.out.met d hd).ex
                    exact ⟨h1.isK _ rfl, h2.isK _ rfl⟩)
                  have hlk := clookup_pr (w := wc) HM3.out.map ⟨HCP.out.1.below HM3.out.bel, HCP.out.2.below HM3.out.bel⟩ (fun d hd => ⟨(HDC.out d hd).1.below HM3.out.bel, (HDC.out d hd).2.below HM3.out.bel⟩)
                  have hb4 := below1 wc (.cells #[] 48)
                  have HM4 := qhid (HM3.out.below hb4)
                  have HXB4 := qhid (below_kept hb4 HXB3.out)
                  have k0 := Joins.cell_of_block HXB3.out 0
                  have k1 := Joins.cell_of_block HXB3.out 1
                  simp only [List.getElem?_toArray, List.getElem?_cons_zero, List.getElem?_cons_succ] at k0 k1
                  clear hb4
                  by_cases hin : (pi, qj) ∈ D
                  · have HI2 := qhid (HI.out.pop HA.out HB.out (.inr ⟨pi, qj, rfl, rfl, hin⟩))
                    rw [decide_eq_true hin] at hlk
                    clear hin
                    go_wp2_with fail
                    go_roundg (cEsz S')
                    case rel => exact ⟨qhid (by have := HRR.out; have := HSZ2.out; omega), S', D, _, m, vc, rfl, HS', qhid rfl, HI2, HM4⟩
                    case measure => have := HSZ2.out; omega
                  · rw [decide_eq_false hin] at hlk
                    have r0 := Joins.cell_of_block HXB4.out 0
                    have r1 := Joins.cell_of_block HXB4.out 1
                    simp only [List.getElem?_toArray, List.getElem?_cons_zero, List.getElem?_cons_succ] at r0 r1
                    obtain ⟨W5, hup, hM5, hg5⟩ := cupdate_pr (w := wc.alloc (.cells #[] 48)) HM4.out.map ⟨HCP.out.1.below HM4.out.bel, HCP.out.2.below HM4.out.bel⟩ (fun d hd => ⟨(HDC.out d hd).1.below HM4.out.bel, (HDC.out d hd).2.below HM4.out.bel⟩) hin
                    have HM5 := qhid (HM4.out.met hg5 hM5)
                    have HXB : Hid (W5.heap[xb]? = some (.cells #[.pointer (some ⟨pi, 0, none⟩), .pointer (some ⟨qj, 0, none⟩)] 41)) := qhid ((hg5.block xb (Reg.size_of_get HXB4.out) (fun e => by have := Option.some.inj e; have := HBX.out; omega)).trans HXB4.out)
                    have HPB := qhid (below_kept HM5.out.bel HPB0.out)
                    have HQB := qhid (below_kept HM5.out.bel HQB0.out)
                    have HI4 := qhid (HI.out.expand rfl rfl rfl rfl HC.out.1 HC.out.2.1 HC.out.2.2.1 HC.out.2.2.2)
                    obtain ⟨xs, hxs⟩ : ∃ xs, xs = (S'.map cpr).flatMap centC := ⟨_, rfl⟩
                    have HROW : Hid (W5.ownsRow (w.heap.size + 1) 41 2 (.slice (some ⟨g, 0, none⟩) m vc) m xs) := qhid (by have := HM5.out.row; rw [List.length_map, HS'.out] at this; rw [hxs]; exact this)
                    have HXS := qhid hxs
                    have HBS : Hid (w.heap.size + 1 ≤ W5.heap.size) := qhid (by have := HBX.out; have := Reg.size_of_get HXB.out; omega)
                    have HLN : Hid (m ≤ 1099511000000) := qhid hm40
                    clear hin hg5 hM5 hxs HXB3 HM3 HM4 HXB4 HPB0 HQB0
                    go_upto_region 13 with fail
                    clear r0 r1 k0 k1 hup hlk
                    refine Reg.wp_region_H (cs13 g m vc xb pi qj pa pb pc pd) (Reg.AppS W5 23 24 (fun gg X => X.heap[gg.1]? = some (.cells ([.pointer pb, .pointer pd, .pointer pa, .pointer pc] : List Value).toArray 41)) (fun gg X => X.ownsRow (w.heap.size + 1) 41 2 gg.2 (m + 2) (xs ++ [.pointer pb, .pointer pd, .pointer pa, .pointer pc]) ∧ ∃ Y, Below W5.heap.size W5 Y ∧ Y.grownBy X (.slice (some ⟨g, 0, none⟩) m vc : Value).ownBlock)) (0, undef) [0, 1, 2, 3, 4, 5, 6, 7, 8, 9, 10, 11, 12, 13, 14, 15, 16, 17, 18, 19, 20, 21, 22, 23, 24, 25] (by rfl) (by kernel_rfl) (by kernel_rfl) ?_ ?_ ?_
                    · exact Reg.AppS.start _ _
                    · skip
                      refine ⟨fun gh listed A X hI hcl hin hun hall => ⟨Reg.wanted_none rfl, ?_⟩, ?_⟩
                      · have e6 := hI.evn (d := 6) (j := 25) (by kernel_rfl) (Reg.un_of_reach hcl (n := 25) (i := 0) (by kernel_rfl) (by simpa using hun)) rfl
                        have HS := hI.st
                        have hX := HS.bel (Reg.un_of_reach hcl (n := 24) (i := 0) (by kernel_rfl) (by simpa using hun))
                        have HX := qhid hX
                        clear hX
                        clear hI
                        unfold Reg.Yields
                        go_simp
                        exact ⟨gh, fun _ _ => rfl, rfl, HS.same (by decide) (by decide)⟩
                      refine ⟨fun gh listed A X hI hcl hin hun hall => ⟨Reg.wanted_none rfl, ?_⟩, ?_⟩
                      · have e7 := hI.evo (d := 7) (by kernel_rfl) rfl
                        have HS := hI.st
                        have hX := HS.bel (Reg.un_of_reach hcl (n := 24) (i := 1) (by kernel_rfl) (by simpa using hun))
                        have HX := qhid hX
                        clear hX
                        clear hI
                        unfold Reg.Yields
                        go_simp
                        exact ⟨gh, fun _ _ => rfl, rfl, HS.same (by decide) (by decide)⟩
                      refine ⟨fun gh listed A X hI hcl hin hun hall => ⟨Reg.wanted_none rfl, ?_⟩, ?_⟩
                      · have e86 : A.tmps[86]? = some (.pointer (some ⟨xb, 0, none⟩)) := hI.ev (i := 1) (d := 86) (by rfl) (hall ⟨1, .data⟩ (by simp) rfl)
                        have HS := hI.st
                        have hX := HS.bel (Reg.un_of_reach hcl (n := 24) (i := 2) (by kernel_rfl) (by simpa using hun))
                        have hb := (hX.block _ (Reg.size_of_get HXB.out)).trans HXB.out
                        have y0 := Joins.cell_of_block hb 0
                        have hyl := Reg.size_of_get hb
                        simp only [List.getElem?_toArray, List.getElem?_cons_zero] at y0
                        clear hb
                        have HX := qhid hX
                        clear hX
                        clear hI
                        unfold Reg.Yields
                        go_simp
                        exact ⟨gh, fun _ _ => rfl, rfl, HS.same (by decide) (by decide)⟩
                      refine ⟨fun gh listed A X hI hcl hin hun hall => ⟨Reg.wanted_none rfl, ?_⟩, ?_⟩
                      · have e87 : A.tmps[87]? = some (.pointer (some ⟨pi, 0, none⟩)) := hI.ev (i := 2) (d := 87) (by rfl) (hall ⟨2, .data⟩ (by simp) rfl)
                        have HS := hI.st
                        have hX := HS.bel (Reg.un_of_reach hcl (n := 24) (i := 3) (by kernel_rfl) (by simpa using hun))
                        have hb := (hX.block _ (Reg.size_of_get HPB.out)).trans HPB.out
                        have y7 := Joins.cell_of_block hb 7
                        have hyl := Reg.size_of_get hb
                        simp only [List.getElem?_toArray, List.getElem?_cons_zero, List.getElem?_cons_succ] at y7
                        clear hb
                        have HX := qhid hX
                        clear hX
                        clear hI
                        unfold Reg.Yields
                        go_simp
                        exact ⟨gh, fun _ _ => rfl, rfl, HS.same (by decide) (by decide)⟩
                      refine ⟨fun gh listed A X hI hcl hin hun hall => ⟨Reg.wanted_none rfl, ?_⟩, ?_⟩
                      · have e88 : A.tmps[88]? = some (.pointer (some ⟨pi, 0, none⟩)) := hI.ev (i := 3) (d := 88) (by rfl) (hall ⟨3, .data⟩ (by simp) rfl)
                        have HS := hI.st
                        have hX := HS.bel (Reg.un_of_reach hcl (n := 24) (i := 4) (by kernel_rfl) (by simpa using hun))
                        have hb := (hX.block _ (Reg.size_of_get HPB.out)).trans HPB.out
                        have y7 := Joins.cell_of_block hb 7
                        have hyl := Reg.size_of_get hb
                        simp only [List.getElem?_toArray, List.getElem?_cons_zero, List.getElem?_cons_succ] at y7
                        clear hb
                        have HX := qhid hX
                        clear hX
                        clear hI
                        unfold Reg.Yields
                        go_simp
                        exact ⟨gh, fun _ _ => rfl, rfl, HS.same (by decide) (by decide)⟩
                      refine ⟨fun gh listed A X hI hcl hin hun hall => ⟨Reg.wanted_none rfl, ?_⟩, ?_⟩
                      · have e89 : A.tmps[89]? = some (.pointer (some ⟨pi, 7, none⟩)) := hI.ev (i := 4) (d := 89) (by rfl) (hall ⟨4, .data⟩ (by simp) rfl)
                        have HS := hI.st
                        have hX := HS.bel (Reg.un_of_reach hcl (n := 24) (i := 5) (by kernel_rfl) (by simpa using hun))
                        have hb := (hX.block _ (Reg.size_of_get HPB.out)).trans HPB.out
                        have y7 := Joins.cell_of_block hb 7
                        have hyl := Reg.size_of_get hb
                        simp only [List.getElem?_toArray, List.getElem?_cons_zero, List.getElem?_cons_succ] at y7
                        clear hb
                        have HX := qhid hX
                        clear hX
                        clear hI
                        unfold Reg.Yields
                        go_simp
                        exact ⟨gh, fun _ _ => rfl, rfl, HS.same (by decide) (by decide)⟩
                      refine ⟨fun gh listed A X hI hcl hin hun hall => ⟨Reg.wanted_none rfl, ?_⟩, ?_⟩
                      · have e7 := hI.evo (d := 7) (by kernel_rfl) rfl
                        have HS := hI.st
                        have hX := HS.bel (Reg.un_of_reach hcl (n := 24) (i := 6) (by kernel_rfl) (by simpa using hun))
                        have HX := qhid hX
                        clear hX
                        clear hI
                        unfold Reg.Yields
                        go_simp
                        exact ⟨gh, fun _ _ => rfl, rfl, HS.same (by decide) (by decide)⟩
                      refine ⟨fun gh listed A X hI hcl hin hun hall => ⟨Reg.wanted_none rfl, ?_⟩, ?_⟩
                      · have e91 : A.tmps[91]? = some (.pointer (some ⟨xb, 1, none⟩)) := hI.ev (i := 6) (d := 91) (by rfl) (hall ⟨6, .data⟩ (by simp) rfl)
                        have HS := hI.st
                        have hX := HS.bel (Reg.un_of_reach hcl (n := 24) (i := 7) (by kernel_rfl) (by simpa using hun))
                        have hb := (hX.block _ (Reg.size_of_get HXB.out)).trans HXB.out
                        have y1 := Joins.cell_of_block hb 1
                        have hyl := Reg.size_of_get hb
                        simp only [List.getElem?_toArray, List.getElem?_cons_zero, List.getElem?_cons_succ] at y1
                        clear hb
                        have HX := qhid hX
                        clear hX
                        clear hI
                        unfold Reg.Yields
                        go_simp
                        exact ⟨gh, fun _ _ => rfl, rfl, HS.same (by decide) (by decide)⟩
                      refine ⟨fun gh listed A X hI hcl hin hun hall => ⟨Reg.wanted_none rfl, ?_⟩, ?_⟩
                      · have e92 : A.tmps[92]? = some (.pointer (some ⟨qj, 0, none⟩)) := hI.ev (i := 7) (d := 92) (by rfl) (hall ⟨7, .data⟩ (by simp) rfl)
                        have HS := hI.st
                        have hX := HS.bel (Reg.un_of_reach hcl (n := 24) (i := 8) (by kernel_rfl) (by simpa using hun))
                        have hb := (hX.block _ (Reg.size_of_get HQB.out)).trans HQB.out
                        have y7 := Joins.cell_of_block hb 7
                        have hyl := Reg.size_of_get hb
                        simp only [List.getElem?_toArray, List.getElem?_cons_zero, List.getElem?_cons_succ] at y7
                        clear hb
                        have HX := qhid hX
                        clear hX
                        clear hI
                        unfold Reg.Yields
                        go_simp
                        exact ⟨gh, fun _ _ => rfl, rfl, HS.same (by decide) (by decide)⟩
                      refine ⟨fun gh listed A X hI hcl hin hun hall => ⟨Reg.wanted_none rfl, ?_⟩, ?_⟩
                      · have e93 : A.tmps[93]? = some (.pointer (some ⟨qj, 0, none⟩)) := hI.ev (i := 8) (d := 93) (by rfl) (hall ⟨8, .data⟩ (by simp) rfl)
                        have HS := hI.st
                        have hX := HS.bel (Reg.un_of_reach hcl (n := 24) (i := 9) (by kernel_rfl) (by simpa using hun))
                        have hb := (hX.block _ (Reg.size_of_get HQB.out)).trans HQB.out
                        have y7 := Joins.cell_of_block hb 7
                        have hyl := Reg.size_of_get hb
                        simp only [List.getElem?_toArray, List.getElem?_cons_zero, List.getElem?_cons_succ] at y7
                        clear hb
                        have HX := qhid hX
                        clear hX
                        clear hI
                        unfold Reg.Yields
                        go_simp
                        exact ⟨gh, fun _ _ => rfl, rfl, HS.same (by decide) (by decide)⟩
                      refine ⟨fun gh listed A X hI hcl hin hun hall => ⟨Reg.wanted_none rfl, ?_⟩, ?_⟩
                      · have e94 : A.tmps[94]? = some (.pointer (some ⟨qj, 7, none⟩)) := hI.ev (i := 9) (d := 94) (by rfl) (hall ⟨9, .data⟩ (by simp) rfl)
                        have HS := hI.st
                        have hX := HS.bel (Reg.un_of_reach hcl (n := 24) (i := 10) (by kernel_rfl) (by simpa using hun))
                        have hb := (hX.block _ (Reg.size_of_get HQB.out)).trans HQB.out
                        have y7 := Joins.cell_of_block hb 7
                        have hyl := Reg.size_of_get hb
                        simp only [List.getElem?_toArray, List.getElem?_cons_zero, List.getElem?_cons_succ] at y7
                        clear hb
                        have HX := qhid hX
                        clear hX
                        clear hI
                        unfold Reg.Yields
                        go_simp
                        exact ⟨gh, fun _ _ => rfl, rfl, HS.same (by decide) (by decide)⟩
                      refine ⟨fun gh listed A X hI hcl hin hun hall => ⟨Reg.wanted_none rfl, ?_⟩, ?_⟩
                      · have e90 : A.tmps[90]? = some (.pointer pb) := hI.ev (i := 5) (d := 90) (by rfl) (hall ⟨5, .data⟩ (by simp) rfl)
                        have e95 : A.tmps[95]? = some (.pointer pd) := hI.ev (i := 10) (d := 95) (by rfl) (hall ⟨10, .data⟩ (by simp) rfl)
                        have HS := hI.st
                        have hX := HS.bel (Reg.un_of_reach hcl (n := 24) (i := 11) (by kernel_rfl) (by simpa using hun))
                        have HX := qhid hX
                        clear hX
                        clear hI
                        unfold Reg.Yields
                        go_simp
                        exact ⟨gh, fun _ _ => rfl, rfl, HS.same (by decide) (by decide)⟩
                      refine ⟨fun gh listed A X hI hcl hin hun hall => ⟨Reg.wanted_none rfl, ?_⟩, ?_⟩
                      · have e7 := hI.evo (d := 7) (by kernel_rfl) rfl
                        have HS := hI.st
                        have hX := HS.bel (Reg.un_of_reach hcl (n := 24) (i := 12) (by kernel_rfl) (by simpa using hun))
                        have HX := qhid hX
                        clear hX
                        clear hI
                        unfold Reg.Yields
                        go_simp
                        exact ⟨gh, fun _ _ => rfl, rfl, HS.same (by decide) (by decide)⟩
                      refine ⟨fun gh listed A X hI hcl hin hun hall => ⟨Reg.wanted_none rfl, ?_⟩, ?_⟩
                      · have e97 : A.tmps[97]? = some (.pointer (some ⟨xb, 0, none⟩)) := hI.ev (i := 12) (d := 97) (by rfl) (hall ⟨12, .data⟩ (by simp) rfl)
                        have HS := hI.st
                        have hX := HS.bel (Reg.un_of_reach hcl (n := 24) (i := 13) (by kernel_rfl) (by simpa using hun))
                        have hb := (hX.block _ (Reg.size_of_get HXB.out)).trans HXB.out
                        have y0 := Joins.cell_of_block hb 0
                        have hyl := Reg.size_of_get hb
                        simp only [List.getElem?_toArray, List.getElem?_cons_zero] at y0
                        clear hb
                        have HX := qhid hX
                        clear hX
                        clear hI
                        unfold Reg.Yields
                        go_simp
                        exact ⟨gh, fun _ _ => rfl, rfl, HS.same (by decide) (by decide)⟩
                      refine ⟨fun gh listed A X hI hcl hin hun hall => ⟨Reg.wanted_none rfl, ?_⟩, ?_⟩
                      · have e98 : A.tmps[98]? = some (.pointer (some ⟨pi, 0, none⟩)) := hI.ev (i := 13) (d := 98) (by rfl) (hall ⟨13, .data⟩ (by simp) rfl)
                        have HS := hI.st
                        have hX := HS.bel (Reg.un_of_reach hcl (n := 24) (i := 14) (by kernel_rfl) (by simpa using hun))
                        have hb := (hX.block _ (Reg.size_of_get HPB.out)).trans HPB.out
                        have y6 := Joins.cell_of_block hb 6
                        have hyl := Reg.size_of_get hb
                        simp only [List.getElem?_toArray, List.getElem?_cons_zero, List.getElem?_cons_succ] at y6
                        clear hb
                        have HX := qhid hX
                        clear hX
                        clear hI
                        unfold Reg.Yields
                        go_simp
                        exact ⟨gh, fun _ _ => rfl, rfl, HS.same (by decide) (by decide)⟩
                      refine ⟨fun gh listed A X hI hcl hin hun hall => ⟨Reg.wanted_none rfl, ?_⟩, ?_⟩
                      · have e99 : A.tmps[99]? = some (.pointer (some ⟨pi, 0, none⟩)) := hI.ev (i := 14) (d := 99) (by rfl) (hall ⟨14, .data⟩ (by simp) rfl)
                        have HS := hI.st
                        have hX := HS.bel (Reg.un_of_reach hcl (n := 24) (i := 15) (by kernel_rfl) (by simpa using hun))
                        have hb := (hX.block _ (Reg.size_of_get HPB.out)).trans HPB.out
                        have y6 := Joins.cell_of_block hb 6
                        have hyl := Reg.size_of_get hb
                        simp only [List.getElem?_toArray, List.getElem?_cons_zero, List.getElem?_cons_succ] at y6
                        clear hb
                        have HX := qhid hX
                        clear hX
                        clear hI
                        unfold Reg.Yields
                        go_simp
                        exact ⟨gh, fun _ _ => rfl, rfl, HS.same (by decide) (by decide)⟩
                      refine ⟨fun gh listed A X hI hcl hin hun hall => ⟨Reg.wanted_none rfl, ?_⟩, ?_⟩
                      · have e100 : A.tmps[100]? = some (.pointer (some ⟨pi, 6, none⟩)) := hI.ev (i := 15) (d := 100) (by rfl) (hall ⟨15, .data⟩ (by simp) rfl)
                        have HS := hI.st
                        have hX := HS.bel (Reg.un_of_reach hcl (n := 24) (i := 16) (by kernel_rfl) (by simpa using hun))
                        have hb := (hX.block _ (Reg.size_of_get HPB.out)).trans HPB.out
                        have y6 := Joins.cell_of_block hb 6
                        have hyl := Reg.size_of_get hb
                        simp only [List.getElem?_toArray, List.getElem?_cons_zero, List.getElem?_cons_succ] at y6
                        clear hb
                        have HX := qhid hX
                        clear hX
                        clear hI
                        unfold Reg.Yields
                        go_simp
                        exact ⟨gh, fun _ _ => rfl, rfl, HS.same (by decide) (by decide)⟩
                      refine ⟨fun gh listed A X hI hcl hin hun hall => ⟨Reg.wanted_none rfl, ?_⟩, ?_⟩
                      · have e7 := hI.evo (d := 7) (by kernel_rfl) rfl
                        have HS := hI.st
                        have hX := HS.bel (Reg.un_of_reach hcl (n := 24) (i := 17) (by kernel_rfl) (by simpa using hun))
                        have HX := qhid hX
                        clear hX
                        clear hI
                        unfold Reg.Yields
                        go_simp
                        exact ⟨gh, fun _ _ => rfl, rfl, HS.same (by decide) (by decide)⟩
                      refine ⟨fun gh listed A X hI hcl hin hun hall => ⟨Reg.wanted_none rfl, ?_⟩, ?_⟩
                      · have e102 : A.tmps[102]? = some (.pointer (some ⟨xb, 1, none⟩)) := hI.ev (i := 17) (d := 102) (by rfl) (hall ⟨17, .data⟩ (by simp) rfl)
                        have HS := hI.st
                        have hX := HS.bel (Reg.un_of_reach hcl (n := 24) (i := 18) (by kernel_rfl) (by simpa using hun))
                        have hb := (hX.block _ (Reg.size_of_get HXB.out)).trans HXB.out
                        have y1 := Joins.cell_of_block hb 1
                        have hyl := Reg.size_of_get hb
                        simp only [List.getElem?_toArray, List.getElem?_cons_zero, List.getElem?_cons_succ] at y1
                        clear hb
                        have HX := qhid hX
                        clear hX
                        clear hI
                        unfold Reg.Yields
                        go_simp
                        exact ⟨gh, fun _ _ => rfl, rfl, HS.same (by decide) (by decide)⟩
                      refine ⟨fun gh listed A X hI hcl hin hun hall => ⟨Reg.wanted_none rfl, ?_⟩, ?_⟩
                      · have e103 : A.tmps[103]? = some (.pointer (some ⟨qj, 0, none⟩)) := hI.ev (i := 18) (d := 103) (by rfl) (hall ⟨18, .data⟩ (by simp) rfl)
                        have HS := hI.st
                        have hX := HS.bel (Reg.un_of_reach hcl (n := 24) (i := 19) (by kernel_rfl) (by simpa using hun))
                        have hb := (hX.block _ (Reg.size_of_get HQB.out)).trans HQB.out
                        have y6 := Joins.cell_of_block hb 6
                        have hyl := Reg.size_of_get hb
                        simp only [List.getElem?_toArray, List.getElem?_cons_zero, List.getElem?_cons_succ] at y6
                        clear hb
                        have HX := qhid hX
                        clear hX
                        clear hI
                        unfold Reg.Yields
                        go_simp
                        exact ⟨gh, fun _ _ => rfl, rfl, HS.same (by decide) (by decide)⟩
                      refine ⟨fun gh listed A X hI hcl hin hun hall => ⟨Reg.wanted_none rfl, ?_⟩, ?_⟩
                      · have e104 : A.tmps[104]? = some (.pointer (some ⟨qj, 0, none⟩)) := hI.ev (i := 19) (d := 104) (by rfl) (hall ⟨19, .data⟩ (by simp) rfl)
                        have HS := hI.st
                        have hX := HS.bel (Reg.un_of_reach hcl (n := 24) (i := 20) (by kernel_rfl) (by simpa using hun))
                        have hb := (hX.block _ (Reg.size_of_get HQB.out)).trans HQB.out
                        have y6 := Joins.cell_of_block hb 6
                        have hyl := Reg.size_of_get hb
                        simp only [List.getElem?_toArray, List.getElem?_cons_zero, List.getElem?_cons_succ] at y6
                        clear hb
                        have HX := qhid hX
                        clear hX
                        clear hI
                        unfold Reg.Yields
                        go_simp
                        exact ⟨gh, fun _ _ => rfl, rfl, HS.same (by decide) (by decide)⟩
                      refine ⟨fun gh listed A X hI hcl hin hun hall => ⟨Reg.wanted_none rfl, ?_⟩, ?_⟩
                      · have e105 : A.tmps[105]? = some (.pointer (some ⟨qj, 6, none⟩)) := hI.ev (i := 20) (d := 105) (by rfl) (hall ⟨20, .data⟩ (by simp) rfl)
                        have HS := hI.st
                        have hX := HS.bel (Reg.un_of_reach hcl (n := 24) (i := 21) (by kernel_rfl) (by simpa using hun))
                        have hb := (hX.block _ (Reg.size_of_get HQB.out)).trans HQB.out
                        have y6 := Joins.cell_of_block hb 6
                        have hyl := Reg.size_of_get hb
                        simp only [List.getElem?_toArray, List.getElem?_cons_zero, List.getElem?_cons_succ] at y6
                        clear hb
                        have HX := qhid hX
                        clear hX
                        clear hI
                        unfold Reg.Yields
                        go_simp
                        exact ⟨gh, fun _ _ => rfl, rfl, HS.same (by decide) (by decide)⟩
                      refine ⟨fun gh listed A X hI hcl hin hun hall => ⟨Reg.wanted_none rfl, ?_⟩, ?_⟩
                      · have e101 : A.tmps[101]? = some (.pointer pa) := hI.ev (i := 16) (d := 101) (by rfl) (hall ⟨16, .data⟩ (by simp) rfl)
                        have e106 : A.tmps[106]? = some (.pointer pc) := hI.ev (i := 21) (d := 106) (by rfl) (hall ⟨21, .data⟩ (by simp) rfl)
                        have HS := hI.st
                        have hX := HS.bel (Reg.un_of_reach hcl (n := 24) (i := 22) (by kernel_rfl) (by simpa using hun))
                        have HX := qhid hX
                        clear hX
                        clear hI
                        unfold Reg.Yields
                        go_simp
                        exact ⟨gh, fun _ _ => rfl, rfl, HS.same (by decide) (by decide)⟩
                      refine ⟨fun gh listed A X hI hcl hin hun hall => ⟨Reg.wanted_none rfl, ?_⟩, ?_⟩
                      · have e96 : A.tmps[96]? = some (.agg #[.pointer pb, .pointer pd]) := hI.ev (i := 11) (d := 96) (by rfl) (hall ⟨11, .data⟩ (by simp) rfl)
                        have e107 : A.tmps[107]? = some (.agg #[.pointer pa, .pointer pc]) := hI.ev (i := 22) (d := 107) (by rfl) (hall ⟨22, .data⟩ (by simp) rfl)
                        have HS := hI.st
                        have hX := HS.bel (Reg.un_of_reach hcl (n := 24) (i := 23) (by kernel_rfl) (by simpa using hun))
                        have HX := qhid hX
                        clear hX
                        clear hI
                        unfold Reg.Yields
                        go_simp
                        exact ⟨(X.heap.size, gh.2), fun j hj => cs13_a (j := j) (fun e => by rw [e] at hj; rw [hj] at hun; cases hun), rfl, HS.first (by decide) (Reg.un_of_reach hcl (n := 24) (i := 23) (by kernel_rfl) (by simpa using hun)) (below1 _ _) (heap_new _ _)⟩
                      refine ⟨fun gh listed A X hI hcl hin hun hall => ⟨Reg.wanted_none rfl, ?_⟩, ?_⟩
                      · have e85 : A.tmps[85]? = some (.slice (some ⟨g, 0, none⟩) m vc) := hI.ev (i := 0) (d := 85) (by rfl) (hall ⟨0, .data⟩ (by simp) rfl)
                        have e108 : A.tmps[108]? = some (.slice (some ⟨gh.1, 0, none⟩) 2 2) := hI.ev (i := 23) (d := 108) (by rfl) (hall ⟨23, .data⟩ (by simp) rfl)
                        have HS := hI.st
                        have hX := HS.bel (by simpa using hun)
                        have hP := HS.one (hall ⟨23, .data⟩ (by simp) rfl) (by simpa using hun)
                        have HX := qhid hX
                        clear hI hX
                        obtain ⟨i0, hif, hy0, hy1, hy2⟩ := info_parts Tryz.cinfoPair
                        have hrow := ownsBelow HROW.out HX.out
                        have hbs := HBS.out
                        have hln := HLN.out
                        have hsz := HX.out.size
                        refine Reg.yields_append_own (.tmp 85) (.tmp 108) 42 rfl (w.heap.size + 1) 41 i0 (.agg #[.pointer none, .pointer none]) 2 16 Tryz.underlying42 hif hy0 hy1 hy2 rfl (by decide) (.slice (some ⟨g, 0, none⟩) m vc) m xs (by simp [Act.eval, e85]) hrow ⟨gh.1, 0, none⟩ 2 2 [.pointer pb, .pointer pd, .pointer pa, .pointer pc] (by simp [Act.eval, e108]) rfl (ccells_at hP) (by intro u hu; simp only [List.mem_cons, List.not_mem_nil, or_false] at hu; rcases hu with rfl | rfl | rfl | rfl <;> rfl) (by unfold maxLen; omega) (by omega) (by omega) ?_
                        intro v' w' ho hg _
                        exact ⟨(gh.1, v'), fun j hj => cs13_b (j := j) (fun e => by rw [e] at hj; rw [hj] at hun; cases hun) (fun e => by rw [e] at hj; rw [Reg.closed_reach hcl 60 25 24 (by kernel_rfl) hj] at hun; cases hun), rfl, HS.last (by simpa using hin) ⟨ho, X, HX.out, hg⟩⟩
                      refine ⟨fun gh listed A X hI hcl hin hun hall => ⟨Reg.wanted_none rfl, ?_⟩, ?_⟩
                      · have e109 : A.tmps[109]? = some (gh.2) := hI.ev (i := 24) (d := 109) (by rfl) (hall ⟨24, .data⟩ (by simp) rfl)
                        have HS := hI.st
                        clear hI
                        unfold Reg.Yields
                        go_simp
                        exact ⟨gh, fun _ _ => rfl, rfl, HS.same (by decide) (by decide)⟩
                      trivial
                    · intro gh X hS
                      have HR := qhid (hS.done (by rfl))
                      clear hS
                      simp [Reg.finalTmps, Reg.dstAt, Reg.valOf, cs13]
                      obtain ⟨gi, gv⟩ := gh
                      obtain ⟨ho, Y, hY, hg⟩ := HR.out
                      obtain ⟨b4, c4, hs4⟩ : ∃ b c, gv = .slice b (m + 2) c := row_slice ho
                      subst hs4
                      have HPU := qhid (HM5.out.push (x := (lb, ld)) (y := (la, lc)) (by rw [List.length_map, HS'.out, ← HXS.out, HVE.out.1, HVE.out.2.1, HVE.out.2.2.1, HVE.out.2.2.2]; exact ho) hY hg)
                      clear ho hY hg HR
                      go_wp2_with fail
                      go_roundg (cEsz S' + cPl c2 + cPl c1)
                      case rel => exact ⟨qhid (by have := HRR.out; have h2 := HSZ2.out; simp only [cPl] at h2; omega), S' ++ [⟨lb, ld, c2, d2⟩] ++ [⟨la, lc, c1, d1⟩], D ++ [(pi, qj)], _, m + 2, _, rfl, qhid (by simp [HS'.out]), qhid (by rw [cEsz_snoc, cEsz_snoc]), HI4, qhid (by have := HPU.out; simpa [cpr] using this)⟩
                      case measure => have h2 := HSZ2.out; simp only [cPl] at h2; omega
end
end
end Go.Proofs.YtfjepjkbflcjbaaGreatDoor
