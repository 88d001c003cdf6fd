/- graph: the graphs that a seeker goes through; enter told. -/
import Derived.Test.YtghfodjefjijdaaGrL
import Derived.Test.YtghfodjefjijdaaRegionT
namespace Go.Proofs.Ytghfodjefjijdaa
section
open Go Go.RowKit Go.Shelf
theorem GrAt.low {w w' : World} {B gb tb n K C : Nat} {mp : Nat → Option Nat} {m : Nat → Nat → Bool} {cnt : Nat} (h : GrAt w B gb tb n K mp m cnt) (hC : gb < C ∧ tb < C ∧ ∀ i b, i < n → mp i = some b → b < C) (hb : Below C w w') : GrAt w' B gb tb n K mp m cnt :=
  { h with
    g := (hb.block gb hC.1).trans h.g
    t := (hb.block tb hC.2.1).trans h.t
    th := fun i b hi e => by
      obtain ⟨D, ⟨es, c, hm, r⟩, hD⟩ := h.th i b hi e
      exact ⟨D, ⟨es, c, (hb.block b (hC.2.2 i b hi e)).trans hm, r⟩, hD⟩ }
/-- A graph that is gone through. -/
structure G0 where
  B : Nat
  gb : Nat
  tb : Nat
  K : Nat
  mp : Nat → Option Nat
  m : Nat → Nat → Bool
  cnt : Nat
structure G0At (w : World) (C nt : Nat) (g : G0) : Prop where
  at_ : GrAt w g.B g.gb g.tb nt g.K g.mp g.m g.cnt
  lt : g.gb < C ∧ g.tb < C ∧ ∀ i b, i < nt → g.mp i = some b → b < C
  K : g.K ≤ 1000000
/-- The slice of them. -/
structure GrsAt (w : World) (C nt gp : Nat) (gs : List G0) : Prop where
  lt : gp < C
  cell : ∀ (j : Nat) (g : G0), gs[j]? = some g → w.cell? ⟨gp, j, none⟩ = some (.pointer (some ⟨g.gb, 0, none⟩)) ∧ G0At w C nt g
theorem GrsAt.low {w w' : World} {C nt gp : Nat} {gs : List G0} (h : GrsAt w C nt gp gs) (hb : Below C w w') : GrsAt w' C nt gp gs :=
  ⟨h.lt, fun j g hj => by
    obtain ⟨h1, h2⟩ := h.cell j g hj
    exact ⟨(hb.cell (p := ⟨gp, j, none⟩) h.lt).trans h1, ⟨h2.at_.low h2.lt hb, h2.lt, h2.K⟩⟩⟩
/-- The arrows of all of them. -/
def Es (gs : List G0) : Nat → Nat → Prop := fun u x => ∃ g ∈ gs, g.m u x = true
section
variable {w w' : World} {B sb mb lb kb n : Nat} {gv pv ov dv : Value} {F : List Fr} {s : Sk}
theorem SkAt.keepN {row : Option Nat} (h : SkAt w B sb mb lb kb n gv pv ov dv F s) (hg : w.grownBy w' row) (hr : ∀ r, row = some r → ∃ o : Obj, w.heap[r]? = some o ∧ o.isCells = false) : SkAt w' B sb mb lb kb n gv pv ov dv F s := by
  have ne : ∀ b cs t fr, w.heap[b]? = some (.cells cs t fr) → some b ≠ row := fun b cs t fr hb e => by
    obtain ⟨o, ho, hc⟩ := hr b e.symm
    rw [hb] at ho
    obtain rfl := Option.some.inj ho
    cases hc
  have nr : ∀ {e sz k : Nat} {v : Value} {xs : List Value}, w.ownsRow B e sz v k xs → ∀ g, v.ownBlock = some g → row ≠ some g := fun hr' g e e2 => by
    obtain ⟨o, ho, hc⟩ := row_isCells hr' g e
    obtain ⟨o2, ho2, hc2⟩ := hr g e2
    rw [ho] at ho2
    obtain rfl := Option.some.inj ho2
    rw [hc] at hc2
    cases hc2
  exact { h with
    sk := heap_kept h.sk hg (ne _ _ _ _ h.sk), me := heap_kept h.me hg (ne _ _ _ _ h.me), lo := heap_kept h.lo hg (ne _ _ _ _ h.lo), kn := heap_kept h.kn hg (ne _ _ _ _ h.kn)
    pr := ownsKeep h.pr hg (nr h.pr), opr := ownsKeep h.opr hg (nr h.opr), dr := ownsKeep h.dr hg (nr h.dr)
    lf := fun f hf => (h.lf f hf).kept hg (fun g hP hb => by obtain ⟨cs, fr, hb⟩ := hb; exact ⟨ne _ _ _ _ hb, hP⟩)
    bs := ⟨h.bs.1, h.bs.2.1, h.bs.2.2.1, h.bs.2.2.2.1, Nat.le_trans h.bs.2.2.2.2 hg.size⟩ }
/-- What lies behind all that a seeker has turns. -/
theorem SkAt.farB {row : Option Nat} {C : Nat} (h : SkAt w B sb mb lb kb n gv pv ov dv F s) (hg : w.grownBy w' row) (hC : sb < C ∧ mb < C ∧ lb < C ∧ kb < C ∧ (∀ g, pv.ownBlock = some g → g < C) ∧ (∀ g, ov.ownBlock = some g → g < C) ∧ (∀ g, dv.ownBlock = some g → g < C)) (hf : ∀ f ∈ F, ∀ (p : Option Addr) (k c : Nat), f.v = .slice p k c → ∀ a, p = some a → a.block < C) (hr : ∀ r, row = some r → C ≤ r) : SkAt w' B sb mb lb kb n gv pv ov dv F s := by
  have ne : ∀ b, b < C → some b ≠ row := fun b hb e => by have := hr b e.symm; omega
  refine { h with
    sk := heap_kept h.sk hg (ne _ hC.1), me := heap_kept h.me hg (ne _ hC.2.1), lo := heap_kept h.lo hg (ne _ hC.2.2.1), kn := heap_kept h.kn hg (ne _ hC.2.2.2.1)
    pr := ownsKeep h.pr hg (fun g e e2 => ne g (hC.2.2.2.2.1 g e) e2.symm), opr := ownsKeep h.opr hg (fun g e e2 => ne g (hC.2.2.2.2.2.1 g e) e2.symm), dr := ownsKeep h.dr hg (fun g e e2 => ne g (hC.2.2.2.2.2.2 g e) e2.symm)
    lf := fun f hf' => ?_
    bs := ⟨h.bs.1, h.bs.2.1, h.bs.2.2.1, h.bs.2.2.2.1, Nat.le_trans h.bs.2.2.2.2 hg.size⟩ }
  obtain ⟨p, cap, e, hc, hz, h1⟩ := h.lf f hf'
  refine ⟨p, cap, e, hc, fun a ha => Nat.lt_of_lt_of_le (hz a ha) hg.size, fun j x hx => ?_⟩
  obtain ⟨g, off, e2, hP, ⟨cs, fr, hb⟩, h2⟩ := h1 j x hx
  have hgC : g < C := hf f hf' p _ cap e _ e2
  exact ⟨g, off, e2, hP, ⟨cs, fr, heap_kept hb hg (ne g hgC)⟩, (Joins.cell_of_block (heap_kept hb hg (ne g hgC)) _).trans ((Joins.cell_of_block hb _).symm.trans h2)⟩
end
theorem Try.infoStep : (Try.prog.info? 78).map (fun i => (i.zero, i.size, i.bytes)) = some (some (.agg #[.int .i64 0, .slice none 0 0]), 2, 32) := by kernel_rfl
theorem cell_two_at (w : World) (t : TypeId) (u v : Value) : ∀ (j : Nat) (x : Value), ([u, v] : List Value)[j]? = some x → (w.alloc (.cells #[u, v] t)).cell? ((⟨w.heap.size, 0, none⟩ : Addr).add j) = some x := by
  intro j x h
  have hn := heap_new w (.cells #[u, v] t)
  have e : ((⟨w.heap.size, 0, none⟩ : Addr).add j) = ⟨w.heap.size, j, none⟩ := by simp [Addr.add]; intro h; exact h.symm
  rw [e, Joins.cell_of_block hn j, ← h]
  simp
/-- append to a slice of one's own, as one step of a region that draws. -/
theorem step_append_ownS {P : Program} {ops : Array Oper} {o : Oper} {a : Act} {w : World} {K : Act → World → Prop} {Q : Exit → Act → World → Prop} {E : Prop}
    (hgd : o.guard = none) (s x : Operand) (t : TypeId) (ho : o.op = .call { callee := .builtin .append, args := #[s, x], argTypes := #[t, t] })
    (base : Nat) (e : TypeId) (i : TypeInfo) (z : Value) (size bytes : Nat) (ht : P.underlying t = some (.slice e)) (hi : P.info? e = some i) (hz : i.zero = some z)
    (hsize : i.size = size) (hby : i.bytes = bytes) (hzs : z.cells.size = size) (hsz : 0 < size)
    (v : Value) (n : Nat) (xs : List Value) (hs : a.eval s = v) (hown : w.ownsRow base e size v n xs)
    (ad : Addr) (m c : Nat) (news : List Value) (hx : a.eval x = .slice (some ad) m c) (hl : news.length = m * size) (hnews : ∀ j u, news[j]? = some u → w.cell? (ad.add j) = some u) (h1 : ∀ u ∈ news, u.oneCell' = true)
    (h63 : n + m ≤ maxLen) (hbytes : (n + m) * bytes ≤ 140737488355328) (hbase : base ≤ w.heap.size)
    (h : ∀ v' w', w'.ownsRow base e size v' (n + m) (xs ++ news) → w.grownBy w' v.ownBlock → (v' = .slice none 0 0 ↔ v = .slice none 0 0 ∧ m = 0) → (v'.ownBlock = v.ownBlock ∨ v'.ownBlock = some w.heap.size) → K (a.put o.dst v') w') :
    if Region.wanted o (yielded ops a.tmps) = true then Oper.wp P o a w K Q else E := by
  have hw : Region.wanted o (yielded ops a.tmps) = true := by simp [Region.wanted, hgd]
  rw [if_pos hw]
  obtain ⟨v', w', hr, h2, h3, h4, h5⟩ := run_append_own_at (P := P) w base t o.type e i z size bytes ht hi hz hsize hby hzs hsz v n xs hown ad m c news hl hnews h1 h63 hbytes hbase
  unfold Oper.wp execOp
  simp only [ho, resolve, invoke, builtin, Sem.run_bind, Sem.run_pure, Result.andThen_ok, List.map_toArray, List.map_cons, List.map_nil, hs, hx, hr]
  exact h v' w' h2 h3 h4 h5
/-- A slice of one's own, as what is left to go. -/
theorem leftOf {w : World} {B : Nat} {v : Value} {l : List Nat} {P : Nat → Prop} (h : w.ownsRow B 3 1 v l.length (intsV l)) (hP : ∀ g, P g → g < B) : LeftAt w P v l := by
  rcases h.2 with ⟨rfl, h0⟩ | ⟨g, cap, cur, hv, hb, hh, hn', hm, hs, ht⟩
  · have h1 : l = [] := List.eq_nil_of_length_eq_zero h0
    subst h1
    exact ⟨none, 0, rfl, Nat.le_refl _, (fun a ha => by cases ha), fun j x hx => by simp at hx⟩
  · refine ⟨some ⟨g, 0, none⟩, cap, hv, hn', (fun a ha => by cases ha; exact Reg.size_of_get hh), fun j x hx => ⟨g, 0, rfl, fun hp => by have := hP g hp; omega, ⟨_, _, hh⟩, ?_⟩⟩
    subst hv
    rw [Nat.zero_add, h.cellAt j (by have := (List.getElem?_eq_some_iff.1 hx).1; omega)]
    simp [intsV, hx]
section
variable {w w1 : World} {B sb mb lb kb n : Nat} {gv pv pv' ov dv : Value} {F : List Fr} {s : Sk}
/-- One more step of the way. -/
theorem SkAt.appPath {o : Obj} {f : Fr} (h : SkAt w B sb mb lb kb n gv pv ov dv F s) (hr : w1.ownsRow B 78 2 pv' (F.length + 1) (frV F ++ [.int .i64 (f.at_ : Int), f.v])) (hg : (w.alloc o).grownBy w1 pv.ownBlock) (hl : LeftAt w (SkB mb lb kb ov dv) f.v f.left) :
    SkAt (w1.setCell ⟨sb, 4, none⟩ pv') B sb mb lb kb n gv pv' ov dv (F ++ [f]) { s with path := (F ++ [f]).map Fr.pair } := by
  have hg1 : w.grownBy w1 pv.ownBlock := (World.grownBy_alloc w o _).trans hg
  have hsb : pv.ownBlock ≠ some sb := row_ne h.pr h.sk (by decide)
  have hc : SkC w1 B sb mb lb kb n s.met s.low s.kn := h.core.kept hg1 (fun r e => ⟨fun e2 => hsb (by rw [e, e2]), fun e2 => row_ne h.pr h.me (by decide) (by rw [e, e2]), fun e2 => row_ne h.pr h.lo (by decide) (by rw [e, e2]), fun e2 => row_ne h.pr h.kn (by decide) (by rw [e, e2])⟩)
  have hm : ∀ g, ¬ SkB mb lb kb ov dv g → (∃ cs fr, w.heap[g]? = some (.cells cs 3 fr)) → some g ≠ pv.ownBlock ∧ ¬ SkB mb lb kb ov dv g := fun g hP hb => by
    obtain ⟨cs, fr, hb⟩ := hb
    exact ⟨fun e => row_ne h.pr hb (by decide) e.symm, hP⟩
  refine SkC.field (s' := { s with path := (F ++ [f]).map Fr.pair }) hc 4 pv' ?_ rfl ?_ (ownsKeep h.opr hg1 (fun g e e2 => rows_apart (by decide) h.pr h.opr g e2 e)) (ownsKeep h.dr hg1 (fun g e e2 => rows_apart (by decide) h.pr h.dr g e2 e)) (fun f' hf => ?_) h.a2 h.a3
  · refine (Joins.block_setCell (heap_kept h.sk hg1 (fun e => hsb e.symm)) _).trans ?_
    simp [skOb]
  · rw [List.length_append, List.length_singleton, frV_snoc]
    exact hr
  · rcases List.mem_append.1 hf with hf | hf
    · exact (h.lf f' hf).kept hg1 hm
    · rw [List.mem_singleton.1 hf]
      exact hl.kept hg1 hm
end
/-- What lies behind in memory is apart from all that a seeker has. -/
structure Ahead (C sb mb lb kb : Nat) (pv ov dv : Value) (F : List Fr) : Prop where
  b : sb < C ∧ mb < C ∧ lb < C ∧ kb < C ∧ (∀ g, pv.ownBlock = some g → g < C) ∧ (∀ g, ov.ownBlock = some g → g < C) ∧ (∀ g, dv.ownBlock = some g → g < C)
  f : ∀ f ∈ F, ∀ (p : Option Addr) (k c : Nat), f.v = .slice p k c → ∀ a, p = some a → a.block < C
theorem SkAt.ahead {w : World} {B sb mb lb kb n : Nat} {gv pv ov dv : Value} {F : List Fr} {s : Sk} (h : SkAt w B sb mb lb kb n gv pv ov dv F s) : Ahead w.heap.size sb mb lb kb pv ov dv F :=
  ⟨⟨Reg.size_of_get h.sk, h.me.lt, h.lo.lt, h.kn.lt, fun g e => (ownsLt h.pr e).2, fun g e => (ownsLt h.opr e).2, fun g e => (ownsLt h.dr e).2⟩, fun f hf p k c e a ha => by
    obtain ⟨p', cap, e2, _, hz, _⟩ := h.lf f hf
    rw [e2] at e
    injection e with e
    exact hz a (e.trans ha)⟩
/-- Enter, as it goes through the graphs. -/
structure EntI (B sb mb lb kb n : Nat) (gv pv ov dv : Value) (F : List Fr) (s : Sk) (gs : List G0) (xb v : Nat) (w : World) (i : Nat) (l : List Nat) (lv : Value) (ml : List Nat) (W : World) : Prop where
  x : W.heap[xb]? = some (.cells #[.int .i64 (v : Int), lv] 78 (0, 0))
  r : W.ownsRow xb 3 1 lv l.length (intsV l)
  sk : SkAt W B sb mb lb kb n gv pv ov dv F s
  be : Below B w W
  ms : MarksAt xb ml W
  mem : ∀ x, x ∈ l ↔ ∃ j g, j < i ∧ gs[j]? = some g ∧ g.m v x = true
  len : l.length ≤ i * n
/-- .. and its end. -/
structure EntJ (B sb mb lb kb n : Nat) (gv ov dv : Value) (F : List Fr) (s : Sk) (tm v : Nat) (l : List Nat) (lv : Value) (w X : World) : Prop where
  sk : ∃ pv, SkAt X B sb mb lb kb n gv pv ov dv (F ++ [Fr.mk v l lv]) { s with times := tm, met := upd s.met v tm, low := upd s.low v tm, opn := s.opn ++ [v], path := (F ++ [Fr.mk v l lv]).map Fr.pair }
  be : Below B w X
structure EntK (B sb mb lb kb n : Nat) (gv ov dv : Value) (F : List Fr) (s : Sk) (tm v : Nat) (l : List Nat) (lv : Value) (xb : Nat) (ml : List Nat) (w X : World) : Prop where
  j : EntJ B sb mb lb kb n gv ov dv F s tm v l lv w X
  ms : MarksAt xb ml X
/-- .. and its frame. -/
def EntR (B sb mb lb kb n : Nat) (gv pv ov ov2 dv : Value) (F : List Fr) (s s4 : Sk) (gs : List G0) (xb v tm aw gp lg gc : Nat) (w : World) (k : Nat) (a : Act) (W : World) : Prop :=
  ∃ (i : Nat) (l : List Nat) (lv : Value) (ml : List Nat) (u6 u7 u53 u54 u55 u56 u57 u58 u59 u60 u61 u62 u63 u64 u65 u66 : Value), i + k = lg ∧ a = { tmps := List.toArray (.pointer (some ⟨sb, 0, none⟩) :: .int .i64 (v : Int) :: undef :: undef :: .pointer (some ⟨xb, 0, none⟩) :: undef :: u6 :: u7 :: .pointer (some ⟨sb, 0, none⟩) :: .pointer (some ⟨sb, 0, none⟩) :: .pointer (some ⟨sb, 1, none⟩) :: .int .i64 (s.times : Int) :: .int .i64 ((s.times : Int) + 1) :: .pointer (some ⟨sb, 0, none⟩) :: .pointer (some ⟨sb, 1, none⟩) :: .pointer (some ⟨sb, 0, none⟩) :: .pointer (some ⟨sb, 0, none⟩) :: .pointer (some ⟨sb, 2, none⟩) :: .slice (some ⟨mb, 0, none⟩) n n :: .int .i64 (v : Int) :: .pointer (some ⟨sb, 0, none⟩) :: .pointer (some ⟨sb, 0, none⟩) :: .pointer (some ⟨sb, 3, none⟩) :: .slice (some ⟨lb, 0, none⟩) n n :: .int .i64 (v : Int) :: .pointer (some ⟨sb, 0, none⟩) :: .pointer (some ⟨sb, 0, none⟩) :: .pointer (some ⟨sb, 1, none⟩) :: .int .i64 (tm : Int) :: .pointer (some ⟨sb, 0, none⟩) :: .pointer (some ⟨sb, 0, none⟩) :: .pointer (some ⟨sb, 1, none⟩) :: .int .i64 (tm : Int) :: .pointer (some ⟨mb, v, none⟩) :: .pointer (some ⟨lb, v, none⟩) :: .pointer (some ⟨sb, 0, none⟩) :: .pointer (some ⟨sb, 0, none⟩) :: .pointer (some ⟨sb, 0, none⟩) :: .pointer (some ⟨sb, 5, none⟩) :: ov :: .int .i64 (v : Int) :: .slice (some ⟨aw, 0, none⟩) 1 1 :: ov2 :: .pointer (some ⟨sb, 0, none⟩) :: .pointer (some ⟨sb, 5, none⟩) :: .int .i64 (v : Int) :: .agg #[.int .i64 (v : Int), .slice none 0 0] :: .pointer (some ⟨sb, 0, none⟩) :: .pointer (some ⟨sb, 0, none⟩) :: .pointer (some ⟨sb, 0, none⟩) :: .slice (some ⟨gp, 0, none⟩) lg gc :: .int .i64 (lg : Int) :: .int .i64 (i : Int) :: u53 :: u54 :: u55 :: u56 :: u57 :: u58 :: u59 :: u60 :: u61 :: u62 :: u63 :: u64 :: u65 :: u66 :: undef :: undef :: undef :: undef :: undef :: undef :: undef :: undef :: undef :: undef :: []), defers := ml.map mk1 } ∧ EntI B sb mb lb kb n gv pv ov2 dv F s4 gs xb v w i l lv ml W
def entT (sb : Nat) (mb : Nat) (lb : Nat) (n : Nat) (v : Nat) (tm : Nat) : Nat → Value
  | 0 => .pointer (some ⟨sb, 0, none⟩)
  | 1 => .pointer (some ⟨sb, 0, none⟩)
  | 2 => .pointer (some ⟨sb, 2, none⟩)
  | 3 => .slice (some ⟨mb, 0, none⟩) n n
  | 4 => .int .i64 (v : Int)
  | 5 => .pointer (some ⟨sb, 0, none⟩)
  | 6 => .pointer (some ⟨sb, 0, none⟩)
  | 7 => .pointer (some ⟨sb, 3, none⟩)
  | 8 => .slice (some ⟨lb, 0, none⟩) n n
  | 9 => .int .i64 (v : Int)
  | 10 => .pointer (some ⟨sb, 0, none⟩)
  | 11 => .pointer (some ⟨sb, 0, none⟩)
  | 12 => .pointer (some ⟨sb, 1, none⟩)
  | 13 => .int .i64 (tm : Int)
  | 14 => .pointer (some ⟨sb, 0, none⟩)
  | 15 => .pointer (some ⟨sb, 0, none⟩)
  | 16 => .pointer (some ⟨sb, 1, none⟩)
  | 17 => .int .i64 (tm : Int)
  | 18 => .pointer (some ⟨mb, v, none⟩)
  | 19 => undef
  | 20 => .pointer (some ⟨lb, v, none⟩)
  | 21 => undef
  | _ => undef
attribute [local go_sem] Oper.semAt_some
set_option pp.maxSteps 1000000 in
set_option maxRecDepth 100000 in
set_option maxHeartbeats 8000000 in
theorem genter_any {w : World} {B sb mb lb kb n : Nat} {pv ov dv : Value} {F : List Fr} {s : Sk} (gp gc : Nat) (gs : List G0) (h : SkAt w B sb mb lb kb n (.slice (some ⟨gp, 0, none⟩) gs.length gc) pv ov dv F s) (hG : GrsAt w B n gp gs) (v : Nat) (hv : v < n) (hn : n ≤ 1000) (hgs : gs.length ≤ 1000) (ht : s.times ≤ 1048576) (ho : s.opn.length ≤ 1048576) (hF : F.length ≤ 1048576) :
    Calls Try.prog 27 #[.pointer (some ⟨sb, 0, none⟩), .int .i64 (v : Int)] w fun e w' => e = .returned (.tuple #[]) ∧ ∃ (L : List Nat) (lv : Value), (∀ x, x ∈ L ↔ Es gs v x) ∧ L.length ≤ gs.length * n ∧ SkTo w w' B sb mb lb kb n (.slice (some ⟨gp, 0, none⟩) gs.length gc) (F ++ [Fr.mk v L lv]) { s with times := s.times + 1, met := upd s.met v (s.times + 1), low := upd s.low v (s.times + 1), opn := s.opn ++ [v], path := (F ++ [Fr.mk v L lv]).map Fr.pair } := by
  obtain ⟨_, c1, c2, c3, _⟩ := h.cells
  have f1 := Joins.unfrozen_of_block h.sk 1
  have HG := qhid hG
  have HB0 := qhid h.bs
  -- the number
  have HS1 : Hid (SkAt (w.setCell ⟨sb, 1, none⟩ (.int .i64 ((s.times : Int) + 1))) B sb mb lb kb n (.slice (some ⟨gp, 0, none⟩) gs.length gc) pv ov dv F { s with times := s.times + 1 }) := qhid (SkC.field (s' := { s with times := s.times + 1 }) h.core 1 _ (by
    refine (Joins.block_setCell h.sk _).trans ?_
    simp [skOb]) h.fp h.pr h.opr h.dr h.lf h.a2 h.a3)
  clear h hG
  refine (callsIn_wide (n := 40)).1 ?_
  refine callsIn_of_wp_marks Try.func27 rfl trivial ?_ rfl
  simp only [Try.ntmps27, List.size_toArray, List.length_cons, List.length_nil, Nat.reduceAdd, Nat.reduceSub, Array.replicate_succ, Array.replicate_zero, List.push_toArray, List.append_toArray, List.nil_append, List.cons_append]
  refine wpIn_wide.2 ?_
  go_upto_region 1 with fail
  obtain ⟨W1, hW1⟩ : ∃ X, X = w.setCell ⟨sb, 1, none⟩ (.int .i64 ((s.times : Int) + 1)) := ⟨_, rfl⟩
  change Code.wp _ _ _ _ (w.setCell ⟨sb, 1, none⟩ (.int .i64 ((s.times : Int) + 1)))
  have HB1 : Hid (Below B w W1) := qhid (by rw [hW1]; exact (Below.refl B w).setCell (p := ⟨sb, 1, none⟩) HB0.out.1 _)
  rw [← hW1] at HS1 ⊢
  clear hW1 f1 c1 c2 c3
  obtain ⟨_, d1, d2, d3, _⟩ := HS1.out.cells
  have d1' : W1.cell? ⟨sb, 1, none⟩ = some (.int .i64 ((s.times + 1 : Nat) : Int)) := d1
  obtain ⟨dl, dm⟩ := HS1.out.lowc hv
  have fm := HS1.out.me.unfrozen v
  have fl := HS1.out.lo.unfrozen v
  have hml := HS1.out.a1.1
  obtain ⟨tm, htm⟩ : ∃ t, t = s.times + 1 := ⟨_, rfl⟩
  rw [← htm] at d1'
  have HTM := qhid htm
  have HS2 : Hid (SkAt ((W1.setCell ⟨mb, v, none⟩ (.int .i64 (tm : Int))).setCell ⟨lb, v, none⟩ (.int .i64 (tm : Int))).drew B sb mb lb kb n (.slice (some ⟨gp, 0, none⟩) gs.length gc) pv ov dv F { s with times := tm, met := upd s.met v tm, low := upd s.low v tm }) := qhid (by
    have := ((HS1.out.setMet v tm).setLow v tm).up (Below.drew (Below.refl _ _))
    rw [← htm] at this
    exact this)
  have HB2 : Hid (Below B w ((W1.setCell ⟨mb, v, none⟩ (.int .i64 (tm : Int))).setCell ⟨lb, v, none⟩ (.int .i64 (tm : Int))).drew) := qhid (((HB1.out.setCell (p := ⟨mb, v, none⟩) HB0.out.2.1 _).setCell (p := ⟨lb, v, none⟩) HB0.out.2.2.1 _).drew)
  have hlm : lb ≠ mb := Ne.symm hml
  clear d1 htm
  refine Reg.wp_region_C (entT sb mb lb n v tm) (Reg.TwoS W1.drew (W1.setCell ⟨mb, v, none⟩ (.int .i64 (tm : Int))).drew ((W1.setCell ⟨mb, v, none⟩ (.int .i64 (tm : Int))).setCell ⟨lb, v, none⟩ (.int .i64 (tm : Int))).drew 19 21) [0, 1, 2, 3, 4, 5, 6, 7, 8, 9, 10, 11, 12, 13, 14, 15, 16, 17, 18, 19, 20, 21] (by rfl) (by kernel_rfl) (by kernel_rfl) ?_ ?_ ?_
  · exact Reg.TwoS.start _
  · skip
    refine ⟨fun listed A X hI hcl hin hun hall => .inl ⟨Reg.wanted_none rfl, ?_⟩, ?_⟩
    · have e0 := hI.evo (d := 0) (by kernel_rfl) rfl
      have HS := hI.st
      clear hI hall hcl
      have HS := qhid HS
      unfold Reg.Yields
      go_simp
      first | exact ⟨rfl, HS.out.keep (by decide) (by decide)⟩ | (refine ⟨?_, HS.out.keep (by decide) (by decide)⟩; simp [entT]; done)
    refine ⟨fun listed A X hI hcl hin hun hall => .inl ⟨Reg.wanted_none rfl, ?_⟩, ?_⟩
    · have e15 : A.tmps[15]? = some (.pointer (some ⟨sb, 0, none⟩)) := hI.ev (i := 0) (d := 15) (by rfl) (hall ⟨0, .data⟩ (by simp) rfl)
      have HS := hI.st
      clear hI hall hcl
      have HS := qhid HS
      unfold Reg.Yields
      go_simp
      first | exact ⟨rfl, HS.out.keep (by decide) (by decide)⟩ | (refine ⟨?_, HS.out.keep (by decide) (by decide)⟩; simp [entT]; done)
    refine ⟨fun listed A X hI hcl hin hun hall => .inl ⟨Reg.wanted_none rfl, ?_⟩, ?_⟩
    · have e16 : A.tmps[16]? = some (.pointer (some ⟨sb, 0, none⟩)) := hI.ev (i := 1) (d := 16) (by rfl) (hall ⟨1, .data⟩ (by simp) rfl)
      have HS := hI.st
      clear hI hall hcl
      have HS := qhid HS
      unfold Reg.Yields
      go_simp
      first | exact ⟨rfl, HS.out.keep (by decide) (by decide)⟩ | (refine ⟨?_, HS.out.keep (by decide) (by decide)⟩; simp [entT]; done)
    refine ⟨fun listed A X hI hcl hin hun hall => .inl ⟨Reg.wanted_none rfl, ?_⟩, ?_⟩
    · have e17 : A.tmps[17]? = some (.pointer (some ⟨sb, 2, none⟩)) := hI.ev (i := 2) (d := 17) (by rfl) (hall ⟨2, .data⟩ (by simp) rfl)
      have HS := hI.st
      obtain rfl := HS.a (Reg.un_of_reach hcl (n := 19) (i := 3) (by kernel_rfl) (by simpa using hun))
      clear hI hall hcl
      have HS := qhid HS
      unfold Reg.Yields
      go_simp
      first | exact ⟨rfl, HS.out.keep (by decide) (by decide)⟩ | (refine ⟨?_, HS.out.keep (by decide) (by decide)⟩; simp [entT]; done)
    refine ⟨fun listed A X hI hcl hin hun hall => .inl ⟨Reg.wanted_none rfl, ?_⟩, ?_⟩
    · have e1 := hI.evo (d := 1) (by kernel_rfl) rfl
      have HS := hI.st
      clear hI hall hcl
      have HS := qhid HS
      unfold Reg.Yields
      go_simp
      first | exact ⟨rfl, HS.out.keep (by decide) (by decide)⟩ | (refine ⟨?_, HS.out.keep (by decide) (by decide)⟩; simp [entT]; done)
    refine ⟨fun listed A X hI hcl hin hun hall => .inl ⟨Reg.wanted_none rfl, ?_⟩, ?_⟩
    · have e0 := hI.evo (d := 0) (by kernel_rfl) rfl
      have HS := hI.st
      clear hI hall hcl
      have HS := qhid HS
      unfold Reg.Yields
      go_simp
      first | exact ⟨rfl, HS.out.keep (by decide) (by decide)⟩ | (refine ⟨?_, HS.out.keep (by decide) (by decide)⟩; simp [entT]; done)
    refine ⟨fun listed A X hI hcl hin hun hall => .inl ⟨Reg.wanted_none rfl, ?_⟩, ?_⟩
    · have e20 : A.tmps[20]? = some (.pointer (some ⟨sb, 0, none⟩)) := hI.ev (i := 5) (d := 20) (by rfl) (hall ⟨5, .data⟩ (by simp) rfl)
      have HS := hI.st
      clear hI hall hcl
      have HS := qhid HS
      unfold Reg.Yields
      go_simp
      first | exact ⟨rfl, HS.out.keep (by decide) (by decide)⟩ | (refine ⟨?_, HS.out.keep (by decide) (by decide)⟩; simp [entT]; done)
    refine ⟨fun listed A X hI hcl hin hun hall => .inl ⟨Reg.wanted_none rfl, ?_⟩, ?_⟩
    · have e21 : A.tmps[21]? = some (.pointer (some ⟨sb, 0, none⟩)) := hI.ev (i := 6) (d := 21) (by rfl) (hall ⟨6, .data⟩ (by simp) rfl)
      have HS := hI.st
      clear hI hall hcl
      have HS := qhid HS
      unfold Reg.Yields
      go_simp
      first | exact ⟨rfl, HS.out.keep (by decide) (by decide)⟩ | (refine ⟨?_, HS.out.keep (by decide) (by decide)⟩; simp [entT]; done)
    refine ⟨fun listed A X hI hcl hin hun hall => .inl ⟨Reg.wanted_none rfl, ?_⟩, ?_⟩
    · have e22 : A.tmps[22]? = some (.pointer (some ⟨sb, 3, none⟩)) := hI.ev (i := 7) (d := 22) (by rfl) (hall ⟨7, .data⟩ (by simp) rfl)
      have HS := hI.st
      obtain rfl := HS.a (Reg.un_of_reach hcl (n := 19) (i := 8) (by kernel_rfl) (by simpa using hun))
      clear hI hall hcl
      have HS := qhid HS
      unfold Reg.Yields
      go_simp
      first | exact ⟨rfl, HS.out.keep (by decide) (by decide)⟩ | (refine ⟨?_, HS.out.keep (by decide) (by decide)⟩; simp [entT]; done)
    refine ⟨fun listed A X hI hcl hin hun hall => .inl ⟨Reg.wanted_none rfl, ?_⟩, ?_⟩
    · have e1 := hI.evo (d := 1) (by kernel_rfl) rfl
      have HS := hI.st
      clear hI hall hcl
      have HS := qhid HS
      unfold Reg.Yields
      go_simp
      first | exact ⟨rfl, HS.out.keep (by decide) (by decide)⟩ | (refine ⟨?_, HS.out.keep (by decide) (by decide)⟩; simp [entT]; done)
    refine ⟨fun listed A X hI hcl hin hun hall => .inl ⟨Reg.wanted_none rfl, ?_⟩, ?_⟩
    · have e0 := hI.evo (d := 0) (by kernel_rfl) rfl
      have HS := hI.st
      clear hI hall hcl
      have HS := qhid HS
      unfold Reg.Yields
      go_simp
      first | exact ⟨rfl, HS.out.keep (by decide) (by decide)⟩ | (refine ⟨?_, HS.out.keep (by decide) (by decide)⟩; simp [entT]; done)
    refine ⟨fun listed A X hI hcl hin hun hall => .inl ⟨Reg.wanted_none rfl, ?_⟩, ?_⟩
    · have e25 : A.tmps[25]? = some (.pointer (some ⟨sb, 0, none⟩)) := hI.ev (i := 10) (d := 25) (by rfl) (hall ⟨10, .data⟩ (by simp) rfl)
      have HS := hI.st
      clear hI hall hcl
      have HS := qhid HS
      unfold Reg.Yields
      go_simp
      first | exact ⟨rfl, HS.out.keep (by decide) (by decide)⟩ | (refine ⟨?_, HS.out.keep (by decide) (by decide)⟩; simp [entT]; done)
    refine ⟨fun listed A X hI hcl hin hun hall => .inl ⟨Reg.wanted_none rfl, ?_⟩, ?_⟩
    · have e26 : A.tmps[26]? = some (.pointer (some ⟨sb, 0, none⟩)) := hI.ev (i := 11) (d := 26) (by rfl) (hall ⟨11, .data⟩ (by simp) rfl)
      have HS := hI.st
      clear hI hall hcl
      have HS := qhid HS
      unfold Reg.Yields
      go_simp
      first | exact ⟨rfl, HS.out.keep (by decide) (by decide)⟩ | (refine ⟨?_, HS.out.keep (by decide) (by decide)⟩; simp [entT]; done)
    refine ⟨fun listed A X hI hcl hin hun hall => .inl ⟨Reg.wanted_none rfl, ?_⟩, ?_⟩
    · have e27 : A.tmps[27]? = some (.pointer (some ⟨sb, 1, none⟩)) := hI.ev (i := 12) (d := 27) (by rfl) (hall ⟨12, .data⟩ (by simp) rfl)
      have HS := hI.st
      obtain rfl := HS.a (Reg.un_of_reach hcl (n := 19) (i := 13) (by kernel_rfl) (by simpa using hun))
      clear hI hall hcl
      have HS := qhid HS
      unfold Reg.Yields
      go_simp
      first | exact ⟨rfl, HS.out.keep (by decide) (by decide)⟩ | (refine ⟨?_, HS.out.keep (by decide) (by decide)⟩; simp [entT]; done)
    refine ⟨fun listed A X hI hcl hin hun hall => .inl ⟨Reg.wanted_none rfl, ?_⟩, ?_⟩
    · have e0 := hI.evo (d := 0) (by kernel_rfl) rfl
      have HS := hI.st
      clear hI hall hcl
      have HS := qhid HS
      unfold Reg.Yields
      go_simp
      first | exact ⟨rfl, HS.out.keep (by decide) (by decide)⟩ | (refine ⟨?_, HS.out.keep (by decide) (by decide)⟩; simp [entT]; done)
    refine ⟨fun listed A X hI hcl hin hun hall => .inl ⟨Reg.wanted_none rfl, ?_⟩, ?_⟩
    · have e29 : A.tmps[29]? = some (.pointer (some ⟨sb, 0, none⟩)) := hI.ev (i := 14) (d := 29) (by rfl) (hall ⟨14, .data⟩ (by simp) rfl)
      have HS := hI.st
      clear hI hall hcl
      have HS := qhid HS
      unfold Reg.Yields
      go_simp
      first | exact ⟨rfl, HS.out.keep (by decide) (by decide)⟩ | (refine ⟨?_, HS.out.keep (by decide) (by decide)⟩; simp [entT]; done)
    refine ⟨fun listed A X hI hcl hin hun hall => .inl ⟨Reg.wanted_none rfl, ?_⟩, ?_⟩
    · have e30 : A.tmps[30]? = some (.pointer (some ⟨sb, 0, none⟩)) := hI.ev (i := 15) (d := 30) (by rfl) (hall ⟨15, .data⟩ (by simp) rfl)
      have HS := hI.st
      clear hI hall hcl
      have HS := qhid HS
      unfold Reg.Yields
      go_simp
      first | exact ⟨rfl, HS.out.keep (by decide) (by decide)⟩ | (refine ⟨?_, HS.out.keep (by decide) (by decide)⟩; simp [entT]; done)
    refine ⟨fun listed A X hI hcl hin hun hall => .inl ⟨Reg.wanted_none rfl, ?_⟩, ?_⟩
    · have e31 : A.tmps[31]? = some (.pointer (some ⟨sb, 1, none⟩)) := hI.ev (i := 16) (d := 31) (by rfl) (hall ⟨16, .data⟩ (by simp) rfl)
      have HS := hI.st
      obtain rfl := HS.a (Reg.un_of_reach hcl (n := 19) (i := 17) (by kernel_rfl) (by simpa using hun))
      clear hI hall hcl
      have HS := qhid HS
      unfold Reg.Yields
      go_simp
      first | exact ⟨rfl, HS.out.keep (by decide) (by decide)⟩ | (refine ⟨?_, HS.out.keep (by decide) (by decide)⟩; simp [entT]; done)
    refine ⟨fun listed A X hI hcl hin hun hall => .inl ⟨Reg.wanted_none rfl, ?_⟩, ?_⟩
    · have e18 : A.tmps[18]? = some (.slice (some ⟨mb, 0, none⟩) n n) := hI.ev (i := 3) (d := 18) (by rfl) (hall ⟨3, .data⟩ (by simp) rfl)
      have e19 : A.tmps[19]? = some (.int .i64 (v : Int)) := hI.ev (i := 4) (d := 19) (by rfl) (hall ⟨4, .data⟩ (by simp) rfl)
      have HS := hI.st
      clear hI hall hcl
      have HS := qhid HS
      unfold Reg.Yields
      go_simp
      first | exact ⟨rfl, HS.out.keep (by decide) (by decide)⟩ | (refine ⟨?_, HS.out.keep (by decide) (by decide)⟩; simp [entT]; done)
    refine ⟨fun listed A X hI hcl hin hun hall => .inl ⟨Reg.wanted_none rfl, ?_⟩, ?_⟩
    · have e28 : A.tmps[28]? = some (.int .i64 (tm : Int)) := hI.ev (i := 13) (d := 28) (by rfl) (hall ⟨13, .data⟩ (by simp) rfl)
      have e33 : A.tmps[33]? = some (.pointer (some ⟨mb, v, none⟩)) := hI.ev (i := 18) (d := 33) (by rfl) (hall ⟨18, .data⟩ (by simp) rfl)
      have HS := hI.st
      obtain rfl := HS.a (by simpa using hun)
      have h2 := Reg.un_of_reach hcl (n := 21) (i := 19) (by kernel_rfl) (by simpa using hun)
      have H2 := qhid (Reg.TwoS.first (Wa := W1.drew) (Wb := (W1.setCell ⟨mb, v, none⟩ (.int .i64 (tm : Int))).drew) (Wc := ((W1.setCell ⟨mb, v, none⟩ (.int .i64 (tm : Int))).setCell ⟨lb, v, none⟩ (.int .i64 (tm : Int))).drew) (i1 := 19) (i2 := 21) (by decide) (by simpa using hin) h2)
      clear hI hall hcl hin hun h2
      have HS := qhid HS
      unfold Reg.Yields
      go_simp
      first | exact H2.out | exact ⟨rfl, H2.out⟩
    refine ⟨fun listed A X hI hcl hin hun hall => .inl ⟨Reg.wanted_none rfl, ?_⟩, ?_⟩
    · have e23 : A.tmps[23]? = some (.slice (some ⟨lb, 0, none⟩) n n) := hI.ev (i := 8) (d := 23) (by rfl) (hall ⟨8, .data⟩ (by simp) rfl)
      have e24 : A.tmps[24]? = some (.int .i64 (v : Int)) := hI.ev (i := 9) (d := 24) (by rfl) (hall ⟨9, .data⟩ (by simp) rfl)
      have HS := hI.st
      clear hI hall hcl
      have HS := qhid HS
      unfold Reg.Yields
      go_simp
      first | exact ⟨rfl, HS.out.keep (by decide) (by decide)⟩ | (refine ⟨?_, HS.out.keep (by decide) (by decide)⟩; simp [entT]; done)
    refine ⟨fun listed A X hI hcl hin hun hall => .inl ⟨Reg.wanted_none rfl, ?_⟩, ?_⟩
    · have e32 : A.tmps[32]? = some (.int .i64 (tm : Int)) := hI.ev (i := 17) (d := 32) (by rfl) (hall ⟨17, .data⟩ (by simp) rfl)
      have e34 : A.tmps[34]? = some (.pointer (some ⟨lb, v, none⟩)) := hI.ev (i := 20) (d := 34) (by rfl) (hall ⟨20, .data⟩ (by simp) rfl)
      have HS := hI.st
      have h1 : listed.getD 19 false = true := hall ⟨19, .chain⟩ (by simp) rfl
      obtain rfl := HS.b h1 (by simpa using hun)
      have H2 := qhid (Reg.TwoS.second (Wa := W1.drew) (Wb := (W1.setCell ⟨mb, v, none⟩ (.int .i64 (tm : Int))).drew) (Wc := ((W1.setCell ⟨mb, v, none⟩ (.int .i64 (tm : Int))).setCell ⟨lb, v, none⟩ (.int .i64 (tm : Int))).drew) (i1 := 19) (i2 := 21) (by decide) (by simpa using hin) h1)
      clear hI hall hcl hin hun h1
      have HS := qhid HS
      unfold Reg.Yields
      go_simp
      first | exact H2.out | exact ⟨rfl, H2.out⟩
    trivial
  · intro X hS
    obtain rfl := hS.c (by rfl) (by rfl)
    clear hS
    simp [Reg.finalTmps, Reg.dstAt, Reg.valOf, entT]
    obtain ⟨W2, hW2⟩ : ∃ X, X = ((W1.setCell ⟨mb, v, none⟩ (.int .i64 (tm : Int))).setCell ⟨lb, v, none⟩ (.int .i64 (tm : Int))).drew := ⟨_, rfl⟩
    rw [← hW2] at HS2 HB2 ⊢
    clear hW2 d1' d2 d3 dl dm fm fl hml hlm HS1 HB1
    obtain ⟨_, _, _, _, _, c5, _⟩ := HS2.out.cells
    obtain ⟨on, hon⟩ : ∃ k, k = s.opn.length := ⟨_, rfl⟩
    have hro := HS2.out.opr
    dsimp only at hro
    rw [← hon] at hro ho
    have HRO := qhid hro
    have HON := qhid hon
    obtain ⟨i0, hif, hy0, hy1, hy2⟩ := info_parts Try.infoInt
    have hble : B ≤ W2.heap.size := HS2.out.bs.2.2.2.2
    have HSK := qhid (fun w1 (hg : (W2.alloc (.cells #[.int .i64 (v : Int)] 3)).grownBy w1 ov.ownBlock) => HS2.out.far hg (row_ne HS2.out.opr HS2.out.sk (by decide)) 5)
    clear hro hon
    go_upto_region 3 with (first
      | (at_builtin; go_must (refine wpList_append_own_at _ rfl _ _ 30 rfl B 3 i0 (.int .i64 0) 1 8 Try.underlying30 hif hy0 hy1 hy2 rfl (by decide) _ _ _ rfl (ownsAlloc HRO.out _) ⟨W2.heap.size, 0, none⟩ 1 1 [.int .i64 (v : Int)] rfl rfl (cell_one_new _ _ _) (by simp [Value.oneCell']) (by unfold maxLen; omega) (by omega) (by simp; omega) ?_; intro v' w1 hown' hgrow _ hat; obtain ⟨g', cap', rfl⟩ := ownsRow_succ hown'; obtain ⟨k5, kf⟩ := HSK.out w1 hgrow; rw [c5] at k5))
      | fail)
    have hgr : (W2.alloc (.cells #[.int .i64 (v : Int)] 3)).grownBy w1 ov.ownBlock := hgrow
    have hat' : (Value.slice (some ⟨g', 0, none⟩) (on + 1) cap').ownBlock = ov.ownBlock ∨ (Value.slice (some ⟨g', 0, none⟩) (on + 1) cap').ownBlock = some (W2.heap.size + 1) := by
      have h6 : (Value.slice (some ⟨g', 0, none⟩) (on + 1) cap').ownBlock = ov.ownBlock ∨ (Value.slice (some ⟨g', 0, none⟩) (on + 1) cap').ownBlock = some (W2.alloc (.cells #[.int .i64 (v : Int)] 3)).heap.size := hat
      rw [World.size_alloc] at h6
      exact h6
    have HS3 := qhid (HS2.out.appOpn (x := v) (by dsimp only; rw [← HON.out]; exact hown') hgr hat')
    have hb3 : Below B w w1 := HB2.out.trans (belowApp HRO.out hgr hble)
    have HB3 := qhid (hb3.setCell (p := ⟨sb, 5, none⟩) HB0.out.1 (.slice (some ⟨g', 0, none⟩) (on + 1) cap'))
    clear hat hat' hgrow hgr hown' hb3 k5 kf HSK HRO c5 hble hif hy0 hy1 hy2 HS2 HB2
    obtain ⟨W3, hW3⟩ : ∃ X, X = w1.setCell ⟨sb, 5, none⟩ (.slice (some ⟨g', 0, none⟩) (on + 1) cap') := ⟨_, rfl⟩
    change Code.wp _ _ _ _ (w1.setCell ⟨sb, 5, none⟩ (.slice (some ⟨g', 0, none⟩) (on + 1) cap'))
    rw [← hW3] at HS3 HB3 ⊢
    clear hW3
    obtain ⟨c0, _⟩ := HS3.out.cells
    have hsl := Reg.size_of_get HS3.out.sk
    obtain ⟨lg, hlg⟩ : ∃ k, k = gs.length := ⟨_, rfl⟩
    rw [← hlg] at HS3 c0 hgs
    have HLG := qhid hlg
    clear hlg
    go_wp2_with fail
    clear c0 hsl
    have HX4 : Hid ((W3.alloc (.cells #[.int .i64 (v : Int), .slice none 0 0] 78)).heap[W3.heap.size]? = some (.cells #[.int .i64 (v : Int), .slice none 0 0] 78 (0, 0))) := qhid (heap_new _ _)
    obtain ⟨W4, hW4⟩ : ∃ X, X = W3.alloc (.cells #[.int .i64 (v : Int), .slice none 0 0] 78) := ⟨_, rfl⟩
    have HS4 := qhid (HS3.out.up (show Below W3.heap.size W3 W4 by rw [hW4]; exact below1 W3 _))
    have HB4 : Hid (Below B w W4) := qhid (HB3.out.trans ((show Below W3.heap.size W3 W4 by rw [hW4]; exact below1 W3 _).mono HS3.out.bs.2.2.2.2))
    have hz4 : W4.heap.size = W3.heap.size + 1 := by rw [hW4, World.size_alloc]
    rw [← hW4] at HX4 ⊢
    obtain ⟨xb, hxb⟩ : ∃ b, b = W3.heap.size := ⟨_, rfl⟩
    rw [← hxb] at HX4 hz4 ⊢
    have HZ4 := qhid hz4
    have HAH : Hid (Ahead xb sb mb lb kb pv (.slice (some ⟨g', 0, none⟩) (on + 1) cap') dv F ∧ B ≤ xb) := qhid (by rw [hxb]; exact ⟨HS3.out.ahead, HS3.out.bs.2.2.2.2⟩)
    clear hW4 hxb hz4 HS3 HB3
    obtain ⟨aw, haw⟩ : ∃ b, b = W2.heap.size := ⟨_, rfl⟩
    rw [← haw]
    clear haw
    refine (wpIn_wide (n := 40)).1 ?_
    refine wpIn_loopM (EntR B sb mb lb kb n (.slice (some ⟨gp, 0, none⟩) lg gc) pv ov (.slice (some ⟨g', 0, none⟩) (on + 1) cap') dv F s { s with times := tm, met := upd s.met v tm, low := upd s.low v tm, opn := s.opn ++ [v] } gs xb v tm aw gp lg gc w) lg ?_ ?_
    · refine ⟨0, [], .slice none 0 0, [], undef, undef, undef, undef, undef, undef, undef, undef, undef, undef, undef, undef, undef, undef, undef, undef, Nat.zero_add _, rfl, ?_⟩
      exact ⟨HX4.out, World.ownsRow_nil _ _ _ _, HS4.out, HB4.out, MarksAt.nil _ _, fun x => by simp, by simp⟩
    · rintro k a W ⟨i, l, lv, ml, u6, u7, u53, u54, u55, u56, u57, u58, u59, u60, u61, u62, u63, u64, u65, u66, hik, rfl, hI⟩
      have HI := qhid hI
      have HIK := qhid hik
      clear hI
      by_cases hil : i < lg
      · have hdl : decide ((i : Int) < (lg : Int)) = true := decide_eq_true (by omega)
        obtain ⟨g, hg⟩ : ∃ g, gs[i]? = some g := ⟨_, List.getElem?_eq_getElem (by rw [← HLG.out]; exact hil)⟩
        obtain ⟨hgc, hgat⟩ := (HG.out.low HI.out.be).cell i g hg
        obtain ⟨gl, hgl⟩ : ∃ b, b = g.gb := ⟨_, rfl⟩
        rw [← hgl] at hgc
        have HGA := qhid hgat
        have HGL := qhid hgl
        have HGI := qhid hg
        clear hgat hg hgl hik
        gi_wp2_with fail
        refine ⟨trivial, ?_⟩
        refine (callsIn_wide.2 (gnext_any _ _ W)).mono ?_
        rintro e W5 ⟨rfl, hW5⟩
        obtain ⟨z5, b5, bg, bn⟩ := spread_world hW5
        have hst := gnext_stops (α := Nat) id (fun j : Nat => .int .i64 (j : Int)) 39 W.heap.size (W.heap.size + 1) (by have := HGA.out.at_.up b5; rw [← HGL.out] at this; exact this) v hv (fun j _ => rfl) bg.cell bn.cell bg.lt bn.lt
        have HI5 : Hid (EntI B sb mb lb kb n (.slice (some ⟨gp, 0, none⟩) lg gc) pv (.slice (some ⟨g', 0, none⟩) (on + 1) cap') dv F { s with times := tm, met := upd s.met v tm, low := upd s.low v tm, opn := s.opn ++ [v] } gs xb v w i l lv ml W5) := qhid (by
          have h := HI.out
          have hB := h.sk.bs.2.2.2.2
          exact ⟨heap_up h.x b5, ownsBelow h.r b5, h.sk.up b5, h.be.trans (b5.mono hB), h.ms.grown (grown_below none b5) (fun r e => by cases e), h.mem, h.len⟩)
        have HST := qhid hst
        have HMK : Hid (∀ D ∈ ml, D < W5.heap.size) := qhid HI5.out.ms.lt
        have HXW : Hid (xb < W5.heap.size) := qhid (Reg.size_of_get HI5.out.x)
        obtain ⟨q, hq⟩ : ∃ q, q = W.heap.size := ⟨_, rfl⟩
        rw [← hq] at HST ⊢
        clear hW5 z5 b5 bg bn hst HI hgc hq
        gi_wp2_with fail
        refine wpIn_rangeFunc_ownG rfl (by omega) (gf := 32) (lb := #[.pointer (some ⟨q, 0, none⟩), .pointer (some ⟨q + 1, 0, none⟩)]) rfl trivial (enters_of Try.func32 (by kernel_rfl) rfl)
          HST.out (fun h k => h.trans k) (fun W l o o' h1 h2 h3 h4 => walksK_b W l o o' h1 h2 h3 h4) (Below.refl _ _) (fun _ => rfl)
          (fun pre X => ∃ lv, X.heap[xb]? = some (.cells #[.int .i64 (v : Int), lv] 78 (0, 0)) ∧ X.ownsRow xb 3 1 lv (l ++ pre).length (intsV (l ++ pre)) ∧ SkAt X B sb mb lb kb n (.slice (some ⟨gp, 0, none⟩) lg gc) pv (.slice (some ⟨g', 0, none⟩) (on + 1) cap') dv F { s with times := tm, met := upd s.met v tm, low := upd s.low v tm, opn := s.opn ++ [v] } ∧ Below B w X ∧ MarksAt xb ml X)
          (fun _ _ _ => False)
          ?hI (fun _ _ _ _ _ hs _ _ => hs)
          ⟨lv, HI5.out.x, by rw [List.append_nil]; exact HI5.out.r, HI5.out.sk, HI5.out.be, HI5.out.ms⟩
          ?a1 ?assign ?body ?done ?stop
        case hI =>
          rintro pre X Y row ⟨lv, h1, h2, h3, h4, h5⟩ hg hr
          have ne : ∀ (b : Nat) (cs : Array Value) (t : TypeId) (fr : Nat × Nat), X.heap[b]? = some (.cells cs t fr) → some b ≠ row := fun b cs t fr hb e => by
            obtain ⟨_, o, ho, hc⟩ := hr b e.symm
            rw [hb] at ho
            obtain rfl := Option.some.inj ho
            cases hc
          refine ⟨lv, heap_kept h1 hg (ne _ _ _ _ h1), ownsKeep h2 hg (fun g e e2 => ?_), h3.keepN hg (fun r e => (hr r e).2), h4.grown hg h3.bs.2.2.2.2 (fun k e => ?_), MarksAt.ownFrom (β := Unit) xb _ ml HMK.out () X Y row h5 hg hr⟩
          · rcases h2.2 with ⟨e3, _⟩ | ⟨g3, cap, cur, e3, _, hh, _⟩
            · rw [e3] at e; cases e
            · rw [e3] at e
              obtain rfl := Option.some.inj e
              exact ne _ _ _ _ hh e2.symm
          · have h6 := (hr k e).1
            have h7 := HXW.out
            have h8 := HAH.out.2
            omega
        case assign =>
          intro l' x X K hK
          gi_wp2
          exact hK
        case stop =>
          rintro D c pre X _ _ h _
          exact h.elim
        case body =>
          rintro l' pre x X ⟨lv, h1, h2, h3, h4, h5⟩ hpl
          obtain ⟨nl, hnl⟩ : ∃ k, k = (l ++ pre).length := ⟨_, rfl⟩
          rw [← hnl] at h2
          have hnl2 : nl ≤ 1001001000 := by
            have e1 := HI5.out.len
            have e2 := HGA.out.K
            have e3 : i * n ≤ 1000 * 1000 := Nat.mul_le_mul (by omega) hn
            rw [hnl, List.length_append]
            omega
          have hne1 : lv.ownBlock ≠ some xb := row_ne h2 h1 (by decide)
          have HXK := qhid (fun (w1 : World) (hg : (X.alloc (.cells #[.int .i64 (x : Int)] 3)).grownBy w1 lv.ownBlock) => heap_kept h1 ((World.grownBy_alloc X _ lv.ownBlock).trans hg) (fun e => hne1 e.symm))
          have x1 := Joins.cell_of_block h1 1
          have xf := Joins.unfrozen_of_block h1 1
          have hxl := Reg.size_of_get h1
          simp only [List.getElem?_toArray, List.getElem?_cons_zero, List.getElem?_cons_succ] at x1
          have H1 := qhid h1
          have H2 := qhid h2
          have H3 := qhid h3
          have H4 := qhid h4
          have H5 := qhid h5
          have HNL := qhid hnl
          obtain ⟨i0, hif, hy0, hy1, hy2⟩ := info_parts Try.infoInt
          clear h1 h2 h3 h4 h5 hnl
          gi_wp2_with (first
            | (gi_at_builtin; go_must (refine wpListIn_append_own_at _ rfl _ _ 30 rfl xb 3 i0 (.int .i64 0) 1 8 Try.underlying30 hif hy0 hy1 hy2 rfl (by decide) _ _ _ rfl (ownsAlloc H2.out _) ⟨X.heap.size, 0, none⟩ 1 1 [.int .i64 (x : Int)] rfl rfl (cell_one_new _ _ _) (by simp [Value.oneCell']) (by unfold maxLen; omega) (by omega) (by simp; omega) ?_; intro v' w1 hown' hgrow _ hat; obtain ⟨g2, cap2, rfl⟩ := ownsRow_succ hown'; have hxk := HXK.out w1 hgrow; have k1 : w1.cell? ⟨xb, 1, none⟩ = some lv := by { rw [Joins.cell_of_block hxk 1]; rfl }; have kf := Joins.unfrozen_of_block hxk 1))
            | fail)
          have hgr : (X.alloc (.cells #[.int .i64 (x : Int)] 3)).grownBy w1 lv.ownBlock := hgrow
          have hg1 : X.grownBy w1 lv.ownBlock := (World.grownBy_alloc X _ lv.ownBlock).trans hgr
          have hlx : ∀ r, lv.ownBlock = some r → xb ≤ r := fun r e => (ownsLt H2.out e).1
          have s2 := set_grown w1 xb 1 (.slice (some ⟨g2, 0, none⟩) (nl + 1) cap2)
          have m1 := H5.out.grown hg1 (row_isCells H2.out)
          refine ⟨((KeepsOthers.of_grownBy hg1 (fun j o e ho => by
            obtain ⟨o2, ho2, hc⟩ := row_isCells H2.out j e
            rw [ho] at ho2
            obtain rfl := Option.some.inj ho2
            exact hc)).trans (KeepsOthers.setCell _ _ _)).from _, ((KeepsOthers.of_grownBy hg1 (fun j o e ho => by
            obtain ⟨o2, ho2, hc⟩ := row_isCells H2.out j e
            rw [ho] at ho2
            obtain rfl := Option.some.inj ho2
            exact hc)).trans (KeepsOthers.setCell _ _ _)).walks, .slice (some ⟨g2, 0, none⟩) (nl + 1) cap2, (Joins.block_setCell hxk _).trans (by simp), ?_, (H3.out.farB hg1 HAH.out.1.b HAH.out.1.f hlx).farB s2 HAH.out.1.b HAH.out.1.f (fun r e => by cases e; exact Nat.le_refl _), ?_, m1.grown s2 (fun r e => by cases e; exact ⟨_, hxk, rfl⟩)⟩
          · rw [← List.append_assoc, List.length_append, List.length_singleton, ← HNL.out, show intsV (l ++ pre ++ [x]) = intsV (l ++ pre) ++ [.int .i64 (x : Int)] by simp [intsV]]
            exact ownsKeep hown' s2 (fun g e e2 => row_ne hown' hxk (by decide) (by rw [e]; exact e2.symm))
          · exact (H4.out.grown hg1 H3.out.bs.2.2.2.2 (fun k e => Nat.le_trans HAH.out.2 (hlx k e))).setCell (p := ⟨xb, 1, none⟩) HAH.out.2 _
        case done =>
          rintro D ys X hD hys ⟨lv2, h1, h2, h3, h4, h5⟩ hK
          have H1 := qhid h1
          have H2 := qhid h2
          have H3 := qhid h3
          have H4 := qhid h4
          have H5 := qhid h5
          have HK := qhid hK
          clear h1 h2 h3 h4 h5 hK
          gi_wp2
          obtain ⟨zs, hz, rfl⟩ := hys
          refine ⟨k - 1, by have := HIK.out; omega, i + 1, l ++ zs, lv2, D :: ml, _, _, _, _, _, _, _, _, _, _, _, _, _, _, _, _, by have := HIK.out; omega, rfl, ?_⟩
          refine ⟨H1.out, by have := H2.out; rw [List.map_id] at this; exact this, H3.out, H4.out, H5.out.cons (by have := HXW.out; omega) (fun E hE => by have := HMK.out E hE; omega) HK.out, fun x => ?_, ?_⟩
          · rw [List.mem_append, HI5.out.mem x, hz.2 x]
            constructor
            · rintro (⟨j, g2, hj, e, hm⟩ | hm)
              · exact ⟨j, g2, by omega, e, hm⟩
              · exact ⟨i, g, by omega, HGI.out, hm⟩
            · rintro ⟨j, g2, hj, e, hm⟩
              rcases Nat.lt_succ_iff_lt_or_eq.1 hj with hj | rfl
              · exact .inl ⟨j, g2, hj, e, hm⟩
              · rw [HGI.out] at e
                obtain rfl := Option.some.inj e
                exact .inr hm
          · have h6 := nodup_len n zs hz.1 (fun y hy => (HGA.out.at_.bd v y ((hz.2 y).1 hy)).2)
            have h7 := HI5.out.len
            rw [List.length_append, Nat.succ_mul]
            omega
      · obtain rfl : i = lg := by omega
        have hdl : decide ((i : Int) < (i : Int)) = false := decide_eq_false (by omega)
        have hh := HI.out
        obtain ⟨lp, lc, hlv⟩ := any_slice hh.r
        subst hlv
        obtain ⟨_, _, _, _, c4, _⟩ := hh.sk.cells
        have x0 := Joins.cell_of_block hh.x 0
        have x1 := Joins.cell_of_block hh.x 1
        have hxl := Reg.size_of_get hh.x
        have hsl := Reg.size_of_get hh.sk.sk
        simp only [List.getElem?_toArray, List.getElem?_cons_zero, List.getElem?_cons_succ] at x0 x1
        obtain ⟨i0, hif, hy0, hy1, hy2⟩ := info_parts Try.infoStep
        have hble : B ≤ W.heap.size := hh.sk.bs.2.2.2.2
        have HO : Hid ((W.drew.alloc (.cells #[.int .i64 (v : Int), .slice lp l.length lc] 78)).ownsRow B 78 2 pv F.length (frV F)) := qhid (ownsAlloc (show W.drew.ownsRow B 78 2 pv F.length (frV F) from hh.sk.pr) _)
        have HSK := qhid (fun (w1 : World) (hg : (W.drew.alloc (.cells #[.int .i64 (v : Int), .slice lp l.length lc] 78)).grownBy w1 pv.ownBlock) => (⟨((hh.sk.up (Below.drew (Below.refl _ _))).far hg (row_ne hh.sk.pr hh.sk.sk (by decide)) 4).1.trans c4, ((hh.sk.up (Below.drew (Below.refl _ _))).far hg (row_ne hh.sk.pr hh.sk.sk (by decide)) 4).2⟩ : w1.cell? ⟨sb, 4, none⟩ = some pv ∧ w1.frozen? ⟨sb, 4, none⟩ = false))
        clear hh
        gi_upto_region 11 with fail
        refine Code.wp_mono (Q := fun e a X => e = .normal ∧ a.defers = ml.map mk1 ∧ EntK B sb mb lb kb n (.slice (some ⟨gp, 0, none⟩) i gc) (.slice (some ⟨g', 0, none⟩) (on + 1) cap') dv F s tm v l (.slice lp l.length lc) xb ml w X) ?_ ?_
        · rintro e ⟨ts, ds⟩ X ⟨rfl, hds, hJ⟩
          have hds : ds = ml.map mk1 := hds
          subst hds
          have HJ := qhid hJ
          clear hJ
          show LeavesInM _ _ _ _ _ _ (ml.map mk1) .returning _
          refine leaves_marks xb (EntJ B sb mb lb kb n (.slice (some ⟨gp, 0, none⟩) i gc) (.slice (some ⟨g', 0, none⟩) (on + 1) cap') dv F s tm v l (.slice lp l.length lc) w) ?_ ?_ ml _ HJ.out.ms HJ.out.j
          · rintro W l2 ⟨⟨pv2, h1⟩, h2⟩ hl hd
            exact ⟨⟨pv2, h1.keepN (grownBy_putObj' W l2 _) (fun r e => by cases e; exact ⟨_, hd, rfl⟩)⟩, h2.grown (grownBy_putObj' W l2 _) h1.bs.2.2.2.2 (fun k e => by cases e; exact Nat.le_trans HAH.out.2 hl)⟩
          · rintro W ⟨⟨pv2, h1⟩, h2⟩
            refine ⟨_, results_none rfl _ _ _, rfl, l, .slice lp l.length lc, fun x => ?_, ?_, ?_⟩
            · rw [HI.out.mem x]
              constructor
              · rintro ⟨j, g, _, e, hm⟩
                exact ⟨g, List.mem_of_getElem? e, hm⟩
              · rintro ⟨g, hg, hm⟩
                obtain ⟨j, hj⟩ := List.mem_iff_getElem?.1 hg
                exact ⟨j, g, by rw [HLG.out]; exact (List.getElem?_eq_some_iff.1 hj).1, hj, hm⟩
            · rw [← HLG.out]
              exact HI.out.len
            · rw [← HLG.out, ← HTM.out]
              exact ⟨⟨_, _, _, h1⟩, h2⟩
        go_region_law (first | (refine step_append_ownS rfl (.tmp 71) (.tmp 73) 55 rfl B 78 i0 (.agg #[.int .i64 0, .slice none 0 0]) 2 32 Try.underlying55 hif hy0 hy1 hy2 rfl (by decide) pv F.length (frV F) rfl HO.out ⟨_, 0, none⟩ 1 1 [.int .i64 (v : Int), .slice lp l.length lc] rfl rfl (cell_two_at _ _ _ _) (by simp [Value.oneCell']) (by unfold maxLen; omega) (by omega) (by simp; omega) ?_; intro v4 w4 ho4 hg4 _ hat4; obtain ⟨b4, d4, hs4⟩ : ∃ b c, v4 = .slice b (F.length + 1) c := row_slice ho4; subst hs4; obtain ⟨k4, kf⟩ := HSK.out w4 hg4; have HV4 := qhid (And.intro ho4 hg4); clear ho4 hg4 hat4) | fail)
        all_goals
          obtain ⟨ho4, hg4⟩ := HV4.out
          have hS := HI.out.sk.up (Below.drew (Below.refl _ _))
          have hg5 : W.grownBy w4 pv.ownBlock := (grown_below pv.ownBlock ((Below.drew (Below.refl _ _)).alloc (Nat.le_refl _) _)).trans hg4
          have hk5 := heap_kept hS.sk ((World.grownBy_alloc W.drew _ _).trans hg4) (fun e => row_ne hS.pr hS.sk (by decide) e.symm)
          exact ⟨rfl, rfl, ⟨⟨_, hS.appPath ho4 hg4 (leftOf HI.out.r (by
            have h9 := HAH.out.1.b
            rintro g (rfl | rfl | rfl | h | h)
            · exact h9.2.1
            · exact h9.2.2.1
            · exact h9.2.2.2.1
            · exact h9.2.2.2.2.2.1 g h
            · exact h9.2.2.2.2.2.2 g h))⟩, (HI.out.be.trans (belowApp (show W.drew.ownsRow B 78 2 pv F.length (frV F) from HI.out.sk.pr) hg4 hble |> fun h => (Below.drew (Below.refl _ _)).trans h)).setCell (p := ⟨sb, 4, none⟩) HB0.out.1 _⟩, (HI.out.ms.grown hg5 (row_isCells HI.out.sk.pr)).grown (set_grown _ _ _ _) (fun r e => by cases e; exact ⟨_, hk5, rfl⟩)⟩
end
end Go.Proofs.Ytghfodjefjijdaa
