/- graph: spread told: near things first, for every loop body. -/
import Derived.Test.YtghfodjefjijdaaGrF
import Derived.Test.YtghfodjefjijdaaGrN
namespace Go.Proofs.Ytghfodjefjijdaa
section
open Go Go.RowKit Go.Shelf Go.Maps
theorem GrAt.keepX {w w' : World} {B gb tb n K : Nat} {mp : Nat → Option Nat} {m : Nat → Nat → Bool} {cnt : Nat} {Ob : Nat → Prop} (h : GrAt w B gb tb n K mp m cnt) (hk : KeepX Ob w w') (h1 : ¬ Ob gb) (h2 : ¬ Ob tb) (h3 : ∀ i b, i < n → mp i = some b → ¬ Ob b) : GrAt w' B gb tb n K mp m cnt :=
  { h with
    g := hk.same _ _ h.g (.inl rfl) h1
    t := hk.same _ _ h.t (.inl rfl) h2
    th := fun i b hi e => by
      obtain ⟨D, ⟨es, c, hb, r⟩, hD⟩ := h.th i b hi e
      exact ⟨D, ⟨es, c, hk.same _ _ hb (.inr rfl) (h3 i b hi e), r⟩, hD⟩ }
theorem ThAt.keepX {w w' : World} {b K : Nat} {q : Nat → Bool} {Ob : Nat → Prop} (h : ThAt w b K q) (hk : KeepX Ob w w') (h1 : ¬ Ob b) : ThAt w' b K q := by
  obtain ⟨D, ⟨es, c, hb, r⟩, hD⟩ := h
  exact ⟨D, ⟨es, c, hk.same _ _ hb (.inr rfl) h1, r⟩, hD⟩
theorem ownsKeepX {w w' : World} {B : Nat} {e : TypeId} {v : Value} {n sz : Nat} {xs : List Value} {Ob : Nat → Prop} (h : w.ownsRow B e sz v n xs) (hk : KeepX Ob w w') (h1 : ∀ b, B ≤ b → ¬ Ob b) : w'.ownsRow B e sz v n xs := by
  refine ⟨h.1, ?_⟩
  rcases h.2 with h2 | ⟨b, cap, cur, e1, hb, hh, r⟩
  · exact .inl h2
  · exact .inr ⟨b, cap, cur, e1, hb, hk.same _ _ hh (.inl rfl) (h1 b hb), r⟩
/-- A row of numbers that is not empty. -/
theorem row_form {w : World} {B n : Nat} {v : Value} {xs : List Nat} (h : w.ownsRow B 3 1 v n (intsV xs)) (hn : 0 < n) : ∃ g cap, v = .slice (some ⟨g, 0, none⟩) n cap ∧ B ≤ g ∧ g < w.heap.size ∧ ∀ (j x : Nat), xs[j]? = some x → w.cell? ⟨g, j, none⟩ = some (.int .i64 (x : Int)) := by
  rcases h.2 with ⟨_, h0⟩ | ⟨g, cap, cur, hv, hb, hh, hn', hm, hs, ht⟩
  · omega
  · refine ⟨g, cap, hv, hb, Reg.size_of_get hh, fun j x hx => ?_⟩
    subst hv
    have hj := (List.getElem?_eq_some_iff.1 hx).1
    have hl := h.1
    rw [intsV_len] at hl
    have := h.cellAt j (by omega)
    rw [this]
    simp [intsV, hx]
/-- What spread keeps as it goes. -/
structure SprC (B gb tb nt K : Nat) (mp : Nat → Option Nat) (m : Nat → Nat → Bool) (cnt : Nat) (Bg a0 M : Nat) (wr : World) (l : List Nat) (v : Value) (c : Nat) : Prop where
  gr : GrAt wr B gb tb nt K mp m cnt
  bx : Boxed wr Bg 24 (.pointer (some ⟨gb, 0, none⟩))
  row : wr.ownsRow a0 3 1 v l.length (intsV l)
  mm : ThAt wr M c (fun j => decide (j ∈ l))
  sz : a0 ≤ wr.heap.size
  lo : gb < a0 ∧ tb < a0 ∧ ∀ i b, i < nt → mp i = some b → b < a0
  lb : Bg < a0
  lm : a0 ≤ M
section
variable {B gb tb nt K : Nat} {mp : Nat → Option Nat} {m : Nat → Nat → Bool} {cnt : Nat} {Bg a0 M : Nat} {wr wr' : World} {l : List Nat} {v v' : Value} {c : Nat}
theorem SprC.up (h : SprC B gb tb nt K mp m cnt Bg a0 M wr l v c) (hb : Below wr.heap.size wr wr') : SprC B gb tb nt K mp m cnt Bg a0 M wr' l v c :=
  ⟨h.gr.up hb, h.bx.kept (grown_below none hb) (by simp), ownsBelow h.row hb, h.mm.kept (grown_below none hb) (by simp), Nat.le_trans h.sz hb.size, h.lo, h.lb, h.lm⟩
theorem SprC.keepX {Ob : Nat → Prop} (h : SprC B gb tb nt K mp m cnt Bg a0 M wr l v c) (hk : KeepX Ob wr wr') (hO : ∀ b, a0 ≤ b → ¬ Ob b) (h1 : ¬ Ob gb) (h2 : ¬ Ob tb) (h3 : ∀ i b, i < nt → mp i = some b → ¬ Ob b) (h4 : ¬ Ob Bg) : SprC B gb tb nt K mp m cnt Bg a0 M wr' l v c :=
  ⟨h.gr.keepX hk h1 h2 h3, hk.same _ _ h.bx (.inl rfl) h4, ownsKeepX h.row hk hO, h.mm.keepX hk (hO M h.lm), Nat.le_trans h.sz hk.size, h.lo, h.lb, h.lm⟩
theorem SprC.put {x : Nat} (h : SprC B gb tb nt K mp m cnt Bg a0 M wr l v c) (ht : ThAt wr' M (c + 1) (upd (fun j => decide (j ∈ l)) x true)) (hg : wr.grownBy wr' (some M)) (hx : x ∈ l) : SprC B gb tb nt K mp m cnt Bg a0 M wr' l v (c + 1) := by
  obtain ⟨es, cl, hm⟩ := h.mm.map
  refine ⟨h.gr.far h.lo hg (fun r e => by cases e; exact h.lm), h.bx.kept hg (fun e => by have := h.lb; have := h.lm; have := Option.some.inj e; omega), ownsKeep h.row hg (fun g e e2 => ?_), ?_, Nat.le_trans h.sz hg.size, h.lo, h.lb, h.lm⟩
  · obtain ⟨o, ho, hc⟩ := row_isCells h.row g e
    obtain rfl := Option.some.inj e2
    rw [hm] at ho
    obtain rfl := Option.some.inj ho
    cases hc
  · have e : upd (fun j => decide (j ∈ l)) x true = fun j => decide (j ∈ l) := by
      funext j
      unfold upd
      split
      · next e => rw [e]; simp [hx]
      · rfl
    rw [e] at ht
    exact ht
/-- One more in line: the map has it, then the row. -/
theorem SprC.app {x : Nat} {wm : World} {o : Obj} (h : SprC B gb tb nt K mp m cnt Bg a0 M wr l v c) (ht : ThAt wm M (c + 1) (upd (fun j => decide (j ∈ l)) x true)) (hg : wr.grownBy wm (some M)) (hr : wr'.ownsRow a0 3 1 v' (l.length + 1) (intsV l ++ [.int .i64 (x : Int)])) (hg2 : (wm.alloc o).grownBy wr' v.ownBlock) : SprC B gb tb nt K mp m cnt Bg a0 M wr' (l ++ [x]) v' (c + 1) := by
  obtain ⟨es, cl, hm⟩ := h.mm.map
  obtain ⟨es2, cl2, hm2⟩ := ht.map
  have hrw : wm.ownsRow a0 3 1 v l.length (intsV l) := ownsKeep h.row hg (fun g e e2 => by
    obtain ⟨o, ho, hc⟩ := row_isCells h.row g e
    obtain rfl := Option.some.inj e2
    rw [hm] at ho
    obtain rfl := Option.some.inj ho
    cases hc)
  have hg1 : wm.grownBy wr' v.ownBlock := (World.grownBy_alloc wm o _).trans hg2
  have hbl : Below a0 wr wm := (Below.refl a0 wr).grown hg h.sz (fun k e => by cases e; exact h.lm)
  have hz := hg.size
  have hlt : ∀ r, v.ownBlock = some r → a0 ≤ r := fun r e => (ownsLt hrw e).1
  have gm := h.gr.far h.lo hg (fun r e => by cases e; exact h.lm)
  have bm := h.bx.kept hg (fun e => by have := h.lb; have := h.lm; have := Option.some.inj e; omega)
  refine ⟨gm.far h.lo hg1 hlt, bm.kept hg1 (fun e => by have := hlt Bg e.symm; have := h.lb; omega), ?_, ?_, Nat.le_trans h.sz (Nat.le_trans hz hg1.size), h.lo, h.lb, h.lm⟩
  · rw [List.length_append, List.length_singleton, show intsV (l ++ [x]) = intsV l ++ [.int .i64 (x : Int)] by simp [intsV]]
    exact hr
  · have e : upd (fun j => decide (j ∈ l)) x true = fun j => decide (j ∈ l ++ [x]) := by
      funext j
      unfold upd
      split
      · next e => rw [e]; simp
      · next e => simp [e]
    rw [← e]
    refine ht.kept hg1 (fun e => ?_)
    obtain ⟨o, ho, hc⟩ := row_isCells hrw M e.symm
    rw [hm2] at ho
    obtain rfl := Option.some.inj ho
    cases hc
end
theorem Try.infoInt : (Try.prog.info? 3).map (fun i => (i.zero, i.size, i.bytes)) = some (some (.int .i64 0), 1, 8) := by kernel_rfl
theorem ar_len {E : Nat → List Nat} {l : List Nat} {N : Nat} (h : ∀ u, (E u).length ≤ N) (i j : Nat) : (ar E l i j).length ≤ N * i + j := by
  unfold ar
  rw [List.length_append, List.length_map, List.length_flatMap]
  have h1 : ((l.take i).map fun u => ((E u).map (Prod.mk u)).length).sum ≤ N * i := by
    have h3 : (l.take i).length ≤ i := by rw [List.length_take]; omega
    generalize l.take i = k at h3
    have : ∀ k : List Nat, (k.map fun u => ((E u).map (Prod.mk u)).length).sum ≤ N * k.length := by
      intro k
      induction k with
      | nil => simp
      | cons u r ih =>
        rw [List.map_cons, List.sum_cons, List.length_cons, List.length_map, Nat.mul_succ]
        have := h u
        omega
    exact Nat.le_trans (this k) (Nat.mul_le_mul_left _ h3)
  have h2 : ((E (l.getD i 0)).take j).length ≤ j := by rw [List.length_take]; omega
  omega
def sprT (gb : Nat) (gl : Nat) (ln : Nat) (cap : Nat) (i : Nat) (u : Nat) (k : Nat) (gh : Value × Unit) : Nat → Value
  | 0 => .pointer (some ⟨gb, 0, none⟩)
  | 1 => .slice (some ⟨gl, 0, none⟩) ln cap
  | 2 => .int .i64 (i : Int)
  | 3 => .pointer (some ⟨gl, i, none⟩)
  | 4 => .int .i64 (u : Int)
  | 5 => gh.1
  | 6 => .int .i64 (k : Int)
  | 7 => .int .i64 0
  | _ => undef
theorem sprT_a {gb : Nat} {gl : Nat} {ln : Nat} {cap : Nat} {i : Nat} {u : Nat} {k : Nat} {gh : Value × Unit} {gx} {j : Nat} (h5 : j ≠ 5) : sprT gb gl ln cap i u k (gx, gh.2) j = sprT gb gl ln cap i u k gh j := by
  unfold sprT
  split <;> first | rfl | exact absurd rfl ‹_›
set_option maxRecDepth 100000 in
set_option maxHeartbeats 4000000 in
theorem gspread1_any (n l Bn Bg : Nat) (a : Nat) (Ob : Nat → Prop) (W : World) {B gb tb nt K : Nat} {mp : Nat → Option Nat} {m : Nat → Nat → Bool} {cnt : Nat} (h : GrAt W B gb tb nt K mp m cnt) (ha : a < nt) (hnt : nt ≤ 1000) (hK : K ≤ 1000000)
    (hg : Boxed W Bg 24 (.pointer (some ⟨gb, 0, none⟩))) (hn1 : Boxed W Bn 3 (.int .i64 (a : Int)))
    (hO : ∀ b, Ob b → b < W.heap.size) (h1 : ¬ Ob gb) (h2 : ¬ Ob tb) (h3 : ∀ i b, i < nt → mp i = some b → ¬ Ob b) (h4 : ¬ Ob Bg)
    (J Jx : List (Nat × Nat) → World → Prop)
    (hJ : ∀ s X Y row, J s X → X.grownBy Y row → (∀ r, row = some r → W.heap.size ≤ r ∧ ∃ o : Obj, X.heap[r]? = some o ∧ (o.isCells = true ∨ o.isWalk = true)) → J s Y)
    (hY : ∀ pre x W1, J pre W1 → NextArc (fun u => succ nt (m u)) a pre x → YieldAt Fence.wide (n - 1) Try.prog l #[.int .i64 (x.1 : Int), .int .i64 (x.2 : Int)] W1 fun e W' =>
      (e = .returned (.bool true) ∧ J (pre ++ [x]) W' ∧ KeepX Ob W1 W') ∨ (e = .returned (.bool false) ∧ Jx (pre ++ [x]) W'))
    (h0 : J [] W) :
    CallsIn Fence.wide n Try.prog 33 #[.func (.yield l) #[] #[], .pointer (some ⟨Bn, 0, none⟩), .pointer (some ⟨Bg, 0, none⟩)] W fun e W' => (∃ v, e = .returned v) ∧
      ((∃ xs, AllArcs (fun u => succ nt (m u)) a xs ∧ J xs W') ∨ (∃ pre, SomeArcs (fun u => succ nt (m u)) a pre ∧ Jx pre W')) := by
  have hmm := @run_makeMap Try.prog
  obtain ⟨W2, hins, hw2, hg2⟩ := (World.ownsMap_made W Try.prog 3 (unitElem (H := Unit))).update (int_keyed Try.underlying3) Try.underlying68 (by decide) (keyOf_int_mk Try.underlying3 (wf_nat (j := a) (by omega))) unitElem_mk
  have ht2 : ThAt W2 W.heap.size 1 (upd (fun _ => false) a true) := ThAt.put (K := 0) (.map []) (fun x => by simp [Maps.has]) isMap_empty hw2 (by omega)
  have gW : W.grownBy W2 none := (World.grownBy_alloc W (.map #[] 0) none).andThen hg2 (fun j e => by cases e; exact .inl (Nat.le_refl _))
  have hn2 := (hn1.kept gW (by simp)).cell
  have hn0 := (hn1.alloc (.map #[] 0)).cell
  have hn00 := hn1.cell
  refine callsIn_of_wp Try.func33 rfl trivial ?_ rfl
  simp only [Try.ntmps33, List.size_toArray, List.length_cons, List.length_nil, Nat.reduceAdd, Nat.reduceSub, Array.replicate_succ, Array.replicate_zero, List.push_toArray, List.append_toArray, List.nil_append, List.cons_append]
  have H := qhid h
  have HJ := qhid hJ
  have HY := qhid hY
  have HG := qhid hg
  have HT := qhid ht2
  have HGW := qhid gW
  have HJ0 := qhid h0
  clear h hJ hY hg h0 ht2 gW hn1 hw2 hg2
  gi_wp2
  obtain ⟨W3, hW3⟩ : ∃ X, X = W2.alloc (.cells #[.int .i64 (a : Int)] 3) := ⟨_, rfl⟩
  have HS3 : Hid (SprC B gb tb nt K mp m cnt Bg W.heap.size W.heap.size W3 [a] (.slice (some ⟨W2.heap.size, 0, none⟩) 1 1) 1) := by
    have g3 : W.grownBy W3 none := HGW.out.andThen (show W2.grownBy W3 none by rw [hW3]; exact World.grownBy_alloc _ _ _) (fun j e => by cases e)
    have hlt := H.out.lt
    refine qhid ⟨H.out.kept g3 (fun r e => by cases e), HG.out.kept g3 (by simp), ⟨rfl, .inr ⟨_, 1, _, rfl, HGW.out.size, by rw [hW3]; exact heap_new _ _, by simp, by decide, rfl, rfl⟩⟩, ?_, g3.size, hlt, HG.out.lt, Nat.le_refl _⟩
    have e : upd (fun _ => false) a true = fun j => decide (j ∈ [a]) := by
      funext j
      unfold upd
      split
      · next e => simp [e]
      · next e => simp [e]
    rw [hW3, ← e]
    exact HT.out.kept (World.grownBy_alloc _ _ none) (by simp)
  have HJ3 : Hid (J (ar (fun u => succ nt (m u)) [a] 0 0) W3) := qhid (HJ.out _ W W3 none HJ0.out (HGW.out.andThen (show W2.grownBy W3 none by rw [hW3]; exact World.grownBy_alloc _ _ _) (fun j e => by cases e)) (fun r e => by cases e))
  rw [← hW3]
  obtain ⟨g0, hg0⟩ : ∃ g, g = W2.heap.size := ⟨_, rfl⟩
  obtain ⟨M, hM⟩ : ∃ g, g = W.heap.size := ⟨_, rfl⟩
  rw [← hg0] at HS3 ⊢
  have HM := qhid hM
  rw [← hM] at HS3 ⊢
  have hbE : ∀ u, ∀ j ∈ succ nt (m u), j < nt := fun u j hj => by
    unfold succ at hj
    exact List.mem_range.1 (List.mem_filter.1 hj).1
  have HBE := qhid hbE
  have HLB : Hid (∀ l i j, Bf (fun u => succ nt (m u)) a l i j → ∀ v ∈ l, v < nt) := qhid (fun l i j hb v hv => (hb.inv.rc v hv).keeps (Q := fun v => v < nt) (fun x y _ hxy => hbE x y hxy) ha)
  clear hW3 hg0 hM HT HGW HJ0 hins hn2 hn0 hn00 hmm hbE
  gi_loopw [5, 6] (fun v iv wr => ∃ (L : List Nat) (i c gl ln cap : Nat), v = .slice (some ⟨gl, 0, none⟩) ln cap ∧ iv = .int .i64 (i : Int) ∧ ln = L.length ∧ i ≤ ln ∧ ln ≤ nt ∧ c ≤ 1 + nt * i ∧ Hid (Bf (fun u => succ nt (m u)) a L i 0) ∧ Hid (SprC B gb tb nt K mp m cnt Bg M M wr L (.slice (some ⟨gl, 0, none⟩) ln cap) c) ∧ Hid (J (ar (fun u => succ nt (m u)) L i 0) wr))
    (fun _ iv _ => nt - (intOf iv).toNat)
  case atStart => exact ⟨[a], 0, 1, g0, 1, 1, rfl, rfl, rfl, by omega, by omega, by omega, qhid .start, HS3, HJ3⟩
  case round =>
    clear HS3 HJ3
    obtain ⟨L, i, c, gl, ln, cap, rfl, rfl, hln, hi, hlnt, hc, HB, HS0, HJS⟩ := hrel
    have HLN := qhid hln
    clear hln
    by_cases hlt : i < ln
    · have hdl : decide ((i : Int) < (ln : Int)) = true := decide_eq_true (by omega)
      obtain ⟨u, hu⟩ : ∃ u, u = L.getD i 0 := ⟨_, rfl⟩
      have hiL : i < L.length := by rw [← HLN.out]; exact hlt
      have HU : Hid (u < nt) := qhid (HLB.out L i 0 HB.out u (by rw [hu]; exact getD_mem hiL))
      have HKK := qhid hK
      have HIL := qhid hlt
      have hf := row_form (xs := L) (by have := HS0.out.row; rwa [← HLN.out] at this) (Nat.lt_of_le_of_lt (Nat.zero_le _) hlt)
      obtain ⟨g', cap', e1, hgb, hgl, hcells⟩ := hf
      injection e1 with e1 _ e2
      injection e1 with e1
      injection e1 with e1
      subst e1 e2
      have HGL := qhid hgl
      have HCU : Hid (wr.cell? ⟨gl, i, none⟩ = some (.int .i64 (u : Int))) := qhid (hcells i u (by rw [hu, getD_get hiL, List.getElem?_eq_getElem hiL]))
      have HUE := qhid hu
      clear hcells hgb hgl hu
      gi_wp2
      refine wpIn_wide.2 ?_
      refine Reg.wp_region_H (sprT gb gl ln cap i u (succ nt (m u)).length) (Reg.MkS wr 5 99 (fun g X => X.ownsRow wr.heap.size 3 1 g.1 (succ nt (m u)).length (intsV (succ nt (m u)))) (fun _ _ => True)) (undef, ()) [0, 1, 2, 3, 4, 5, 6, 7] (by rfl) (by kernel_rfl) (by kernel_rfl) ?_ ?_ ?_
      · exact Reg.MkS.start _ _
      · skip
        refine ⟨fun gh listed A X hI hcl hin hun hall => ⟨Reg.wanted_none rfl, ?_⟩, ?_⟩
        · have e2 := hI.evo (d := 2) (by kernel_rfl) rfl
          have HS := hI.st
          have hX := HS.bel
          have f := (HS0.out.up hX).bx.cell
          have HX := qhid hX
          clear hI hX
          unfold Reg.Yields
          go_simp
          exact ⟨gh, fun _ _ => rfl, rfl, HS.up (by decide) (by decide) (by intro g X Y hb h; exact ownsBelow h hb) Reg.upB_true (Below.refl _ _)⟩
        refine ⟨fun gh listed A X hI hcl hin hun hall => ⟨Reg.wanted_none rfl, ?_⟩, ?_⟩
        · have e5 := hI.evo (d := 5) (by kernel_rfl) rfl
          have HS := hI.st
          have hX := HS.bel
          have HX := qhid hX
          clear hI hX
          unfold Reg.Yields
          go_simp
          exact ⟨gh, fun _ _ => rfl, rfl, HS.up (by decide) (by decide) (by intro g X Y hb h; exact ownsBelow h hb) Reg.upB_true (Below.refl _ _)⟩
        refine ⟨fun gh listed A X hI hcl hin hun hall => ⟨Reg.wanted_none rfl, ?_⟩, ?_⟩
        · have e6 := hI.evo (d := 6) (by kernel_rfl) rfl
          have HS := hI.st
          have hX := HS.bel
          have HX := qhid hX
          clear hI hX
          unfold Reg.Yields
          go_simp
          exact ⟨gh, fun _ _ => rfl, rfl, HS.up (by decide) (by decide) (by intro g X Y hb h; exact ownsBelow h hb) Reg.upB_true (Below.refl _ _)⟩
        refine ⟨fun gh listed A X hI hcl hin hun hall => ⟨Reg.wanted_none rfl, ?_⟩, ?_⟩
        · have e22 : A.tmps[22]? = some (.slice (some ⟨gl, 0, none⟩) ln cap) := hI.ev (i := 1) (d := 22) (by rfl) (hall ⟨1, .data⟩ (by simp) rfl)
          have e23 : A.tmps[23]? = some (.int .i64 (i : Int)) := hI.ev (i := 2) (d := 23) (by rfl) (hall ⟨2, .data⟩ (by simp) rfl)
          have HS := hI.st
          have hX := HS.bel
          have hil := HIL.out
          have HX := qhid hX
          clear hI hX
          unfold Reg.Yields
          go_simp
          exact ⟨gh, fun _ _ => rfl, rfl, HS.up (by decide) (by decide) (by intro g X Y hb h; exact ownsBelow h hb) Reg.upB_true (Below.refl _ _)⟩
        refine ⟨fun gh listed A X hI hcl hin hun hall => ⟨Reg.wanted_none rfl, ?_⟩, ?_⟩
        · have e24 : A.tmps[24]? = some (.pointer (some ⟨gl, i, none⟩)) := hI.ev (i := 3) (d := 24) (by rfl) (hall ⟨3, .data⟩ (by simp) rfl)
          have HS := hI.st
          have hX := HS.bel
          have f := (hX.cell (p := ⟨gl, i, none⟩) HGL.out).trans HCU.out
          have HX := qhid hX
          clear hI hX
          unfold Reg.Yields
          go_simp
          exact ⟨gh, fun _ _ => rfl, rfl, HS.up (by decide) (by decide) (by intro g X Y hb h; exact ownsBelow h hb) Reg.upB_true (Below.refl _ _)⟩
        refine ⟨fun gh listed A X hI hcl hin hun hall => ⟨Reg.wanted_none rfl, ?_⟩, ?_⟩
        · have e21 : A.tmps[21]? = some (.pointer (some ⟨gb, 0, none⟩)) := hI.ev (i := 0) (d := 21) (by rfl) (hall ⟨0, .data⟩ (by simp) rfl)
          have e25 : A.tmps[25]? = some (.int .i64 (u : Int)) := hI.ev (i := 4) (d := 25) (by rfl) (hall ⟨4, .data⟩ (by simp) rfl)
          have HS := hI.st
          have hX := HS.bel
          have hzz : listed.getD 99 false = false := by rw [Array.getD_eq_getD_getElem?, Array.getElem?_eq_none (by have := hI.size; simp at this; omega)]; rfl
          have HZZ := qhid hzz
          clear hzz
          have HX := qhid hX
          clear hI hX
          unfold Reg.Yields
          go_simp
          exact (gfrom_any (HS0.out.up HX.out).gr u HU.out HKK.out).mono fun e w2 h => by
            obtain ⟨v, he, hr, hb⟩ := h
            exact ⟨v, he, (v, ()), fun j hj => sprT_a (j := j) (fun e => by rw [e] at hj; rw [hj] at hun; cases hun), rfl, HS.first (by decide) HZZ.out hb (ownsMono hr HX.out.size)⟩
        refine ⟨fun gh listed A X hI hcl hin hun hall => ⟨Reg.wanted_none rfl, ?_⟩, ?_⟩
        · have e26 : A.tmps[26]? = some (gh.1) := hI.ev (i := 5) (d := 26) (by rfl) (hall ⟨5, .data⟩ (by simp) rfl)
          have HS := hI.st
          have hX := HS.bel
          obtain ⟨p, cp, hsl⟩ := any_slice (HS.one (hall ⟨5, .data⟩ (by simp) rfl))
          rw [hsl] at e26
          clear hsl
          have HX := qhid hX
          clear hI hX
          unfold Reg.Yields
          go_simp
          exact ⟨gh, fun _ _ => rfl, rfl, HS.up (by decide) (by decide) (by intro g X Y hb h; exact ownsBelow h hb) Reg.upB_true (Below.refl _ _)⟩
        refine ⟨fun gh listed A X hI hcl hin hun hall => ⟨Reg.wanted_none rfl, ?_⟩, ?_⟩
        · have HS := hI.st
          have hX := HS.bel
          have HX := qhid hX
          clear hI hX
          unfold Reg.Yields
          go_simp
          exact ⟨gh, fun _ _ => rfl, rfl, HS.up (by decide) (by decide) (by intro g X Y hb h; exact ownsBelow h hb) Reg.upB_true (Below.refl _ _)⟩
        trivial
      · intro gh X hS
        have HX := qhid hS.bel
        have H1 := qhid (hS.one (by rfl))
        clear hS
        simp [Reg.finalTmps, Reg.dstAt, Reg.valOf, sprT]
        obtain ⟨fv, gu⟩ := gh
        obtain ⟨p, cp, e⟩ := any_slice H1
        dsimp only at e
        subst e
        have HS1 := qhid (HS0.out.up HX.out)
        have HJ1 : Hid (J (ar (fun u => succ nt (m u)) L i 0) X) := qhid (HJ.out _ wr X none HJS.out (grown_below none HX.out) (fun r e => by cases e))
        have HF1 : Hid (X.ownsRow M 3 1 (.slice p (succ nt (m u)).length cp) (succ nt (m u)).length (intsV (succ nt (m u)))) := qhid (ownsMono H1 HS0.out.sz)
        have HAP : Hid (∀ g, p = some ⟨g, 0, none⟩ → g ≠ gl) := qhid (fun g e e2 => by
          have := (ownsLt H1 (g := g) (by rw [e]; rfl)).1
          have := HGL.out
          omega)
        obtain ⟨ne, hne⟩ : ∃ ne, ne = (succ nt (m u)).length := ⟨_, rfl⟩
        have HNE := qhid hne
        have hnele : ne ≤ nt := by rw [hne]; exact succ_len _ _
        rw [← hne] at HF1 ⊢
        have HC := qhid hc
        clear H1 HS0 HJS HX hne hdl hc HCU HIL HGL
        gi_wp2
        gi_loopw [5, 28] (fun v kv wx => ∃ (L2 : List Nat) (j c2 gl2 ln2 cap2 : Nat), v = .slice (some ⟨gl2, 0, none⟩) ln2 cap2 ∧ kv = .int .i64 (j : Int) ∧ Hid (ln2 = L2.length) ∧ j ≤ ne ∧ ln2 ≤ nt ∧ i < ln2 ∧ Hid (c2 ≤ 1 + nt * i + j) ∧ Hid (L2.getD i 0 = u) ∧ Hid (Bf (fun u => succ nt (m u)) a L2 i j) ∧ Hid (SprC B gb tb nt K mp m cnt Bg M M wx L2 (.slice (some ⟨gl2, 0, none⟩) ln2 cap2) c2) ∧ Hid (J (ar (fun u => succ nt (m u)) L2 i j) wx) ∧ Hid (wx.ownsRow M 3 1 (.slice p ne cp) ne (intsV (succ nt (m u)))) ∧ Hid (∀ g, p = some ⟨g, 0, none⟩ → g ≠ gl2))
          (fun _ kv _ => ne - (intOf kv).toNat)
        case atStart => exact ⟨L, 0, c, gl, ln, cap, rfl, rfl, HLN, by omega, hlnt, hlt, qhid (by have := HC.out; omega), qhid HUE.out.symm, HB, HS1, HJ1, HF1, HAP⟩
        case round =>
          clear HS1 HJ1 HF1 HAP HB HLN HUE HC hlt hlnt hi
          obtain ⟨L2, j, c2, gl2, ln2, cap2, rfl, rfl, HLN, hj, hln2, hi2, HC, HU2, HB, HS2, HJ2, HF2, HAP⟩ := hrel
          have hi3 : i < L2.length := by rw [← HLN.out]; exact hi2
          by_cases hjl : j < ne
          · have hdl : decide ((j : Int) < (ne : Int)) = true := decide_eq_true (by omega)
            obtain ⟨g2, cp2, e1, hgb, hgl, hcells⟩ := row_form HF2.out (Nat.lt_of_le_of_lt (Nat.zero_le _) hjl)
            injection e1 with e1 _ e2
            subst e1 e2
            have hjs : j < (succ nt (m u)).length := by rw [← HNE.out]; exact hjl
            obtain ⟨x, hx⟩ : ∃ x, (succ nt (m u))[j]? = some x := ⟨_, List.getElem?_eq_getElem hjs⟩
            have c1 := hcells j x hx
            have hf := row_form (xs := L2) (by have := HS2.out.row; rwa [← HLN.out] at this) (Nat.lt_of_le_of_lt (Nat.zero_le _) hi2)
            obtain ⟨g3, cap3, e3, _, hgl3, hcells3⟩ := hf
            injection e3 with e3 _ e4
            injection e3 with e3
            injection e3 with e3
            subst e3 e4
            have c3 := hcells3 i u (by rw [← HU2.out, getD_get hi3, List.getElem?_eq_getElem hi3])
            have HNX : Hid (NextArc (fun u => succ nt (m u)) a (ar (fun u => succ nt (m u)) L2 i j) (u, x)) := qhid ⟨L2, i, j, HB.out, hi3, by show (succ nt (m (L2.getD i 0)))[j]? = some x; rw [HU2.out]; exact hx, HU2.out.symm, rfl⟩
            obtain ⟨fn, tmps, assign, body, hy, hR⟩ := HY.out _ (u, x) wr HJ2.out HNX.out
            dsimp only at hy
            have HX1 := qhid hx
            clear hcells hcells3 hgb hgl hgl3 hjs hx
            gi_wp2
            refine ⟨fun h => absurd h (by decide), hR.mono ?_⟩
            rintro e W5 (⟨rfl, hJ5, hk5⟩ | ⟨rfl, hJx5⟩)
            · have hO' : ∀ b, M ≤ b → ¬ Ob b := fun b hb ho => by have := hO b ho; have := HM.out; omega
              have HS5 := qhid (HS2.out.keepX hk5 hO' h1 h2 h3 h4)
              have HF5 := qhid (ownsKeepX HF2.out hk5 hO')
              have hcm : nt * i ≤ 1000000 := Nat.le_trans (Nat.mul_le_mul hnt (Nat.le_trans (Nat.le_of_lt hi2) (Nat.le_trans hln2 hnt))) (by omega)
              have HA := qhid (gadd_any M c2 x _ W5 HS5.out.mm (by have := HC.out; omega) (by have := HBE.out u x (List.mem_of_getElem? HX1.out); omega))
              have HJ5 := qhid hJ5
              have HCM := qhid hcm
              clear hJ5 hk5 hO' HS2 HF2 HJ2 c1 c3 hcm hR hy
              by_cases hxl : x ∈ L2
              · rw [decide_eq_true hxl] at HA
                have HXL := qhid hxl
                clear hxl
                gi_wp2_with fail
                refine ⟨trivial, fun h => absurd h (by decide), (callsIn_wide.2 HA.out).mono ?_⟩
                rintro e W6 ⟨rfl, ht, hg⟩
                have HS6 := qhid (HS5.out.put ht hg HXL.out)
                have HF6 := qhid (ownsKeep HF5.out hg (fun g e e2 => by
                  obtain ⟨o, ho, hc⟩ := row_isCells HF5.out g e
                  obtain ⟨es, cl, hm⟩ := HS5.out.mm.map
                  obtain rfl := Option.some.inj e2
                  rw [hm] at ho
                  obtain rfl := Option.some.inj ho
                  cases hc))
                have HJ6 := qhid (HJ.out _ W5 W6 (some M) HJ5.out hg (fun r e => by
                  obtain ⟨es, cl, hm⟩ := HS5.out.mm.map
                  cases e
                  exact ⟨Nat.le_of_eq HM.out.symm, _, hm, .inr rfl⟩))
                clear ht hg
                gi_wp2_with fail
                go_roundw
                case rel => exact ⟨L2, j + 1, c2 + 1, gl2, ln2, cap2, rfl, by simp, HLN, by omega, hln2, hi2, qhid (by have := HC.out; omega), HU2, qhid (.old HB.out hi3 (by rw [HU2.out]; exact HX1.out) HXL.out), HS6, qhid (by rw [ar_step (x := x) (by show (succ nt (m (L2.getD i 0)))[j]? = _; rw [HU2.out]; exact HX1.out), HU2.out]; exact HJ6.out), HF6, HAP⟩
                case measure => show ne - ((j : Int) + 1).toNat < ne - ((j : Int)).toNat; omega
              · rw [decide_eq_false hxl] at HA
                have HXL := qhid hxl
                clear hxl
                gi_wp2_with fail
                refine ⟨trivial, fun h => absurd h (by decide), (callsIn_wide.2 HA.out).mono ?_⟩
                rintro e W6 ⟨rfl, ht, hg⟩
                have hrow : W6.ownsRow M 3 1 (.slice (some ⟨gl2, 0, none⟩) ln2 cap2) ln2 (intsV L2) := ownsKeep (by have := HS5.out.row; rwa [← HLN.out] at this) hg (fun g e e2 => by
                  obtain ⟨o, ho, hc⟩ := row_isCells HS5.out.row g e
                  obtain ⟨es, cl, hm⟩ := HS5.out.mm.map
                  obtain rfl := Option.some.inj e2
                  rw [hm] at ho
                  obtain rfl := Option.some.inj ho
                  cases hc)
                have HR6 := qhid hrow
                have HT6 := qhid ht
                have HG6 := qhid hg
                have hz6 : M ≤ W6.heap.size := Nat.le_trans HS5.out.sz hg.size
                obtain ⟨i0, hif, hy0, hy1, hy2⟩ := info_parts Try.infoInt
                clear ht hg hrow
                gi_wp2_with (gi_at_builtin; go_must (refine wpListIn_append_own_at _ rfl _ _ 30 rfl M 3 i0 (.int .i64 0) 1 8 Try.underlying30 hif hy0 hy1 hy2 rfl (by decide) _ _ _ rfl (ownsAlloc HR6.out _) ⟨W6.heap.size, 0, none⟩ 1 1 [.int .i64 (x : Int)] rfl rfl (cell_one_new _ _ _) (by simp [Value.oneCell']) (by unfold maxLen; omega) (by omega) (by simp; omega) ?_; intro v' w1 hown' hgrow _ hat; obtain ⟨g', cap', rfl⟩ := ownsRow_succ hown'))
                have hgr : (W6.alloc (.cells #[.int .i64 (x : Int)] 3)).grownBy w1 (some gl2) := hgrow
                have hat' : g' = gl2 ∨ g' = W6.heap.size + 1 := by
                  have h6 : some g' = some gl2 ∨ some g' = some (W6.alloc (.cells #[.int .i64 (x : Int)] 3)).heap.size := hat
                  rw [World.size_alloc] at h6
                  exact h6.imp Option.some.inj Option.some.inj
                have hF6 : W6.ownsRow M 3 1 (.slice (some ⟨g2, 0, none⟩) ne cp) ne (intsV (succ nt (m u))) := ownsKeep HF5.out HG6.out (fun g e e2 => by
                  obtain ⟨o, ho, hc⟩ := row_isCells HF5.out g e
                  obtain ⟨es, cl, hm⟩ := HS5.out.mm.map
                  obtain rfl := Option.some.inj e2
                  rw [hm] at ho
                  obtain rfl := Option.some.inj ho
                  cases hc)
                have hg2l : g2 < W6.heap.size := (ownsLt hF6 rfl).2
                have hne2 := HAP.out g2 rfl
                have HS7 := qhid (HS5.out.app (x := x) (wr' := w1) (v' := .slice (some ⟨g', 0, none⟩) (ln2 + 1) cap') HT6.out HG6.out (by have := HLN.out; rw [← this]; exact hown') hgr)
                have hgap : (W6.alloc (.cells #[.int .i64 (x : Int)] 3)).ownsRow M 3 1 (.slice (some ⟨gl2, 0, none⟩) ln2 cap2) ln2 (intsV L2) := ownsAlloc HR6.out _
                have HJ7 : Hid (J (ar (fun u => succ nt (m u)) L2 i j ++ [(u, x)]) w1) := qhid (HJ.out _ (W6.alloc (.cells #[.int .i64 (x : Int)] 3)) w1 (some gl2) (HJ.out _ W6 _ none (HJ.out _ W5 W6 (some M) HJ5.out HG6.out (fun r e => by
                  obtain ⟨es, cl, hm⟩ := HS5.out.mm.map
                  cases e
                  exact ⟨Nat.le_of_eq HM.out.symm, _, hm, .inr rfl⟩)) (World.grownBy_alloc W6 _ none) (fun r e => by cases e)) hgr (fun r e => by
                  obtain ⟨o, ho, hc⟩ := row_isCells hgap r e
                  exact ⟨by rw [← HM.out]; exact (ownsLt hgap e).1, o, ho, .inl hc⟩))
                have HF7 := qhid (ownsKeep (ownsAlloc hF6 (.cells #[.int .i64 (x : Int)] 3)) hgr (fun g e e2 => by
                  have e5 : g = g2 := by simpa [Value.ownBlock] using e.symm
                  have e6 := Option.some.inj e2
                  omega))
                refine ⟨⟨L2 ++ [x], j + 1, c2 + 1, g', ln2 + 1, cap', rfl, by simp, qhid (by rw [List.length_append, ← HLN.out]; rfl), by omega, ?_, by omega, qhid (by have := HC.out; omega), qhid (by rw [getD_append hi3]; exact HU2.out), qhid (.new HB.out hi3 (by rw [HU2.out]; exact HX1.out) HXL.out), HS7, qhid ?_, HF7, qhid (fun g e => ?_)⟩, ?_⟩
                · have hb2 := Bf.new HB.out hi3 (show (succ nt (m (L2.getD i 0)))[j]? = some x by rw [HU2.out]; exact HX1.out) HXL.out
                  have := nodup_len nt (L2 ++ [x]) hb2.inv.nd (HLB.out _ _ _ hb2)
                  rw [List.length_append, List.length_singleton, ← HLN.out] at this
                  exact this
                · rw [ar_append hi3, ar_step (x := x) (show (succ nt (m (L2.getD i 0)))[j]? = some x by rw [HU2.out]; exact HX1.out), HU2.out]
                  exact HJ7.out
                · injection e with e
                  injection e with e
                  omega
                · show ne - ((j : Int) + 1).toNat < ne - ((j : Int)).toNat
                  omega
            · gi_wp2
              refine bodyPost_ret (results_none rfl _ _ _) rfl ?_
              exact ⟨⟨_, rfl⟩, .inr ⟨_, ⟨_, _, HNX.out, rfl⟩, hJx5⟩⟩
          · obtain rfl : j = ne := by omega
            have hdl : decide ((j : Int) < (j : Int)) = false := decide_eq_false (by omega)
            gi_wp2_with fail
            go_roundw
            case rel => exact ⟨L2, i + 1, c2, gl2, ln2, cap2, rfl, by simp, HLN.out, hi2, hln2, by have := HC.out; rw [Nat.mul_succ]; omega, qhid (.next HB.out hi3 (show (succ nt (m (L2.getD i 0))).length = j by rw [HU2.out]; exact HNE.out.symm)), HS2, qhid (by have hn := ar_next (E := fun u => succ nt (m u)) hi3 (show (succ nt (m (L2.getD i 0))).length = j by rw [HU2.out]; exact HNE.out.symm); rw [hn]; exact HJ2.out)⟩
            case measure => show nt - ((i : Int) + 1).toNat < nt - ((i : Int)).toNat; omega

    · obtain rfl : i = ln := by omega
      have hdl : decide ((i : Int) < (i : Int)) = false := decide_eq_false (by omega)
      gi_wp2_with fail
      go_end0
      exact ⟨⟨_, rfl⟩, .inl ⟨_, ⟨L, by rw [← HLN.out]; exact HB.out, rfl⟩, by rw [← HLN.out]; exact HJS.out⟩⟩
/-- **spread's iterator, for every loop body that leaves the graph alone.** -/
theorem gspread_stops (n Bn Bg : Nat) (a : Nat) (Ob : Nat → Prop) {w : World} {B gb tb nt K : Nat} {mp : Nat → Option Nat} {m : Nat → Nat → Bool} {cnt : Nat} (h : GrAt w B gb tb nt K mp m cnt) (ha : a < nt) (hnt : nt ≤ 1000) (hK : K ≤ 1000000)
    (hg : Boxed w Bg 24 (.pointer (some ⟨gb, 0, none⟩))) (hn1 : Boxed w Bn 3 (.int .i64 (a : Int)))
    (hO : ∀ b, Ob b → b < w.heap.size) (h1 : ¬ Ob gb) (h2 : ¬ Ob tb) (h3 : ∀ i b, i < nt → mp i = some b → ¬ Ob b) (h4 : ¬ Ob Bg) :
    SeqG n 33 #[.pointer (some ⟨Bn, 0, none⟩), .pointer (some ⟨Bg, 0, none⟩)] (fun x : Nat × Nat => #[.int .i64 (x.1 : Int), .int .i64 (x.2 : Int)]) Ob (NextArc (fun u => succ nt (m u)) a) (AllArcs (fun u => succ nt (m u)) a) (SomeArcs (fun u => succ nt (m u)) a) w := fun l J Jx W hW hJ hY h0 =>
  gspread1_any n l Bn Bg a Ob W (h.up hW) ha hnt hK (hg.kept (grown_below none hW) (by simp)) (hn1.kept (grown_below none hW) (by simp)) (fun b hb => Nat.lt_of_lt_of_le (hO b hb) hW.size) h1 h2 h3 h4 J Jx hJ hY h0
end
section
open Go Go.RowKit Go.Shelf
attribute [local go_sem ↓] Go.wp_at_zero Go.wp_at_succ
set_option maxRecDepth 100000 in
theorem gspread_any (pg : Option Addr) (x : Int) (w : World) :
    Calls Try.prog 24 #[.pointer pg, .int .i64 x] w fun e w' => e = .returned (.func (.func 33) #[] #[.pointer (some ⟨w.heap.size + 1, 0, none⟩), .pointer (some ⟨w.heap.size, 0, none⟩)]) ∧ w' = (w.alloc (.cells #[.pointer pg] 24)).alloc (.cells #[.int .i64 x] 3) := by
  go_enter Try.func24, Try.ntmps24
  go_wp2_with fail
  go_ret
  exact ⟨rfl, rfl⟩
end
end Go.Proofs.Ytghfodjefjijdaa
