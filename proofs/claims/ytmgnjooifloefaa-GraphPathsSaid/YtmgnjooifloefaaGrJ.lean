/- graph: trail and Path told. -/
import Derived.Test.YtmgnjooifloefaaGrI
namespace Go.Proofs.Ytmgnjooifloefaa
section
open Go Go.RowKit Go.Shelf Go.Maps
attribute [local go_sem] Oper.semAt_some
theorem TrAt.mono {w : World} {b K K' : Nat} {par : Nat → Option Nat} (h : TrAt w b K par) (hK : K ≤ K') : TrAt w b K' par := by
  obtain ⟨D, h1, h2⟩ := h
  exact ⟨D, h1.mono hK, h2⟩
/-- What a trail tells. -/
structure TrailOK (E : Nat → List Nat) (a tg : Nat) (w : World) (mb : Nat) : Prop where
  ex : ∃ (K : Nat) (par : Nat → Option Nat) (L : List Nat), TrAt w mb K par ∧ ParOK E a par L ∧ (∀ v ∈ L, Rch (fun u x => x ∈ E u) a v) ∧ ((par tg).isSome = true ↔ Rch (fun u x => x ∈ E u) a tg)
theorem lineOf_all {E : Nat → List Nat} {a : Nat} {xs : List (Nat × Nat)} (h : AllArcs E a xs) (v : Nat) : v ∈ lineOf a xs ↔ Rch (fun u x => x ∈ E u) a v := by
  obtain ⟨l, hb, rfl⟩ := h
  rw [hb.line]
  exact hb.all v
theorem lineOf_next {E : Nat → List Nat} {a : Nat} {p : List (Nat × Nat)} {x : Nat × Nat} (h : NextArc E a p x) : ∀ v ∈ lineOf a p, Rch (fun u x => x ∈ E u) a v := by
  obtain ⟨l, i, j, hb, _, _, _, rfl⟩ := h
  rw [hb.line]
  exact hb.inv.rc
theorem next_len {E : Nat → List Nat} {a N : Nat} (hE : ∀ u, (E u).length ≤ N) (hN : N ≤ 1000) (hlt : ∀ u, ∀ x ∈ E u, x < N) (ha : a < N) {p : List (Nat × Nat)} {x : Nat × Nat} (h : NextArc E a p x) : p.length ≤ 1001000 ∧ x.2 < N ∧ x.1 < N := by
  obtain ⟨l, i, j, hb, hi, he, hu, rfl⟩ := h
  have h1 := ar_len hE (l := l) i j
  have h2 := nodup_len N l hb.inv.nd (fun v hv => (hb.inv.rc v hv).keeps (Q := fun v => v < N) (fun x y _ hxy => hlt x y hxy) ha)
  have h3 : N * i ≤ 1000 * 1000 := Nat.mul_le_mul hN (by omega)
  have h4 := hb.inv.jl hi
  have h5 := hE (l.getD i 0)
  refine ⟨by omega, hlt _ _ (List.mem_of_getElem? he), ?_⟩
  rw [hu]
  exact (hb.inv.rc _ (getD_mem hi)).keeps (Q := fun v => v < N) (fun x y _ hxy => hlt x y hxy) ha
set_option maxRecDepth 100000 in
set_option maxHeartbeats 4000000 in
theorem gtrail_any {w : World} {B gb tb nt K : Nat} {mp : Nat → Option Nat} {m : Nat → Nat → Bool} {cnt : Nat} (h : GrAt w B gb tb nt K mp m cnt) (a tg : Nat) (ha : a < nt) (ht : tg < nt) (hnt : nt ≤ 1000) (hK : K ≤ 1000000) :
    Calls Try.prog 30 #[.pointer (some ⟨gb, 0, none⟩), .int .i64 (a : Int), .int .i64 (tg : Int)] w fun e w' => ∃ mb, e = .returned (.map (some mb)) ∧ TrailOK (fun u => succ nt (m u)) a tg w' mb ∧ w.heap.size ≤ mb ∧ Below w.heap.size w w' := by
  obtain ⟨W0, hW0⟩ : ∃ X, X = w.alloc (.cells #[.int .i64 (tg : Int)] 3) := ⟨_, rfl⟩
  have hmm := @run_makeMap Try.prog
  have z0 : W0.heap.size = w.heap.size + 1 := by rw [hW0, World.size_alloc]
  obtain ⟨W2, hins, hw2, hturn⟩ := (World.ownsMap_made W0 Try.prog 3 (plainElem Try.prog 3)).store (int_keyed Try.underlying3) Try.underlying72 (by decide) (keyOf_int_mk Try.underlying3 (wf_nat (j := a) (by omega))) (plainElem_int Try.underlying3 (wf_nat (j := a) (by omega)))
  have hg2 := hturn.grown
  have ht2 : TrAt W2 W0.heap.size 1 (upd (fun _ => none) a (some a)) := TrAt.put (K := 0) (.map []) (fun x => by simp [Maps.has]) (fun j v e => by cases e) isMap_empty hw2 (by omega)
  have gW : W0.grownBy W2 none := (World.grownBy_alloc W0 (.map #[] 0) none).andThen hg2 (fun j e => by cases e; exact .inl (Nat.le_refl _))
  have b0 : Below w.heap.size w W2 := by
    have h1 : Below w.heap.size w W0 := by rw [hW0]; exact below1 w _
    exact h1.grown gW h1.size (fun k e => by cases e)
  have x0 : Boxed W2 w.heap.size 3 (.int .i64 (tg : Int)) := by
    have h1 : Boxed W0 w.heap.size 3 (.int .i64 (tg : Int)) := by rw [hW0]; exact Boxed.new w 3 _
    exact h1.kept gW (by simp)
  have zW2 : W2.heap.size = w.heap.size + 2 := by
    obtain ⟨es, cl, es', cl', _, e⟩ := hturn
    rw [e, show (ChangeMaps.setBlock (W0.alloc (.map #[] 0)) W0.heap.size (.map es' cl')).heap.size = (W0.alloc (.map #[] 0)).heap.size by simp [ChangeMaps.setBlock], World.size_alloc, z0]
  have H := qhid h
  have HT := qhid ht2
  have HX0 := qhid x0
  have HB0 := qhid b0
  rw [z0] at hins HT
  rw [hW0] at hins
  clear h ht2 gW hw2 hg2 hturn x0 b0 hW0 z0
  refine (callsIn_wide (n := 40)).1 ?_
  refine callsIn_of_wp_marks Try.func30 rfl trivial ?_ rfl
  simp only [Try.ntmps30, List.size_toArray, List.length_cons, List.length_nil, Nat.reduceAdd, Nat.reduceSub, Array.replicate_succ, Array.replicate_zero, List.push_toArray, List.append_toArray, List.nil_append, List.cons_append]
  gi_wp2_with fail
  refine ⟨trivial, ?_⟩
  obtain ⟨W1, hW1⟩ : ∃ X, X = W2.alloc (.cells #[.map (some (w.heap.size + 1))] 72) := ⟨_, rfl⟩
  have z1 : W1.heap.size = w.heap.size + 3 := by rw [hW1, World.size_alloc, zW2]
  have b21 : Below W2.heap.size W2 W1 := by rw [hW1]; exact below1 W2 _
  have y1 : Boxed W1 (w.heap.size + 2) 72 (.map (some (w.heap.size + 1))) := by rw [hW1, ← zW2]; exact Boxed.new W2 72 _
  have x1 : Boxed W1 w.heap.size 3 (.int .i64 (tg : Int)) := heap_up HX0.out b21
  have t1 := HT.out.kept (grown_below none b21) (by simp)
  have b1 : Below w.heap.size w W1 := HB0.out.trans (b21.mono HB0.out.size)
  rw [← hW1]
  clear hW1 HT HX0 HB0 b21 hins hmm
  refine (callsIn_wide.2 (gspread_any _ _ W1)).mono ?_
  rintro e W3 ⟨rfl, hW3⟩
  obtain ⟨z3, b13, bg, bn⟩ := spread_world hW3
  have b3 : Below w.heap.size w W3 := b1.trans (b13.mono b1.size)
  have x3 : Boxed W3 w.heap.size 3 (.int .i64 (tg : Int)) := heap_up x1 b13
  have y3 : Boxed W3 (w.heap.size + 2) 72 (.map (some (w.heap.size + 1))) := heap_up y1 b13
  have t3 := t1.kept (grown_below none b13) (by simp)
  have hlt := H.out.lt
  have HST := qhid (gspread_stops 39 (W1.heap.size + 1) W1.heap.size a (· = w.heap.size + 1) (H.out.up b3) ha hnt hK bg bn (fun b e => by rw [e, z3, z1]; omega) (by omega) (by omega) (fun i b hi e => by have := hlt.2.2 i b hi e; omega) (by rw [z1]; omega))
  have HX := qhid x3
  have HY := qhid y3
  have HT := qhid t3
  have HB := qhid b3
  have HZ : Hid (W3.heap.size = w.heap.size + 5) := qhid (by rw [z3, z1])
  clear hW3 b1 b3 b13 x1 x3 y1 y3 t1 t3 bg bn hlt H z3 zW2
  rw [z1] at HST ⊢
  clear z1
  obtain ⟨lb, hlb⟩ : ∃ b, b = w.heap.size := ⟨_, rfl⟩
  rw [← hlb] at HST HX HY HT ⊢
  have HLB := qhid hlb
  clear hlb
  rw [show lb + 3 + 1 = lb + 4 from rfl] at HST ⊢
  have hbE : ∀ u, ∀ j ∈ succ nt (m u), j < nt := fun u j hj => mem_range_succ hj
  have HNL : Hid (∀ p x, NextArc (fun u => succ nt (m u)) a p x → p.length ≤ 1001000 ∧ x.2 < nt ∧ x.1 < nt) := qhid (fun p x hx => next_len (fun u => succ_len nt (m u)) hnt hbE ha hx)
  gi_wp2_with fail
  refine wpIn_rangeFunc_all (by omega) (gf := 41) (lb := #[.pointer (some ⟨lb + 4, 0, none⟩), .pointer (some ⟨lb + 3, 0, none⟩)]) rfl (enters_of Try.func41 (by kernel_rfl) rfl)
    HST.out (fun b e => by rw [e, HZ.out, HLB.out]; omega) (Below.refl _ _) (fun _ => rfl)
    (fun pre W => (W.heap[lb]? = some (.cells #[.int .i64 (tg : Int)] 3 (0, 0)) ∧ (W.heap[lb + 2]? = some (.cells #[.map (some (lb + 1))] 72 (0, 0)) ∧ Below lb w W)) ∧ ∃ par, TrAt W (lb + 1) (1 + pre.length) par ∧ ParOK (fun u => succ nt (m u)) a par (lineOf a pre))
    (fun c pre W => (W.heap[lb + 2]? = some (.cells #[.map (some (lb + 1))] 72 (0, 0)) ∧ Below lb w W) ∧ ∃ par, TrAt W (lb + 1) (1 + pre.length) par ∧ (c = .exit 0 ∧ ∃ p x, NextArc (fun u => succ nt (m u)) a p x ∧ ParOK (fun u => succ nt (m u)) a par (lineOf a p) ∧ (par tg).isSome = true))
    (((ownAll_heap (fun _ => lb) _ (fun _ => by rw [HZ.out, HLB.out]; omega)).and ((ownAll_heap (fun _ => lb + 2) _ (fun _ => by rw [HZ.out, HLB.out]; omega)).and (ownAll_below w (by rw [HZ.out, HLB.out]; omega) (Nat.le_of_eq HLB.out)))).and (fun s X Y row hs hg hr => by
      obtain ⟨par, h1, h2⟩ := hs
      exact ⟨par, h1.kept hg (fun e => by have := hr _ e.symm; have := HZ.out; have := HLB.out; omega), h2⟩))
    (fun c => ((ownAll_heap (fun _ => lb + 2) _ (fun _ => by rw [HZ.out, HLB.out]; omega)).and (ownAll_below w (by rw [HZ.out, HLB.out]; omega) (Nat.le_of_eq HLB.out))).and (fun s X Y row hs hg hr => by
      obtain ⟨par, h1, h2⟩ := hs
      exact ⟨par, h1.kept hg (fun e => by have := hr _ e.symm; have := HZ.out; have := HLB.out; omega), h2⟩))
    ⟨⟨HX.out, HY.out, by rw [HLB.out]; exact HB.out⟩, _, HT.out, ParOK.start _ _⟩
    ?a1 ?assign ?body ?done ?stop
  case assign =>
    intro l x W K hK
    gi_wp2
    exact hK
  case body =>
    rintro l pre x W ⟨⟨hx, hy, hB⟩, par, hT, hP⟩ hok _
    have c1 := Boxed.cell hx
    have c2 := Boxed.cell hy
    obtain ⟨hpl, hx2, hx1⟩ := HNL.out pre x hok
    have HX := qhid hx
    have HY := qhid hy
    have HB := qhid hB
    have HT := qhid hT
    have HP := qhid hP
    have HOK := qhid hok
    have HC1 := qhid (ghas_any (lb + 1) _ tg par W hT (by omega))
    have HC2 := qhid (ghas_any (lb + 1) _ x.2 par W hT (by omega))
    clear hx hy hB hT hP hok
    gi_wp2_with fail
    refine ⟨trivial, ?_⟩
    refine (CallsIn.inRound l (callsIn_wide.2 HC1.out)).mono ?_
    rintro e w1 ⟨rfl, hw⟩
    obtain rfl : W = w1 := hw.symm
    cases htg : par tg with
    | some v =>
      have HTG := qhid htg
      rw [htg] at HC1
      clear htg
      gi_wp2_with fail
      exact ⟨KeepO.refl _ _, ⟨HY.out, HB.out⟩, par, HT.out.mono (by simp), rfl, pre, x, HOK.out, HP.out, by rw [HTG.out]; rfl⟩
    | none =>
      have HTG := qhid htg
      clear htg
      gi_wp2_with fail
      refine ⟨trivial, ?_⟩
      refine (CallsIn.inRound l (callsIn_wide.2 HC2.out)).mono ?_
      rintro e w1 ⟨rfl, hw⟩
      obtain rfl : W = w1 := hw.symm
      cases hpx : par x.2 with
      | some v =>
        have HPX := qhid hpx
        clear hpx
        gi_wp2_with fail
        refine ⟨KeepO.refl _ _, ⟨HX.out, HY.out, HB.out⟩, par, HT.out.mono (by simp), ?_⟩
        have := HP.out.step HOK.out
        rw [if_neg (by rw [HPX.out]; simp)] at this
        exact this
      | none =>
        have HPX := qhid hpx
        clear hpx
        obtain ⟨D, hown, hD, hA⟩ := HT.out
        have hkey := keyOf_int_mk Try.underlying3 (wf_nat (j := x.2) (by omega))
        have HD := qhid hD
        have HA := qhid hA
        have HM := qhid hown.isMap
        clear hD hA
        gi_wp2_with (first
          | (gi_at_mapUpdate; refine wpListIn_mapUpdate_own _ rfl _ _ _ 72 rfl 3 3 (int_keyed Try.underlying3) Try.underlying72 _ (lb + 1) (1 + pre.length) _ rfl hown (by unfold maxLen; omega) _ _ _ rfl rfl hkey _ [] (plainElem_int Try.underlying3 (wf_nat (j := x.1) (by omega))) ?_; intro w1 hown1 hgrow1)
          | fail)
        refine ⟨KeepO.grown hgrow1 (fun r e => (Option.some.inj e).symm), ⟨heap_kept HX.out hgrow1 (fun e => by have := Option.some.inj e; omega), heap_kept HY.out hgrow1 (fun e => by have := Option.some.inj e; omega), HB.out.grown hgrow1 (Nat.le_trans (Nat.le_of_eq HLB.out) (by have := HB.out.size; omega)) (fun k e => by cases e; omega)⟩, upd par x.2 (some x.1), ?_, ?_⟩
        · rw [List.length_append, List.length_singleton, ← Nat.add_assoc]
          exact TrAt.put D HD.out HA.out HM.out hown1 (by omega)
        · have := HP.out.step HOK.out
          rw [if_pos HPX.out] at this
          exact this
  case done =>
    rintro D ys W hD hys ⟨⟨hx, hy, hB⟩, par, hT, hP⟩ hK
    have c2 := Boxed.cell hy
    have HB := qhid hB
    have HK := qhid hK
    have HT := qhid hT
    have HP := qhid hP
    clear hx hy hB hK hT hP
    gi_wp2
    refine ⟨by simp, .inl ⟨_, _, rfl, run_takeDeferred HK.out, ?_⟩⟩
    have hg := grownBy_putObj' W D (.deferred none)
    have hne : D ≠ lb + 1 := by have := HZ.out; have := HLB.out; omega
    refine ⟨_, results_tmp rfl _ _ _, lb + 1, rfl, ⟨_, par, _, HT.out.kept hg (fun e => hne (Option.some.inj e).symm), HP.out, fun v hv => (lineOf_all hys v).1 hv, ?_⟩, by rw [← HLB.out]; omega, ?_⟩
    · rw [Option.isSome_iff_ne_none, HP.out.mem tg]
      exact lineOf_all hys tg
    · have hB2 := HB.out
      rw [HLB.out] at hB2
      exact hB2.grown hg hB2.size (fun k e => by cases e; have := HZ.out; omega)
  case stop =>
    rintro D c pre W hD hpre ⟨⟨hy, hB⟩, par, hT, rfl, p, x, hn, hP, htg⟩ hK
    have c2 := Boxed.cell hy
    have HB := qhid hB
    have HK := qhid hK
    have HT := qhid hT
    have HP := qhid hP
    have HN := qhid hn
    have HTG := qhid htg
    clear hy hB hK hT hP hn htg
    gi_wp2
    refine ⟨by simp, .inl ⟨_, _, rfl, run_takeDeferred HK.out, ?_⟩⟩
    have hg := grownBy_putObj' W D (.deferred none)
    have hne : D ≠ lb + 1 := by have := HZ.out; have := HLB.out; omega
    refine ⟨_, results_tmp rfl _ _ _, lb + 1, rfl, ⟨_, par, _, HT.out.kept hg (fun e => hne (Option.some.inj e).symm), HP.out, lineOf_next HN.out, fun _ => ?_, fun _ => HTG.out⟩, by rw [← HLB.out]; omega, ?_⟩
    · exact lineOf_next HN.out tg ((HP.out.mem tg).1 (Option.isSome_iff_ne_none.1 HTG.out))
    · have hB2 := HB.out
      rw [HLB.out] at hB2
      exact hB2.grown hg hB2.size (fun k e => by cases e; have := HZ.out; omega)
end
section
open Go Go.RowKit Go.Shelf Go.Maps
attribute [local go_sem ↓] Go.wp_at_zero Go.wp_at_succ
theorem dst_lt {E : Nat → List Nat} {a tg N : Nat} (hlt : ∀ u, ∀ x ∈ E u, x < N) (hr : Rch (fun u x => x ∈ E u) a tg) (ha : a < N) : dst (fun u x => x ∈ E u) a tg < N := by
  -- a shortest way comes by no thing twice: by how far they are, all are different
  have key : ∀ (d v : Nat), Rch (fun u x => x ∈ E u) a v → dst (fun u x => x ∈ E u) a v = d → ∃ l : List Nat, l.length = d + 1 ∧ l.Nodup ∧ ∀ x ∈ l, x < N ∧ dst (fun u x => x ∈ E u) a x ≤ d := by
    intro d
    induction d with
    | zero =>
      intro v hr hd
      refine ⟨[v], rfl, by simp, fun x hx => ?_⟩
      rw [List.mem_singleton.1 hx]
      exact ⟨hr.keeps (Q := fun v => v < N) (fun x y _ hxy => hlt x y hxy) ha, by omega⟩
    | succ d ih =>
      intro v hr hd
      obtain ⟨p, hp, hdp, _⟩ := dst_pred hr hd
      obtain ⟨l, h1, h2, h3⟩ := ih p hp hdp
      refine ⟨v :: l, by simp [h1], List.nodup_cons.2 ⟨fun hv => by have := (h3 v hv).2; omega, h2⟩, fun x hx => ?_⟩
      rcases List.mem_cons.1 hx with rfl | hx
      · exact ⟨hr.keeps (Q := fun v => v < N) (fun x y _ hxy => hlt x y hxy) ha, by omega⟩
      · exact ⟨(h3 x hx).1, by have := (h3 x hx).2; omega⟩
  obtain ⟨l, h1, h2, h3⟩ := key _ tg hr rfl
  have := nodup_len N l h2 (fun x hx => (h3 x hx).1)
  omega
/-- What Path answers. -/
structure PathR (w w' : World) (m : Nat → Nat → Bool) (a tg : Nat) (r : Bool) (v : Value) : Prop where
  yes : r = true ↔ Rch (Em m) a tg
  way : r = true → ∃ p : List Nat, w'.ownsRow w.heap.size 3 1 v p.length (intsV p) ∧ PathOK (Em m) a tg p
  no : r = false → v = .slice none 0 0
  be : Below w.heap.size w w'
set_option maxRecDepth 100000 in
set_option maxHeartbeats 4000000 in
theorem gpath_any {w : World} {B gb tb nt K : Nat} {mp : Nat → Option Nat} {m : Nat → Nat → Bool} {cnt : Nat} (h : GrAt w B gb tb nt K mp m cnt) (a tg : Nat) (ha : a < nt) (ht : tg < nt) (hnt : nt ≤ 1000) (hK : K ≤ 1000000) :
    Calls Try.prog 18 #[.pointer (some ⟨gb, 0, none⟩), .int .i64 (a : Int), .int .i64 (tg : Int)] w fun e w' => ∃ v r, e = .returned (.tuple #[v, .bool r]) ∧ PathR w w' m a tg r v := by
  have H1 := qhid (gthere_any h (a : Int))
  have H2 := qhid (gthere_any h (tg : Int))
  rw [inB_nat ha] at H1
  rw [inB_nat ht] at H2
  have H3 := qhid (gtrail_any h a tg ha ht hnt hK)
  have HBD := qhid h.bd
  clear h
  go_enter Try.func18, Try.ntmps18
  go_wp2_with (first | (go_at_call 26; refine H1.out.mono ?_; clear H1; rintro e w1 ⟨rfl, hw⟩; obtain rfl : w = w1 := hw.symm) | (go_at_call 26; refine H2.out.mono ?_; clear H2; rintro e w1 ⟨rfl, hw⟩; obtain rfl : w = w1 := hw.symm) | fail)
  refine H3.out.mono ?_
  rintro e w1 ⟨mb, rfl, ⟨K', par, L, hT, hP, hL, hyes⟩, hmb, hB⟩
  have H4 := qhid (ghas_any mb K' tg par w1 hT (by omega))
  have HT := qhid hT
  have HP := qhid hP
  have HL := qhid hL
  have HYE := qhid hyes
  have HB := qhid hB
  clear hT hP hL hyes hB H3 hmb
  go_wp2_with fail
  refine H4.out.mono ?_
  rintro e w2 ⟨rfl, hw⟩
  obtain rfl : w1 = w2 := hw.symm
  have hem := em_succ HBD.out
  cases hp : par tg with
  | none =>
    have hno : ¬ Rch (Em m) a tg := fun hr => by
      rw [← hem] at hr
      have := HYE.out.2 hr
      rw [hp] at this
      cases this
    have HNO := qhid hno
    clear hno hp hem
    go_wp2_with fail
    go_ret2
    exact ⟨_, _, rfl, ⟨fun e => (by cases e), fun hr => absurd hr HNO.out⟩, fun e => (by cases e), fun _ => rfl, HB.out⟩
  | some v =>
    have hr : Rch (fun u x => x ∈ succ nt (m u)) a tg := HYE.out.1 (by rw [hp]; rfl)
    have htl : tg ∈ L := (HP.out.mem tg).1 (by rw [hp]; simp)
    have hbE : ∀ u, ∀ j ∈ succ nt (m u), j < nt := fun u j hj => mem_range_succ hj
    have hd := dst_lt hbE hr ha
    have H5 := qhid (gway_any (fun u => succ nt (m u)) mb K' a tg 1000 par L w1 HT.out HP.out htl (fun v hv => by
      have := (HL.out v hv).keeps (Q := fun v => v < nt) (fun x y _ hxy => hbE x y hxy) ha
      omega) (by omega) (by omega))
    have HR : Hid (Rch (Em m) a tg) := qhid (by rw [← hem]; exact hr)
    have HEM := qhid hem
    clear hr htl hbE hd hp hem
    go_wp2_with fail
    refine H5.out.mono ?_
    rintro e w2 ⟨p, v2, rfl, hrow, hok, hb2⟩
    rw [HEM.out] at hok
    have HRW := qhid hrow
    have HOK := qhid hok
    have HB2 := qhid hb2
    clear hrow hok hb2
    go_wp2_with fail
    go_ret2
    exact ⟨_, _, rfl, ⟨fun _ => HR.out, fun _ => rfl⟩, fun _ => ⟨p, ownsMono HRW.out HB.out.size, HOK.out⟩, fun e => (by cases e), HB.out.trans (HB2.out.mono HB.out.size)⟩
set_option maxRecDepth 100000 in
theorem gpath_bad {w : World} {B gb tb nt K : Nat} {mp : Nat → Option Nat} {m : Nat → Nat → Bool} {cnt : Nat} (h : GrAt w B gb tb nt K mp m cnt) (x y : Int) (hb : (inB nt x && inB nt y) = false) :
    Calls Try.prog 18 #[.pointer (some ⟨gb, 0, none⟩), .int .i64 x, .int .i64 y] w fun e w' => e = .returned (.tuple #[.slice none 0 0, .bool false]) ∧ w' = w := by
  have H1 := qhid (gthere_any h x)
  have H2 := qhid (gthere_any h y)
  clear h
  cases hx : inB nt x with
  | false =>
    rw [hx] at H1
    clear H2 hb hx
    go_enter Try.func18, Try.ntmps18
    go_wp2_with (go_at_call 26; refine H1.out.mono ?_; rintro e w1 ⟨rfl, hw⟩; obtain rfl : w = w1 := hw.symm)
    go_ret2
    exact ⟨rfl, rfl⟩
  | true =>
    have hy : inB nt y = false := by simpa [hx] using hb
    rw [hx] at H1
    rw [hy] at H2
    clear hb hx hy
    go_enter Try.func18, Try.ntmps18
    go_wp2_with (first | (go_at_call 26; refine H1.out.mono ?_; clear H1; rintro e w1 ⟨rfl, hw⟩; obtain rfl : w = w1 := hw.symm) | (go_at_call 26; refine H2.out.mono ?_; clear H2; rintro e w1 ⟨rfl, hw⟩; obtain rfl : w = w1 := hw.symm))
    go_ret2
    exact ⟨rfl, rfl⟩
set_option maxRecDepth 100000 in
theorem gpath_nil (w : World) (x y : Int) :
    Calls Try.prog 18 #[.pointer none, .int .i64 x, .int .i64 y] w fun e w' => e = .returned (.tuple #[.slice none 0 0, .bool false]) ∧ w' = w := by
  have H1 := qhid (gthere_nil w x)
  go_enter Try.func18, Try.ntmps18
  go_wp2_with (go_at_call 26; refine H1.out.mono ?_; rintro e w1 ⟨rfl, hw⟩; obtain rfl : w = w1 := hw.symm)
  go_ret2
  exact ⟨rfl, rfl⟩
end
end Go.Proofs.Ytmgnjooifloefaa
