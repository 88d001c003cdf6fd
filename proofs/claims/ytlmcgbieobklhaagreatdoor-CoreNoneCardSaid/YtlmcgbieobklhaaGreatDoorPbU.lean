/- Contracts of trees: how many nodes, how many groups. Maps whose keys are pairs of nodes' pointers: what is found there. Contracts of trees: whether two nodes are alike. Whether two trees are the same, and how a stack of pairs finds it out, told plainly. Contracts of trees: whether two trees are the same. -/
import Derived.Test.YtlmcgbieobklhaaGreatDoorPbH
import Derived.Test.YtlmcgbieobklhaaGreatDoorPbE
import Derived.Carry
import Derived.Deep.DeepCutAuto
namespace Go.Proofs.YtlmcgbieobklhaaGreatDoor
section
open Go Go.RowKit
attribute [local go_sem ↓] Go.wp_at_zero Go.wp_at_succ
attribute [local go_sem] eq4
theorem run_store_fncQ (P : Program) (w : World) (a : Addr) (f : Fn) (x y : Array Value) (m : Mode) : (store a (.func f x y) m).run P w = stored P w a (.func f x y) m := run_store P w a _ m rfl
attribute [local go_sem] run_store_fncQ
def isum (ps : List Int) : Int := ps.foldl (· + ·) 0
theorem isum_take (ps : List Int) (j : Nat) (x : Int) (h : ps[j]? = some x) : isum (ps.take (j + 1)) = isum (ps.take j) + x := by
  unfold isum
  rw [List.take_add_one, h]; simp
theorem isum_cons (x : Int) (ps : List Int) : isum (x :: ps) = x + isum ps := by
  have key : ∀ (l : List Int) (a : Int), l.foldl (· + ·) a = a + l.foldl (· + ·) 0 := by
    intro l
    induction l with
    | nil => intro a; simp
    | cons y l ih => intro a; rw [List.foldl_cons, List.foldl_cons, ih (a + y), ih (0 + y)]; omega
  unfold isum
  rw [List.foldl_cons, key]; omega
theorem isum_le {ps : List Int} (h : ∀ x ∈ ps, 0 ≤ x) (j : Nat) : 0 ≤ isum (ps.take j) ∧ isum (ps.take j) ≤ isum ps := by
  induction ps generalizing j with
  | nil => simp [isum]
  | cons x ps ih =>
    have hx := h x (List.mem_cons_self ..)
    have ih := fun j => ih (fun y hy => h y (List.mem_cons_of_mem _ hy)) j
    cases j with
    | zero =>
      have := ih ps.length
      rw [List.take_length] at this
      rw [List.take_zero, isum_cons]
      simp [isum] at this ⊢; omega
    | succ j =>
      have := ih j
      rw [List.take_succ_cons, isum_cons, isum_cons]; omega
/-- What count makes of a node. -/
def cntN (o : Tr → Int) (u : Tr) (ps : List Int) : Int := o u + isum ps
theorem cnt_bound (o : Tr → Int) (ho : ∀ u, 0 ≤ o u ∧ o u ≤ 1) : ∀ (n : Nat) (u : Tr), trSize u ≤ n → 0 ≤ foldR (cntN o) u ∧ foldR (cntN o) u ≤ trSize u ∧ 0 ≤ isum ((prts u).map (foldR (cntN o))) ∧ isum ((prts u).map (foldR (cntN o))) ≤ trSizes (prts u) := by
  intro n
  induction n with
  | zero => intro u hu; have := trSize_pos u; omega
  | succ n ih =>
    intro u hu
    have hs := trSize_eq u
    have key : ∀ l : List Tr, trSizes l ≤ n → 0 ≤ isum (l.map (foldR (cntN o))) ∧ isum (l.map (foldR (cntN o))) ≤ trSizes l := by
      intro l
      induction l with
      | nil => intro _; simp [isum, trSizes]
      | cons t l ihl =>
        intro hl
        rw [trSizes] at hl ⊢
        rw [List.map_cons, isum_cons]
        have h1 := ih t (by omega)
        have h2 := ihl (by omega)
        omega
    have := key (prts u) (by omega)
    have h2 := ho u
    rw [foldR_eq]
    unfold cntN at *
    omega
theorem cf_count1 (args : Array Value) (W : World) : (callFunc 67 args).run Tryz.prog W = .ok (.enter 67 args) W := by
  simp [callFunc, Tryz.func67, mark, Sem.run]; rfl
set_option maxRecDepth 100000 in
set_option maxHeartbeats 2000000 in
theorem scount1_any (q cb : Nat) (fo : FuncId) (c : Int) (v : Value) (ps : List Int) (w : World) (hcf : ∀ args W, (callFunc fo args).run Tryz.prog W = .ok (.enter fo args) W) (hcb : w.cell? ⟨cb, 0, none⟩ = some (.func (.func fo) #[] #[]))
    (hfo : Calls Tryz.prog fo #[ndPtr q] w fun e w' => e = .returned (.int .i64 c) ∧ w' = w) (hc : 0 ≤ c ∧ c ≤ 1) (hp : NumsAt w v ps) (h0 : ∀ x ∈ ps, 0 ≤ x) (hs : isum ps ≤ 1099511627776) (hn : ps.length ≤ 1099511627776) :
    Calls Tryz.prog 67 (#[ndPtr q, v] ++ #[.pointer (some ⟨cb, 0, none⟩)]) w fun e w' => e = .returned (.int .i64 (c + isum ps)) ∧ w' = w := by
  obtain ⟨p, cap, rfl, hcells⟩ := hp
  have HC := qhid hcells
  have FO := qhid hfo
  have H0 := qhid h0
  clear hcells hfo h0
  go_enter Tryz.func67, Tryz.ntmps67
  go_wp2_with fail
  refine FO.out.mono ?_
  rintro e w1 ⟨rfl, hw⟩
  obtain rfl : w = w1 := hw.symm
  clear FO
  go_wp2_with fail
  go_loopw [6, 14] (fun a i wr => ∃ j : Nat, j ≤ ps.length ∧ i = .int .i64 j ∧ a = .int .i64 (c + isum (ps.take j)) ∧ wr = w) (fun _ i _ => ps.length - (intOf i).toNat)
  case atStart => exact ⟨0, by omega, rfl, by simp [isum], rfl⟩
  case round =>
    obtain ⟨j, hj, rfl, rfl, hwr⟩ := hrel
    obtain rfl : w = wr := hwr.symm
    by_cases hlt : j < ps.length
    · obtain ⟨x, hx⟩ : ∃ x, ps[j]? = some x := ⟨_, List.getElem?_eq_getElem hlt⟩
      obtain ⟨cc, rfl, hcl, hcell⟩ := HC.out j x hx
      have HX0 := qhid (H0.out x (List.mem_of_getElem? hx))
      have HM := qhid (isum_take ps j x hx)
      have hb := isum_le H0.out j
      have hb2 := isum_le H0.out (j + 1)
      rw [HM.out] at hb2
      clear hx
      obtain ⟨y, hy⟩ : ∃ y, y = c + isum (ps.take j) := ⟨_, rfl⟩
      have hx0 : 0 ≤ x := HX0.out
      rw [← hy]
      have hmin : min x (9223372036854775807 - y) = x := by omega
      have HY := qhid hy
      have hyr : 0 ≤ y ∧ y ≤ 1099511627777 := by omega
      have hxr : x ≤ 1099511627777 := by omega
      clear hy hb hb2
      go_wp2_with fail
      go_roundw
      case rel => exact ⟨j + 1, by omega, by go_num, by rw [HM.out, HY.out]; congr 1; omega, by first | rfl | trivial⟩
      case measure => simp [intOf]; omega
    · obtain rfl : j = ps.length := by omega
      have HT : Hid (isum (ps.take ps.length) = isum ps) := qhid (by rw [List.take_length])
      rw [HT.out]
      go_wp2_with fail
      go_ret
      exact ⟨rfl, rfl⟩
theorem numc_count (w0 : World) (cb : Nat) (fo : FuncId) (o : Tr → Int) (ho : ∀ u, 0 ≤ o u ∧ o u ≤ 1) (hcf : ∀ args W, (callFunc fo args).run Tryz.prog W = .ok (.enter fo args) W) (hcb : w0.heap[cb]? = some (.cells #[.func (.func fo) #[] #[]] 41))
    (hfo : ∀ (A : Nat → Prop) X u q, NdAt X A u (ndPtr q) → Calls Tryz.prog fo #[ndPtr q] X fun e w' => e = .returned (.int .i64 (o u)) ∧ w' = X) : NumC 67 #[.pointer (some ⟨cb, 0, none⟩)] (cntN o) w0 1099511000000 := by
  intro A X u q pv hX hu hN hp
  have hlen := prts_len hN
  have hb := cnt_bound o ho (trSize u) u (Nat.le_refl _)
  have hs := trSize_eq u
  refine (scount1_any q cb fo (o u) pv _ X hcf ?_ (hfo A X u q hu) (ho u) hp (fun x hx => ?_) (by omega) (by simp; omega)).mono ?_
  · rw [Joins.cell_of_block (below_kept hX hcb)]; rfl
  · obtain ⟨c, _, rfl⟩ := List.mem_map.1 hx
    exact (cnt_bound o ho (trSize c) c (Nat.le_refl _)).1
  · rintro e w' ⟨rfl, rfl⟩
    rw [foldR_eq (cntN o) u]
    exact ⟨rfl, Below.refl _ _⟩
set_option maxHeartbeats 2000000 in
theorem scount_any (A : Nat → Prop) (t : Tr) (q : Nat) (fo : FuncId) (o : Tr → Int) (w : World) (ho : ∀ u, 0 ≤ o u ∧ o u ≤ 1) (hcf : ∀ args W, (callFunc fo args).run Tryz.prog W = .ok (.enter fo args) W)
    (hfo : ∀ (A : Nat → Prop) X u q, NdAt X A u (ndPtr q) → Calls Tryz.prog fo #[ndPtr q] X fun e w' => e = .returned (.int .i64 (o u)) ∧ w' = X) (ht : NdAt w A t (ndPtr q)) (hs : trSize t ≤ 1099511000000) :
    Calls Tryz.prog 36 #[ndPtr q, .func (.func fo) #[] #[]] w fun e w' => e = .returned (.int .i64 (foldR (cntN o) t)) ∧ Below w.heap.size w w' := by
  have hb := below1 w (.cells #[.func (.func fo) #[] #[]] 41)
  have FO := qhid (pfold_any cf_count1 (numc_count (w.alloc (.cells #[.func (.func fo) #[] #[]] 41)) w.heap.size fo o ho hcf (heap_new _ _) hfo) (fun u _ => by have := (cnt_bound o ho (trSize u) u (Nat.le_refl _)).1; omega) (by omega) t q A (ht.up hb) hs)
  have HB := qhid hb
  generalize foldR (cntN o) t = d at *
  clear ht hs hb hfo hcf
  go_enter Tryz.func36, Tryz.ntmps36
  go_wp2_with fail
  refine FO.out.mono ?_
  rintro e w1 ⟨rfl, h1⟩
  have H1 := qhid (HB.out.trans (h1.mono HB.out.size))
  clear h1 FO HB
  go_wp2_with fail
  exact bodyPost_ret (v := .int .i64 d) (by simp [results, Tryz.results36, go_sem]) rfl ⟨rfl, H1.out⟩
theorem cf_size1 (args : Array Value) (W : World) : (callFunc 37 args).run Tryz.prog W = .ok (.enter 37 args) W := by
  simp [callFunc, Tryz.func37, mark, Sem.run]; rfl
theorem cf_groups1 (args : Array Value) (W : World) : (callFunc 38 args).run Tryz.prog W = .ok (.enter 38 args) W := by
  simp [callFunc, Tryz.func38, mark, Sem.run]; rfl
/-- How many nodes, how many groups. -/
def sizeN (_ : Tr) : Int := 1
def groupsN (u : Tr) : Int := if kdT u = 2 then 1 else 0
theorem size_is (_ : Tr) : ∀ (n : Nat) (t : Tr), trSize t ≤ n → foldR (cntN sizeN) t = trSize t := by
  intro n
  induction n with
  | zero => intro u hu; have := trSize_pos u; omega
  | succ n ih =>
    intro u hu
    have hs := trSize_eq u
    have key : ∀ l : List Tr, trSizes l ≤ n → isum (l.map (foldR (cntN sizeN))) = trSizes l := by
      intro l
      induction l with
      | nil => intro _; simp [isum, trSizes]
      | cons t l ihl =>
        intro hl
        rw [trSizes] at hl ⊢
        rw [List.map_cons, isum_cons, ih t (by omega), ihl (by omega)]
        omega
    rw [foldR_eq]
    unfold cntN at *
    rw [key (prts u) (by omega)]
    unfold sizeN
    omega
set_option maxHeartbeats 2000000 in
theorem ssize1_any (q : Nat) (w : World) : Calls Tryz.prog 37 #[ndPtr q] w fun e w' => e = .returned (.int .i64 1) ∧ w' = w := by
  go_enter Tryz.func37, Tryz.ntmps37
  go_wp2_with fail
  exact bodyPost_ret (v := .int .i64 1) (by simp [results, Tryz.results37, go_sem]) rfl ⟨rfl, rfl⟩
set_option maxHeartbeats 2000000 in
theorem sgroups1_any (A : Nat → Prop) (q : Nat) (u : Tr) (w : World) (hu : NdAt w A u (ndPtr q)) : Calls Tryz.prog 38 #[ndPtr q] w fun e w' => e = .returned (.int .i64 (groupsN u)) ∧ w' = w := by
  obtain ⟨k, s, lo, hi, z, a, b, l⟩ := u
  obtain ⟨q', p, cap, e, _, hq, _⟩ := hu.head
  injection e with e; injection e with e; injection e with e
  subst e
  have n0 := Joins.cell_of_block hq 0
  simp only [List.getElem?_toArray, List.getElem?_cons_zero] at n0
  have HG : Hid (groupsN (.mk k s lo hi z a b l) = if k = 2 then 1 else 0) := qhid rfl
  generalize groupsN (.mk k s lo hi z a b l) = res at *
  clear hu hq
  by_cases h2 : k = 2
  · subst h2
    go_enter Tryz.func38, Tryz.ntmps38
    go_wp2_with fail
    exact bodyPost_ret (v := .int .i64 1) (by simp [results, Tryz.results38, go_sem]) rfl ⟨by rw [HG.out]; rfl, rfl⟩
  · have k2 : (k == 2) = false := by simpa using h2
    have HG2 : Hid (res = 0) := qhid (by rw [HG.out, if_neg h2])
    clear h2 HG
    go_enter Tryz.func38, Tryz.ntmps38
    go_wp2_with fail
    exact bodyPost_ret (v := .int .i64 0) (by simp [results, Tryz.results38, go_sem]) rfl ⟨by rw [HG2.out], rfl⟩
set_option maxHeartbeats 2000000 in
theorem ssize_any (A : Nat → Prop) (t : Tr) (q : Nat) (w : World) (ht : NdAt w A t (ndPtr q)) (hs : trSize t ≤ 1099511000000) :
    Calls Tryz.prog 12 #[ndPtr q] w fun e w' => e = .returned (.int .i64 (trSize t : Nat)) ∧ Below w.heap.size w w' := by
  have CN := qhid (scount_any A t q 37 sizeN w (fun _ => by unfold sizeN; omega) cf_size1 (fun _ X _ q _ => ssize1_any q X) ht hs)
  rw [size_is t (trSize t) t (Nat.le_refl _)] at CN
  generalize trSize t = d at *
  clear ht
  go_enter Tryz.func12, Tryz.ntmps12
  go_wp2_with fail
  refine CN.out.mono ?_
  rintro e w1 ⟨rfl, h1⟩
  have H1 := qhid h1
  clear h1 CN
  go_wp2_with fail
  exact bodyPost_ret (v := .int .i64 (d : Int)) (by simp [results, Tryz.results12, go_sem]) rfl ⟨rfl, H1.out⟩
set_option maxHeartbeats 2000000 in
theorem sgroups_any (A : Nat → Prop) (t : Tr) (q : Nat) (w : World) (ht : NdAt w A t (ndPtr q)) (hs : trSize t ≤ 1099511000000) :
    Calls Tryz.prog 14 #[ndPtr q] w fun e w' => e = .returned (.int .i64 (foldR (cntN groupsN) t)) ∧ Below w.heap.size w w' := by
  have CN := qhid (scount_any A t q 38 groupsN w (fun u => by unfold groupsN; split <;> omega) cf_groups1 (fun A X u q hu => sgroups1_any A q u X hu) ht hs)
  generalize foldR (cntN groupsN) t = d at *
  clear ht hs
  go_enter Tryz.func14, Tryz.ntmps14
  go_wp2_with fail
  refine CN.out.mono ?_
  rintro e w1 ⟨rfl, h1⟩
  have H1 := qhid h1
  clear h1 CN
  go_wp2_with fail
  exact bodyPost_ret (v := .int .i64 d) (by simp [results, Tryz.results14, go_sem]) rfl ⟨rfl, H1.out⟩
end
section
open Go Go.RowKit
attribute [local go_sem ↓] Go.wp_at_zero Go.wp_at_succ
attribute [local go_sem] eq4
theorem eqIn_ptr (n q q' : Nat) (w : World) (h : IsC w q) (h' : IsC w q') : (Op.equalIn (n + 1) 23 (ndPtr q) (ndPtr q')).run Tryz.prog w = .ok (q == q') w := by
  have u3 := Tryz.underlying23
  rw [Op.equalIn]
  simp only [Sem.run_bind, run_underlying Tryz.underlying23, Result.andThen_ok]
  go_simp
  by_cases hq : q = q'
  · subst hq
    rw [run_sameAddr_same]; simp
  · obtain ⟨c, t, hc⟩ := h
    obtain ⟨c', t', hc'⟩ := h'
    rw [run_sameAddr_other w (fun e => hq (congrArg Addr.block e)) hc hc']
    simp [hq]
/-- A pair of nodes' pointers. -/
abbrev prV (p : Nat × Nat) : Value := .agg #[ndPtr p.1, ndPtr p.2]
/-- Both are blocks of cells. -/
def IsCC (w : World) (p : Nat × Nat) : Prop := IsC w p.1 ∧ IsC w p.2
def lookP (D : List (Nat × Nat)) (q : Nat × Nat) (i : Nat) : Option (Nat × Value) := match D with
  | [] => none
  | p :: D => if q = p then some (i, .agg #[]) else lookP D q (i + 1)
def EntP (es : List MapEntry) (D : List (Nat × Nat)) : Prop := es.map (fun e => (e.key, e.val)) = D.map fun p => (prV p, Value.agg #[])
/-- Such a map lies in a block. -/
def PrMap (w : World) (b : Nat) (D : List (Nat × Nat)) : Prop := ∃ es clock, w.heap[b]? = some (.map es clock) ∧ EntP es.toList D
theorem look_mem (D : List (Nat × Nat)) (q : Nat × Nat) : ∀ i, (q ∉ D ∧ lookP D q i = none) ∨ (q ∈ D ∧ ∃ j, lookP D q i = some (j, .agg #[])) := by
  induction D with
  | nil => exact fun i => .inl ⟨by simp, rfl⟩
  | cons p D ih =>
    intro i
    rw [lookP]
    by_cases h : q = p
    · rw [if_pos h]; exact .inr ⟨by rw [h]; exact List.mem_cons_self .., i, rfl⟩
    · rw [if_neg h]
      rcases ih (i + 1) with ⟨h1, h2⟩ | ⟨h1, h2⟩
      · exact .inl ⟨fun hm => by rcases List.mem_cons.1 hm with e | e; exact h e; exact h1 e, h2⟩
      · exact .inr ⟨List.mem_cons_of_mem _ h1, h2⟩
theorem ck_ptr (n q : Nat) (e : Bool) (w : World) : (Instr.checkKey e (n + 1) 23 (ndPtr q)).run Tryz.prog w = .ok () w := by
  unfold Instr.checkKey
  simp only [Sem.run_bind, run_underlying Tryz.underlying23, Result.andThen]
  rfl
theorem lookP_none {D : List (Nat × Nat)} {q : Nat × Nat} {i : Nat} (h : q ∉ D) : lookP D q i = none := by
  rcases look_mem D q i with ⟨_, h2⟩ | ⟨h1, _⟩
  · exact h2
  · exact absurd h1 h
end
section
open Go Go.RowKit
attribute [local go_sem ↓] Go.wp_at_zero Go.wp_at_succ
attribute [local go_sem] eq4
def eqW4 (s t : W4) : Bool := s.a == t.a && s.b == t.b && s.c == t.c && s.d == t.d
def alikeT : Tr → Tr → Bool
  | .mk k s lo hi z _ _ l, .mk k' s' lo' hi' z' _ _ l' => k == k' && (eqW4 s s' && (lo == lo' && (hi == hi' && (z == z' && decide (l.length = l'.length)))))
end
section
open Go Go.RowKit
mutual
/-- Are two trees the same, but for spans? -/
def sameT : Tr → Tr → Bool
  | .mk k s lo hi z a b l, .mk k' s' lo' hi' z' a' b' l' => alikeT (.mk k s lo hi z a b l) (.mk k' s' lo' hi' z' a' b' l') && sameL l l'
def sameL : List Tr → List Tr → Bool
  | [], _ => true
  | _ :: _, [] => true
  | t :: l, u :: l' => sameT t u && sameL l l'
end
theorem sameT_eq (t u : Tr) : sameT t u = (alikeT t u && sameL (prts t) (prts u)) := by
  cases t; cases u; rw [sameT]; rfl
theorem sameL_iff : ∀ (l l' : List Tr), sameL l l' = true ↔ ∀ (i : Nat) (c c' : Tr), l[i]? = some c → l'[i]? = some c' → sameT c c' = true
  | [], l' => by simp [sameL]
  | t :: l, [] => by simp [sameL]
  | t :: l, u :: l' => by
    rw [sameL, Bool.and_eq_true, sameL_iff l l']
    constructor
    · rintro ⟨h1, h2⟩ i c c' hc hc'
      cases i with
      | zero =>
        obtain rfl : t = c := by simpa using hc
        obtain rfl : u = c' := by simpa using hc'
        exact h1
      | succ i => exact h2 i c c' (by simpa using hc) (by simpa using hc')
    · intro h
      exact ⟨h 0 t u rfl rfl, fun i c c' hc hc' => h (i + 1) c c' (by simpa using hc) (by simpa using hc')⟩
theorem alikeT_refl (t : Tr) : alikeT t t = true := by
  cases t; simp [alikeT, eqW4]
theorem sameT_refl : ∀ (n : Nat) (t : Tr), trSize t ≤ n → sameT t t = true := by
  intro n
  induction n with
  | zero => intro t h; have := trSize_pos t; omega
  | succ n ih =>
    intro t h
    rw [sameT_eq, alikeT_refl, Bool.true_and, sameL_iff]
    intro i c c' hc hc'
    rw [hc] at hc'
    obtain rfl := Option.some.inj hc'
    have := trSize_part hc
    exact ih c (by omega)
theorem alikeT_len {t u : Tr} (h : alikeT t u = true) : (prts t).length = (prts u).length := by
  cases t; cases u
  simp only [alikeT, Bool.and_eq_true, decide_eq_true_eq] at h
  exact h.2.2.2.2.2
theorem sameT_leaf {t u : Tr} (h : alikeT t u = true) (h0 : (prts t).length = 0) : sameT t u = true := by
  rw [sameT_eq, h, List.length_eq_zero_iff.1 h0]; simp [sameL]
/-- A pair that waits: its nodes' blocks, and their trees. -/
structure Ent where
  p : Nat
  q : Nat
  t : Tr
  u : Tr
abbrev EntOK (w : World) (A : Nat → Prop) (e : Ent) : Prop := NdAt w A e.t (ndPtr e.p) ∧ NdAt w A e.u (ndPtr e.q)
/-- A pair that needn't be looked at any more: it waits, or was met, or its trees are the same. -/
def DoneP (S : List Ent) (D : List (Nat × Nat)) (p q : Nat) (t u : Tr) : Prop := (∃ e ∈ S, e.p = p ∧ e.q = q) ∨ (p, q) ∈ D ∨ sameT t u = true
structure SmInv (w : World) (A : Nat → Prop) (a b : Nat) (ta tb : Tr) (S : List Ent) (D : List (Nat × Nat)) : Prop where
  st : ∀ e ∈ S, EntOK w A e
  met : ∀ d ∈ D, ∃ t u, NdAt w A t (ndPtr d.1) ∧ NdAt w A u (ndPtr d.2) ∧ alikeT t u = true ∧ ∀ (i : Nat) (c c' : Tr), (prts t)[i]? = some c → (prts u)[i]? = some c' → ∃ p' q', NdAt w A c (ndPtr p') ∧ NdAt w A c' (ndPtr q') ∧ DoneP S D p' q' c c'
  ab : DoneP S D a b ta tb
  know : sameT ta tb = true → ∀ e ∈ S, sameT e.t e.u = true
theorem DoneP.pop {w : World} {A : Nat → Prop} {S : List Ent} {D D' : List (Nat × Nat)} {x : Ent} {p q : Nat} {t u : Tr} (h : DoneP (S ++ [x]) D p q t u) (ht : NdAt w A t (ndPtr p)) (hu : NdAt w A u (ndPtr q)) (hx : EntOK w A x) (hD : ∀ d ∈ D, d ∈ D') (hs : sameT x.t x.u = true ∨ (x.p, x.q) ∈ D') : DoneP S D' p q t u := by
  rcases h with ⟨e, he, h1, h2⟩ | h | h
  · rcases List.mem_append.1 he with he | he
    · exact .inl ⟨e, he, h1, h2⟩
    · obtain rfl : e = x := by simpa using he
      subst h1 h2
      rcases hs with hs | hs
      · rw [ht.uniq hx.1, hu.uniq hx.2]; exact .inr (.inr hs)
      · exact .inr (.inl hs)
  · exact .inr (.inl (hD _ h))
  · exact .inr (.inr h)
theorem DoneP.more {S S' : List Ent} {D : List (Nat × Nat)} {p q : Nat} {t u : Tr} (h : DoneP S D p q t u) (hS : ∀ e ∈ S, e ∈ S') : DoneP S' D p q t u := by
  rcases h with ⟨e, he, h⟩ | h | h
  · exact .inl ⟨e, hS e he, h⟩
  · exact .inr (.inl h)
  · exact .inr (.inr h)
/-- A pair is let go. -/
theorem SmInv.pop {w : World} {A : Nat → Prop} {a b : Nat} {ta tb : Tr} {S : List Ent} {D : List (Nat × Nat)} {x : Ent} (h : SmInv w A a b ta tb (S ++ [x]) D) (ha : NdAt w A ta (ndPtr a)) (hb : NdAt w A tb (ndPtr b)) (hs : sameT x.t x.u = true ∨ (x.p, x.q) ∈ D) : SmInv w A a b ta tb S D := by
  have hx := h.st x (by simp)
  refine ⟨fun e he => h.st e (List.mem_append_left _ he), fun d hd => ?_, h.ab.pop ha hb hx (fun _ h => h) hs, fun hk e he => h.know hk e (List.mem_append_left _ he)⟩
  obtain ⟨t, u, h1, h2, h3, h4⟩ := h.met d hd
  refine ⟨t, u, h1, h2, h3, fun i c c' hc hc' => ?_⟩
  obtain ⟨p', q', g1, g2, g3⟩ := h4 i c c' hc hc'
  exact ⟨p', q', g1, g2, g3.pop g1 g2 hx (fun _ h => h) hs⟩
/-- A pair's parts wait in its place. -/
theorem SmInv.expand {w : World} {A : Nat → Prop} {a b : Nat} {ta tb : Tr} {S P : List Ent} {D : List (Nat × Nat)} {x : Ent} (h : SmInv w A a b ta tb (S ++ [x]) D) (ha : NdAt w A ta (ndPtr a)) (hb : NdAt w A tb (ndPtr b)) (hal : alikeT x.t x.u = true)
    (hP : ∀ e ∈ P, EntOK w A e ∧ ∃ i : Nat, (prts x.t)[i]? = some e.t ∧ (prts x.u)[i]? = some e.u) (hall : ∀ (i : Nat) (c c' : Tr), (prts x.t)[i]? = some c → (prts x.u)[i]? = some c' → ∃ e ∈ P, e.t = c ∧ e.u = c') : SmInv w A a b ta tb (S ++ P) (D ++ [(x.p, x.q)]) := by
  have hx := h.st x (by simp)
  have hD : ∀ d ∈ D, d ∈ D ++ [(x.p, x.q)] := fun d hd => List.mem_append_left _ hd
  have hin : (x.p, x.q) ∈ D ++ [(x.p, x.q)] := by simp
  have hS : ∀ e ∈ S, e ∈ S ++ P := fun e he => List.mem_append_left _ he
  refine ⟨fun e he => ?_, fun d hd => ?_, (h.ab.pop ha hb hx hD (.inr hin)).more hS, fun hk e he => ?_⟩
  · rcases List.mem_append.1 he with he | he
    · exact h.st e (List.mem_append_left _ he)
    · exact (hP e he).1
  · rcases List.mem_append.1 hd with hd | hd
    · obtain ⟨t, u, h1, h2, h3, h4⟩ := h.met d hd
      refine ⟨t, u, h1, h2, h3, fun i c c' hc hc' => ?_⟩
      obtain ⟨p', q', g1, g2, g3⟩ := h4 i c c' hc hc'
      exact ⟨p', q', g1, g2, (g3.pop g1 g2 hx hD (.inr hin)).more hS⟩
    · obtain rfl : d = (x.p, x.q) := by simpa using hd
      refine ⟨x.t, x.u, hx.1, hx.2, hal, fun i c c' hc hc' => ?_⟩
      obtain ⟨e, he, rfl, rfl⟩ := hall i c c' hc hc'
      exact ⟨e.p, e.q, (hP e he).1.1, (hP e he).1.2, .inl ⟨e, List.mem_append_right _ he, rfl, rfl⟩⟩
  · rcases List.mem_append.1 he with he | he
    · exact h.know hk e (List.mem_append_left _ he)
    · have hs := h.know hk x (by simp)
      rw [sameT_eq, Bool.and_eq_true, sameL_iff] at hs
      obtain ⟨i, h1, h2⟩ := (hP e he).2
      exact hs.2 i _ _ h1 h2
/-- Nothing waits: the trees are the same. -/
theorem SmInv.done {w : World} {A : Nat → Prop} {a b : Nat} {ta tb : Tr} {D : List (Nat × Nat)} (h : SmInv w A a b ta tb [] D) (ha : NdAt w A ta (ndPtr a)) (hb : NdAt w A tb (ndPtr b)) : sameT ta tb = true := by
  have key : ∀ (n : Nat) (p q : Nat) (t u : Tr), trSize t ≤ n → NdAt w A t (ndPtr p) → NdAt w A u (ndPtr q) → DoneP [] D p q t u → sameT t u = true := by
    intro n
    induction n with
    | zero => intro p q t u hn; have := trSize_pos t; omega
    | succ n ih =>
      intro p q t u hn ht hu hd
      rcases hd with ⟨e, he, _⟩ | hd | hd
      · cases he
      · obtain ⟨t', u', h1, h2, h3, h4⟩ := h.met _ hd
        obtain rfl := ht.uniq h1
        obtain rfl := hu.uniq h2
        rw [sameT_eq, h3, Bool.true_and, sameL_iff]
        intro i c c' hc hc'
        obtain ⟨p', q', g1, g2, g3⟩ := h4 i c c' hc hc'
        have := trSize_part hc
        exact ih p' q' c c' (by omega) g1 g2 g3
      · exact hd
  exact key (trSize ta) a b ta tb (Nat.le_refl _) ha hb h.ab
/-- What is left to look at. -/
def entSz (S : List Ent) : Nat := (S.map fun e => trSize e.t).sum
theorem entSz_snoc (S : List Ent) (x : Ent) : entSz (S ++ [x]) = entSz S + trSize x.t := by simp [entSz]
theorem entSz_append (S P : List Ent) : entSz (S ++ P) = entSz S + entSz P := by simp [entSz]
theorem sm_start (w : World) (A : Nat → Prop) (a b : Nat) (ta tb : Tr) (ha : NdAt w A ta (ndPtr a)) (hb : NdAt w A tb (ndPtr b)) : SmInv w A a b ta tb [⟨a, b, ta, tb⟩] [] := by
  refine ⟨fun e he => ?_, (fun d hd => absurd hd (by simp)), .inl ⟨_, List.mem_singleton.2 rfl, rfl, rfl⟩, fun hk e he => ?_⟩
  · obtain rfl : e = ⟨a, b, ta, tb⟩ := by simpa using he
    exact ⟨ha, hb⟩
  · obtain rfl : e = ⟨a, b, ta, tb⟩ := by simpa using he
    exact hk
end
section
open Go Go.RowKit
attribute [local go_sem ↓] Go.wp_at_zero Go.wp_at_succ
attribute [local go_sem] eq4
def entC (e : Ent) : List Value := [ndPtr e.p, ndPtr e.q]
theorem entC_len (S : List Ent) : (S.flatMap entC).length = S.length * 2 := by
  induction S with
  | nil => rfl
  | cons s S ih => simp [entC, ih]; omega
theorem entSz_len (S : List Ent) : S.length ≤ entSz S := by
  induction S with
  | nil => simp
  | cons e S ih => have := trSize_pos e.t; simp [entSz] at *; omega
theorem snoc_of {S : List Ent} {n : Nat} (h : S.length = n + 1) : ∃ S' x, S = S' ++ [x] ∧ S'.length = n := by
  refine ⟨S.dropLast, S.getLast (by intro e; rw [e] at h; simp at h), (List.dropLast_concat_getLast _).symm, by rw [List.length_dropLast, h]; rfl⟩
theorem two_ptr (p q : Nat) : ∀ u ∈ [ndPtr p, ndPtr q], u.oneCell' = true := by
  intro u hu
  rcases List.mem_cons.1 hu with rfl | hu
  · rfl
  · obtain rfl : u = ndPtr q := by simpa using hu
    rfl
/-- The pairs of two nodes' parts. -/
def pairsOf (us vs : Nat → Nat) : Nat → List Tr → List Tr → List Ent
  | i, t :: l, u :: l' => ⟨us i, vs i, t, u⟩ :: pairsOf us vs (i + 1) l l'
  | _, _, _ => []
theorem pairsOf_at (us vs : Nat → Nat) : ∀ (l l' : List Tr) (i j : Nat) (c c' : Tr), l[j]? = some c → l'[j]? = some c' → (pairsOf us vs i l l')[j]? = some ⟨us (i + j), vs (i + j), c, c'⟩
  | [], _, _, _, _, _, h, _ => by simp at h
  | _ :: _, [], _, _, _, _, _, h => by simp at h
  | t :: l, u :: l', i, 0, c, c', h, h' => by
    obtain rfl : t = c := by simpa using h
    obtain rfl : u = c' := by simpa using h'
    rfl
  | t :: l, u :: l', i, j + 1, c, c', h, h' => by
    rw [pairsOf, List.getElem?_cons_succ, pairsOf_at us vs l l' (i + 1) j c c' (by simpa using h) (by simpa using h')]
    rw [show i + 1 + j = i + (j + 1) by omega]
theorem pairsOf_len (us vs : Nat → Nat) : ∀ (l l' : List Tr) (i : Nat), l.length = l'.length → (pairsOf us vs i l l').length = l.length
  | [], [], _, _ => rfl
  | [], _ :: _, _, h => by simp at h
  | _ :: _, [], _, h => by simp at h
  | t :: l, u :: l', i, h => by
    rw [pairsOf, List.length_cons, List.length_cons, pairsOf_len us vs l l' (i + 1) (by simpa using h)]
theorem pairsOf_sz (us vs : Nat → Nat) : ∀ (l l' : List Tr) (i : Nat), l.length = l'.length → entSz (pairsOf us vs i l l') = trSizes l
  | [], [], _, _ => rfl
  | [], _ :: _, _, h => by simp at h
  | _ :: _, [], _, h => by simp at h
  | t :: l, u :: l', i, h => by
    have := pairsOf_sz us vs l l' (i + 1) (by simpa using h)
    rw [pairsOf, trSizes, ← this]
    simp [entSz]
theorem pairsOf_mem (us vs : Nat → Nat) : ∀ (l l' : List Tr) (i : Nat) (e : Ent), e ∈ pairsOf us vs i l l' → ∃ j, l[j]? = some e.t ∧ l'[j]? = some e.u ∧ e.p = us (i + j) ∧ e.q = vs (i + j)
  | [], _, _, _, h => by simp [pairsOf] at h
  | _ :: _, [], _, _, h => by simp [pairsOf] at h
  | t :: l, u :: l', i, e, h => by
    rw [pairsOf] at h
    rcases List.mem_cons.1 h with rfl | h
    · exact ⟨0, rfl, rfl, rfl, rfl⟩
    · obtain ⟨j, h1, h2, h3, h4⟩ := pairsOf_mem us vs l l' (i + 1) e h
      exact ⟨j + 1, by simpa using h1, by simpa using h2, by rw [h3, show i + 1 + j = i + (j + 1) by omega], by rw [h4, show i + 1 + j = i + (j + 1) by omega]⟩
theorem bin_ptr (p q : Nat) (W : World) (hp : IsC W p) (hq : IsC W q) : (binOp .eql 23 (ndPtr p) (ndPtr q)).run Tryz.prog W = .ok (.bool (p == q)) W := by
  simp only [binOp]
  simp [eq_ptr p q W hp hq]
end
end Go.Proofs.YtlmcgbieobklhaaGreatDoor
