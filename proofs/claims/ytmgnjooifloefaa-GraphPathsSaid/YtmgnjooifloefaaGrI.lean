/- graph: a trail in memory; has and way told. -/
import Derived.Test.YtmgnjooifloefaaGrH
import Derived.Sort.OwnSortedInts
namespace Go.Proofs.Ytmgnjooifloefaa
section
open Go Go.RowKit Go.Shelf Go.Maps Go.Sort
attribute [local go_sem ↓] Go.wp_at_zero Go.wp_at_succ
/-- Map b tells of each thing the one ahead. -/
def TrAt (w : World) (b K : Nat) (par : Nat → Option Nat) : Prop :=
  ∃ D : DataW Unit, w.ownsMap Try.prog 3 (plainElem Try.prog 3) b K D ∧ (∀ x : Int, Maps.has D (.int .i64 x) = true ↔ ∃ j : Nat, x = (j : Int) ∧ par j ≠ none) ∧ ∀ j v, par j = some v → D.atKey (.int .i64 (j : Int)) (.lit (.int .i64 0)) = .lit (.int .i64 (v : Int))
theorem TrAt.kept {w w' : World} {b K : Nat} {par : Nat → Option Nat} {row : Option Nat} (h : TrAt w b K par) (hg : w.grownBy w' row) (hne : some b ≠ row) : TrAt w' b K par := by
  obtain ⟨D, h1, h2, h3⟩ := h
  exact ⟨D, h1.kept hg hne, h2, h3⟩
theorem TrAt.lt {w : World} {b K : Nat} {par : Nat → Option Nat} (h : TrAt w b K par) : b < w.heap.size := by
  obtain ⟨D, h1, _⟩ := h
  exact h1.lt
theorem TrAt.map {w : World} {b K : Nat} {par : Nat → Option Nat} (h : TrAt w b K par) : ∃ es c, w.heap[b]? = some (.map es c) := by
  obtain ⟨D, ⟨es, c, hb, _⟩, _⟩ := h
  exact ⟨es, c, hb⟩
theorem Try.zeroIn : ∀ w : World, (zeroValue 3).run Try.prog w = .ok (.int .i64 0) w := by intro w; kernel_rfl
theorem TrAt.put {w1 : World} {b K x v : Nat} {par : Nat → Option Nat} (D : DataW Unit) (hD : ∀ x : Int, Maps.has D (.int .i64 x) = true ↔ ∃ j : Nat, x = (j : Int) ∧ par j ≠ none) (hA : ∀ j v, par j = some v → D.atKey (.int .i64 (j : Int)) (.lit (.int .i64 0)) = .lit (.int .i64 (v : Int))) (hm : IsMap D) (hown : w1.ownsMap Try.prog 3 (plainElem Try.prog 3) b (K + 1) (D.put (.int .i64 (x : Int)) (.lit (.int .i64 (v : Int))))) (hx : x ≤ 1099511627776) : TrAt w1 b (K + 1) (upd par x (some v)) := by
  have hk := (int_keyed Try.underlying3).key (keyOf_int_mk Try.underlying3 (wf_nat hx))
  refine ⟨_, hown, fun y => ?_, fun j u e => ?_⟩
  · by_cases e : y = (x : Int)
    · subst e
      rw [has_put_same hm hk]
      exact ⟨fun _ => ⟨x, rfl, by rw [upd_same]; simp⟩, fun _ => rfl⟩
    · rw [has_put_other (by intro e'; exact e (by injection e')), hD]
      constructor
      · rintro ⟨j, rfl, hj⟩
        exact ⟨j, rfl, by rw [upd_other _ _ (by omega)]; exact hj⟩
      · rintro ⟨j, rfl, hj⟩
        exact ⟨j, rfl, by rw [upd_other _ _ (by omega)] at hj; exact hj⟩
  · by_cases e2 : j = x
    · subst e2
      rw [upd_same] at e
      rw [atKey_put_same hm hk, Option.some.inj e]
    · rw [upd_other _ _ e2] at e
      rw [atKey_put_other (by intro e'; injection e' with _ e'; exact e2 (by omega))]
      exact hA j u e
set_option maxRecDepth 100000 in
set_option maxHeartbeats 2000000 in
theorem ghas_any (b K x : Nat) (par : Nat → Option Nat) (w : World) (h : TrAt w b K par) (hx : x ≤ 1099511627776) :
    Calls Try.prog 31 #[.map (some b), .int .i64 (x : Int)] w fun e w' => e = .returned (.bool (par x).isSome) ∧ w' = w := by
  obtain ⟨D, hown, hD, _⟩ := h
  have hq : Maps.has D (.int .i64 (x : Int)) = (par x).isSome := by
    rw [Bool.eq_iff_iff, hD, Option.isSome_iff_ne_none]
    constructor
    · rintro ⟨j, e, h1⟩
      obtain rfl : x = j := by omega
      exact h1
    · exact fun h1 => ⟨x, rfl, h1⟩
  have hkey := keyOf_int_mk Try.underlying3 (wf_nat hx)
  clear hD
  go_enter Try.func31, Try.ntmps31
  go_wp2_with (first
    | (at_lookup; refine wpList_lookup_own_ok_int _ rfl _ _ 72 rfl 3 3 .i64 (int_keyed Try.underlying3) Try.underlying72 Try.underlying3 (Try.zeroIn _) b K _ rfl hown _ _ rfl hkey ?_; intro c hat hwc)
    | fail)
  go_ret
  exact ⟨rfl, rfl⟩
/-- The way back, so far: from b on to n. -/
structure WayL (E : Nat → Nat → Prop) (a b n : Nat) (l : List Nat) : Prop where
  fst : l.getD 0 0 = b
  ne : 0 < l.length
  lst : l.getD (l.length - 1) 0 = n
  ed : ∀ i, i + 1 < l.length → E (l.getD (i + 1) 0) (l.getD i 0)
  ds : l.length + dst E a n = dst E a b + 1
/-- A shortest way. -/
structure PathOK (E : Nat → Nat → Prop) (a b : Nat) (p : List Nat) : Prop where
  len : p.length = dst E a b + 1
  fst : p.getD 0 0 = a
  lst : p.getD (dst E a b) 0 = b
  ed : ∀ i, i + 1 < p.length → E (p.getD i 0) (p.getD (i + 1) 0)
theorem WayL.start (E : Nat → Nat → Prop) (a b : Nat) : WayL E a b b [b] := ⟨rfl, by simp, rfl, fun i hi => by simp at hi, by simp; omega⟩
theorem WayL.step {E : Nat → Nat → Prop} {a b n x : Nat} {l : List Nat} (h : WayL E a b n l) (he : E x n) (hd : dst E a n = dst E a x + 1) : WayL E a b x (l ++ [x]) := by
  have hne := h.ne
  refine ⟨?_, by simp, ?_, fun i hi => ?_, ?_⟩
  · rw [getD_append h.ne]; exact h.fst
  · simp [List.getD]
  · rw [List.length_append, List.length_singleton] at hi
    by_cases hl : i + 1 < l.length
    · rw [getD_append hl, getD_append (by omega)]
      exact h.ed i hl
    · have e : i + 1 = l.length := by omega
      have e2 : i = l.length - 1 := by omega
      have h1 : (l ++ [x]).getD (i + 1) 0 = x := by rw [e]; simp [List.getD]
      have h2 : (l ++ [x]).getD i 0 = n := by rw [getD_append (by omega), e2]; exact h.lst
      rw [h1, h2]
      exact he
  · have := h.ds
    rw [List.length_append, List.length_singleton]
    omega
theorem WayL.done {E : Nat → Nat → Prop} {a b : Nat} {l : List Nat} (h : WayL E a b a l) : PathOK E a b l.reverse := by
  have hd := h.ds
  rw [dst_self] at hd
  have hr : ∀ i, i < l.length → l.reverse.getD i 0 = l.getD (l.length - 1 - i) 0 := fun i hi => by
    rw [getD_get (by simpa using hi), getD_get (by omega), List.getElem_reverse]
  have hne := h.ne
  refine ⟨by rw [List.length_reverse]; omega, ?_, ?_, fun i hi => ?_⟩
  · rw [hr 0 h.ne]; exact h.lst
  · rw [hr _ (by omega), show l.length - 1 - dst E a b = 0 by omega]; exact h.fst
  · rw [List.length_reverse] at hi
    rw [hr i (by omega), hr (i + 1) (by omega)]
    have := h.ed (l.length - 1 - (i + 1)) (by omega)
    rw [show l.length - 1 - (i + 1) + 1 = l.length - 1 - i by omega] at this
    exact this
set_option maxRecDepth 100000 in
set_option maxHeartbeats 4000000 in
theorem gway_any (E : Nat → List Nat) (mb K a tg N : Nat) (par : Nat → Option Nat) (L : List Nat) (w : World) (h : TrAt w mb K par) (hp : ParOK E a par L) (hto : tg ∈ L) (hL : ∀ v ∈ L, v ≤ N) (hN : N ≤ 1000000) (hds : dst (fun u x => x ∈ E u) a tg ≤ 1000000) :
    Calls Try.prog 32 #[.map (some mb), .int .i64 (tg : Int)] w fun e w' => ∃ (p : List Nat) (v : Value), e = .returned v ∧ w'.ownsRow w.heap.size 3 1 v p.length (intsV p) ∧ PathOK (fun u x => x ∈ E u) a tg p ∧ Below w.heap.size w w' := by
  have HT := qhid h
  have HP := qhid hp
  have HTO := qhid hto
  have HL := qhid hL
  have H0 : Hid ((w.alloc (.cells #[.int .i64 (tg : Int)] 3)).ownsRow w.heap.size 3 1 (.slice (some ⟨w.heap.size, 0, none⟩) 1 1) 1 (intsV [tg])) := qhid ⟨rfl, .inr ⟨_, 1, _, rfl, Nat.le_refl _, heap_new _ _, by simp, by decide, rfl, rfl⟩⟩
  have HB0 := qhid (below1 w (.cells #[.int .i64 (tg : Int)] 3))
  clear h hp hto hL
  go_enter Try.func32, Try.ntmps32
  go_wp2_with fail
  obtain ⟨W1, hW1⟩ : ∃ X, X = w.alloc (.cells #[.int .i64 (tg : Int)] 3) := ⟨_, rfl⟩
  rw [← hW1] at H0 HB0 ⊢
  clear hW1
  obtain ⟨g0, hg0⟩ : ∃ g, g = w.heap.size := ⟨_, rfl⟩
  rw [← hg0] at H0 HB0 ⊢
  have HG0 := qhid hg0
  clear hg0
  go_loopw [5, 6] (fun v nv wr => ∃ (l : List Nat) (n gl ln cap : Nat), v = .slice (some ⟨gl, 0, none⟩) ln cap ∧ nv = .int .i64 (n : Int) ∧ ln ≤ 1000001 ∧ Hid (ln = l.length) ∧ Hid (n ∈ L) ∧ Hid (WayL (fun u x => x ∈ E u) a tg n l) ∧ Hid (wr.ownsRow g0 3 1 (.slice (some ⟨gl, 0, none⟩) ln cap) ln (intsV l)) ∧ Hid (Below g0 w wr))
    (fun _ nv _ => dst (fun u x => x ∈ E u) a (intOf nv).toNat)
  case atStart => exact ⟨[tg], tg, g0, 1, 1, rfl, rfl, by omega, qhid rfl, HTO, qhid (WayL.start _ _ _), H0, HB0⟩
  case round =>
    clear H0 HB0 HTO
    obtain ⟨l, n, gl, ln, cap, rfl, rfl, hln, HLN, HN, HWY, HR, HB⟩ := hrel
    have hT : TrAt wr mb K par := HT.out.kept (grown_below none (by have := HB.out; rw [HG0.out] at this; exact this)) (by simp)
    obtain ⟨x, hx⟩ : ∃ x, par n = some x := Option.ne_none_iff_exists'.1 ((HP.out.mem n).2 HN.out)
    obtain ⟨D, hown, hD, hA⟩ := hT
    have hkc : ∀ c : Int, D.atKey (.int .i64 (n : Int)) (.lit (.int .i64 0)) = .lit (.int .i64 c) → c = (x : Int) := fun c hc => by
      rw [hA n x hx] at hc
      injection hc with hc
      injection hc with _ hc
      exact hc.symm
    have HKC := qhid hkc
    have hnN := HL.out n HN.out
    have hkey := keyOf_int_mk Try.underlying3 (wf_nat (j := n) (by omega))
    have HX := qhid hx
    clear hkc hD hA hx
    have HCUR : Hid (∃ cur : Array Value, wr.heap[gl]? = some (.cells cur 3 (0, 0)) ∧ ln ≤ cap ∧ cap ≤ maxLen ∧ cur.size = cap * 1 ∧ cur.toList.take l.length = intsV l) := qhid (by
      rcases HR.out.2 with ⟨hv, _⟩ | ⟨g, cp, cur, hv, _, hh, h1, h2, h3, h4⟩
      · cases hv
      · injection hv with hv _ hc
        injection hv with hv
        injection hv with hv
        subst hv hc
        refine ⟨cur, hh, h1, h2, h3, ?_⟩
        rw [Nat.mul_one, HLN.out] at h4
        exact h4)
    have HNR : Hid (some mb ≠ (Value.slice (some ⟨gl, 0, none⟩) ln cap).ownBlock) := qhid (fun e => by
      obtain ⟨cur, hh, _⟩ := HCUR.out
      have e2 : mb = gl := Option.some.inj e
      obtain ⟨es, c, hm, _⟩ := hown
      rw [e2, hh] at hm
      cases hm)
    have HRV : Hid (Calls Try.prog 42 #[.slice (some ⟨gl, 0, none⟩) ln cap] wr fun e w' => e = .returned (.tuple #[]) ∧ ∃ nn, w' = putRow (Value.int .i64) (Sort.ahead wr nn) gl 0 ((l.map fun j : Nat => (j : Int)).reverse).toArray) ∧ True := ⟨by
      obtain ⟨cur, hh, hcap, hmax, hs, ht⟩ := HCUR.out
      have h1 := Try.slices_Reverse_int gl 0 cap (l.map fun j : Nat => (j : Int)) wr (holds_of_blockI hh (by rw [List.length_map, ht, intsV, List.map_map]; rfl)) (by rw [List.length_map, ← HLN.out]; omega)
      rw [List.length_map, ← HLN.out] at h1
      exact qhid h1, trivial⟩
    replace HRV := HRV.1
    by_cases hna : n = a
    · have hxa : x = a := by have := HX.out; rw [hna, HP.out.fst] at this; exact (Option.some.inj this).symm
      have hd : ((x : Int) != (n : Int)) = false := by rw [hxa, hna]; simp
      have HNA := qhid hna
      clear hna hxa
      go_wp2_with (first
        | (at_lookup; refine wpList_lookup_own_int _ rfl _ _ 72 rfl 3 3 .i64 (int_keyed Try.underlying3) Try.underlying72 Try.underlying3 (Try.zeroIn _) mb K _ rfl hown _ _ rfl hkey ?_; intro c hat hwc; have hc := HKC.out c hat; subst hc; clear hat hwc)
        | fail)
      refine HRV.out.mono ?_
      rintro e w2 ⟨rfl, nn, hw2⟩
      have HW2 := qhid hw2
      clear hw2
      go_wp2_with fail
      go_ret
      obtain ⟨cur, hh, hcap, hmax, hs, ht⟩ := HCUR.out
      have hgo : ∀ X : World, X = putRow (Value.int .i64) (Sort.ahead wr nn) gl 0 ((l.map fun j : Nat => (j : Int)).reverse).toArray → X.ownsRow g0 3 1 (.slice (some ⟨gl, 0, none⟩) ln cap) ln (intsV l.reverse) ∧ wr.grownBy X (some gl) := fun X hX => by
        have h1 := ownsRow_sortedI (n := nn) (os := #[]) (ss := l.map fun j : Nat => (j : Int)) (ts := (l.map fun j : Nat => (j : Int)).reverse) (by simp) (ownsLt HR.out rfl).1 hh (by simpa [HLN.out] using hcap) hmax hs
        have h2 := grownBy_sortedI (w := wr) (g := gl) (n := nn) (os := #[]) ((l.map fun j : Nat => (j : Int)).reverse).toArray
        rw [grow_empty, ← hX] at h1 h2
        rw [List.length_map, ← HLN.out, ← List.map_reverse, List.map_map] at h1
        exact ⟨h1, h2⟩
      obtain ⟨h1, h2⟩ := hgo w2 HW2.out
      have hb2 : Below g0 w w2 := HB.out.grown h2 (Nat.le_trans (Nat.le_of_eq HG0.out) (by have := HB.out.size; omega)) (fun k e => by cases e; exact (ownsLt HR.out rfl).1)
      have hwy := HWY.out
      rw [HNA.out] at hwy
      rw [HG0.out] at h1 hb2
      refine ⟨l.reverse, _, rfl, ?_, hwy.done, hb2⟩
      rw [List.length_reverse, ← HLN.out]
      exact h1
    · have hx1 := HP.out.one n x HX.out hna
      have hxn : x ≠ n := fun e => by have := hx1.2.2; rw [e] at this; omega
      have hd : ((x : Int) != (n : Int)) = true := by simp; omega
      have HX1 := qhid hx1
      have HNA := qhid hna
      clear hna hx1 hxn
      obtain ⟨i0, hif, hy0, hy1, hy2⟩ := info_parts Try.infoInt
      have hgle : g0 ≤ wr.heap.size := by rw [HG0.out]; have := HB.out.size; exact this
      have HOW := qhid hown
      go_wp2_with (first
        | (at_lookup; refine wpList_lookup_own_int _ rfl _ _ 72 rfl 3 3 .i64 (int_keyed Try.underlying3) Try.underlying72 Try.underlying3 (Try.zeroIn _) mb K _ rfl hown _ _ rfl hkey ?_; intro c hat hwc; have hc := HKC.out c hat; subst hc; clear hat hwc)
        | (at_builtin; go_must (refine wpList_append_own_at _ rfl _ _ 30 rfl g0 3 i0 (.int .i64 0) 1 8 Try.underlying30 hif hy0 hy1 hy2 rfl (by decide) _ _ _ rfl (ownsAlloc HR.out _) ⟨wr.heap.size, 0, none⟩ 1 1 [.int .i64 (x : Int)] rfl rfl (cell_one_new _ _ _) (by simp [Value.oneCell']) (by unfold maxLen; omega) (by omega) (by simp; omega) ?_; intro v' w1 hown' hgrow _ hat; obtain ⟨g', cap', rfl⟩ := ownsRow_succ hown'; have HGR := qhid hgrow; replace hown := (HOW.out.alloc _).kept hgrow (fun e => HNR.out e); clear hgrow hat))
        | fail)
      have hgr : (wr.alloc (.cells #[.int .i64 (x : Int)] 3)).grownBy w1 (Value.slice (some ⟨gl, 0, none⟩) ln cap).ownBlock := HGR.out
      have hwy := HWY.out.step HX1.out.2.1 HX1.out.2.2
      have hds2 := hwy.ds
      rw [List.length_append, List.length_singleton, ← HLN.out] at hds2
      refine ⟨⟨l ++ [x], x, g', ln + 1, cap', rfl, rfl, by omega, qhid (by rw [List.length_append, ← HLN.out]; rfl), qhid HX1.out.1, qhid hwy, qhid ?_, qhid ?_⟩, ?_⟩
      · rw [show intsV (l ++ [x]) = intsV l ++ [.int .i64 (x : Int)] by simp [intsV]]
        exact hown'
      · exact HB.out.trans (belowApp HR.out hgr hgle)
      · show dst (fun u x => x ∈ E u) a ((x : Int)).toNat < dst (fun u x => x ∈ E u) a ((n : Int)).toNat
        rw [Int.toNat_natCast, Int.toNat_natCast, HX1.out.2.2]
        omega
end
end Go.Proofs.Ytmgnjooifloefaa
