/- Groups within one another: their tokens, and the tree, told plainly. Contracts of trees: what comes of nothing. -/
import Derived.Test.YtlmcgbieobklhaaGreatDoorPbH
import Derived.Test.YtlmcgbieobklhaaGreatDoorPbM
namespace Go.Proofs.YtlmcgbieobklhaaGreatDoor
section
open Go Go.RowKit
theorem bAt_append (a b : ByteArray) (k : Nat) : bAt (a ++ b) k = if k < a.size then bAt a k else bAt b (k - a.size) := by
  by_cases h : k < a.size
  · rw [if_pos h, bAt_in h, bAt_in (by rw [ByteArray.size_append]; omega), ByteArray.getElem_append_left h]
  · rw [if_neg h]
    by_cases h2 : k < a.size + b.size
    · rw [bAt_in (by rw [ByteArray.size_append]; omega), bAt_in (by omega), ByteArray.getElem_append_right (by omega)]
    · rw [bAt_end (by rw [ByteArray.size_append]; omega), bAt_end (by omega)]
/-- A group's opening: how many bytes it has, and the token's kind. -/
def opU (free : Bool) : Nat := if free then 3 else 1
def opK (free : Bool) : Int := if free then 2 else 1
/-- n groups within one another, as a text. -/
structure NestS (s : ByteArray) (free : Bool) (n : Nat) : Prop where
  size : s.size = opU free * n + 1 + n
  op : ∀ i, i < n → bAt s (opU free * i) = 40
  f1 : free = true → ∀ i, i < n → bAt s (3 * i + 1) = 63 ∧ bAt s (3 * i + 2) = 58
  a : bAt s (opU free * n) = 97
  cl : ∀ i, i < n → bAt s (opU free * n + 1 + i) = 41
/-- Where the token of a place begins. -/
def npos (free : Bool) (n i : Nat) : Nat := if i ≤ n then opU free * i else opU free * n + 1 + (i - n - 1)
def ntok (free : Bool) (n i : Nat) : TokM := if i < n then ⟨opK free, noW, 0, 0, false⟩ else if i = n then ⟨0, oneW 97, 0, 0, false⟩ else ⟨3, noW, 0, 0, false⟩
theorem npos_lt (free : Bool) (n i : Nat) (h : i < 2 * n + 1) : npos free n i < opU free * n + 1 + n := by
  unfold npos
  split
  · have := Nat.mul_le_mul_left (opU free) (by assumption : i ≤ n); omega
  · omega
theorem ntoken {s : ByteArray} {free : Bool} {n i : Nat} (h : NestS s free n) (hi : i < 2 * n + 1) : tokenR s (npos free n i) = (ntok free n i, 0, npos free n (i + 1)) := by
  by_cases h1 : i < n
  · have e1 : npos free n i = opU free * i := if_pos (by omega)
    have e2 : npos free n (i + 1) = opU free * i + opU free := by unfold npos; rw [if_pos (by omega), Nat.mul_add, Nat.mul_one]
    have e3 : ntok free n i = ⟨opK free, noW, 0, 0, false⟩ := if_pos h1
    have hb := h.op i h1
    rw [e1, e2, e3]
    unfold tokenR
    rw [if_neg (by rw [hb]; decide), if_pos hb]
    cases free with
    | true =>
      obtain ⟨g1, g2⟩ := h.f1 rfl i h1
      simp only [opU, opK, if_true]
      unfold openR
      rw [if_pos g1, if_pos g2]
    | false =>
      have g1 : bAt s (opU false * i + 1) ≠ 63 := by
        by_cases h2 : i + 1 < n
        · have := h.op (i + 1) h2
          rw [show opU false * (i + 1) = opU false * i + 1 by simp [opU]] at this
          rw [this]; decide
        · have := h.a
          obtain rfl : n = i + 1 := by omega
          rw [show opU false * (i + 1) = opU false * i + 1 by simp [opU]] at this
          rw [this]; decide
      unfold openR
      rw [if_neg g1]
      simp [opU, opK]
  · by_cases h2 : i = n
    · subst h2
      have e1 : npos free i i = opU free * i := if_pos (Nat.le_refl _)
      have e2 : npos free i (i + 1) = opU free * i + 1 := by unfold npos; rw [if_neg (by omega)]; omega
      have e3 : ntok free i i = ⟨0, oneW 97, 0, 0, false⟩ := by unfold ntok; rw [if_neg (by omega), if_pos rfl]
      rw [e1, e2, e3]
      have hb := h.a
      simp [tokenR, setR, hb]
    · have e1 : npos free n i = opU free * n + 1 + (i - n - 1) := if_neg (by omega)
      have e2 : npos free n (i + 1) = opU free * n + 1 + (i - n - 1) + 1 := by unfold npos; rw [if_neg (by omega)]; omega
      have e3 : ntok free n i = ⟨3, noW, 0, 0, false⟩ := by unfold ntok; rw [if_neg h1, if_neg h2]
      have hb := h.cl (i - n - 1) (by omega)
      rw [e1, e2, e3]
      simp [tokenR, hb]
/-- All tokens. -/
def ntoks (free : Bool) (n : Nat) : Nat → Nat → Toks
  | _, 0 => []
  | i, m + 1 => (ntok free n i, npos free n i, npos free n (i + 1)) :: ntoks free n (i + 1) m
theorem ntoks_len (free : Bool) (n : Nat) : ∀ m i, (ntoks free n i m).length = m
  | 0, _ => rfl
  | m + 1, i => by rw [ntoks, List.length_cons, ntoks_len free n m (i + 1)]
theorem ntoks_at (free : Bool) (n : Nat) : ∀ m i j, j < m → (ntoks free n i m)[j]? = some (ntok free n (i + j), npos free n (i + j), npos free n (i + j + 1))
  | 0, _, j, h => absurd h (by omega)
  | m + 1, i, 0, _ => by rw [ntoks]; rfl
  | m + 1, i, j + 1, h => by
    rw [ntoks, List.getElem?_cons_succ, ntoks_at free n m (i + 1) j (by omega)]
    rw [show i + 1 + j = i + (j + 1) by omega]
theorem nscan {s : ByteArray} {free : Bool} {n : Nat} (h : NestS s free n) : ∀ m i, i + m = 2 * n + 1 → scanK s (npos free n i) = (ntoks free n i m, 0, s.size)
  | 0, i, hi => by
    have e : npos free n i = s.size := by unfold npos; rw [if_neg (by omega), h.size]; omega
    rw [e, scanK_end (Nat.le_refl _)]; rfl
  | m + 1, i, hi => by
    have ht := ntoken h (i := i) (by omega)
    have ih := nscan h m (i + 1) (by omega)
    rw [scanK_on (by rw [h.size]; exact npos_lt _ _ _ (by omega)) (by rw [ht])]
    rw [ht]
    simp only [ih]
    rfl
theorem nscanAll {s : ByteArray} {free : Bool} {n : Nat} (h : NestS s free n) : scanAll s = (ntoks free n 0 (2 * n + 1), 0, s.size) := by
  have := nscan h (2 * n + 1) 0 (by omega)
  have e : npos free n 0 = 0 := by unfold npos; rw [if_pos (by omega)]; rfl
  rw [e] at this
  exact this
/-- The kinds of tokens of groups within one another. -/
structure NestL (L : Toks) (g : Int) (n : Nat) : Prop where
  len : L.length = 2 * n + 1
  op : ∀ i, i < n → kdR L i = g
  a : kdR L n = 0
  cl : ∀ i, n < i → i < 2 * n + 1 → kdR L i = 3
  end_ : ∀ i, 2 * n + 1 ≤ i → kdR L i = -1
theorem nestL (free : Bool) (n : Nat) : NestL (ntoks free n 0 (2 * n + 1)) (opK free) n := by
  have key : ∀ i, i < 2 * n + 1 → kdR (ntoks free n 0 (2 * n + 1)) i = (ntok free n i).kind := fun i hi => by
    unfold kdR
    rw [ntoks_at free n _ 0 i hi, Nat.zero_add]
  refine ⟨ntoks_len _ _ _ _, fun i hi => ?_, ?_, fun i h1 h2 => ?_, fun i hi => ?_⟩
  · rw [key i (by omega)]; unfold ntok; rw [if_pos hi]
  · rw [key n (by omega)]; unfold ntok; rw [if_neg (by omega), if_pos rfl]
  · rw [key i h2]; unfold ntok; rw [if_neg (by omega), if_neg (by omega)]
  · unfold kdR; rw [List.getElem?_eq_none (by rw [ntoks_len]; omega)]
/-- A pattern, once what stands in it is known. -/
theorem nitem {L : Toks} {size i d j : Nat} {t : Tr} {f : Nat} (hs : singleF L size f d i = (0, j, some t)) (h5 : kdR L j ≠ 5) : itemF L size (f + 1) d i = (0, j, some t) := by
  rw [itemF, hs, thenR_ok, if_neg h5]
theorem npat {L : Toks} {size i d j : Nat} {t : Tr} {f : Nat} (hs : singleF L size f d i = (0, j, some t)) (hL : i < L.length) (h4 : kdR L i ≠ 4) (h3 : kdR L i ≠ 3) (hj : L.length ≤ j ∨ kdR L j = 3) (h45 : kdR L j ≠ 4 ∧ kdR L j ≠ 5) : patF L size (f + 4) d i = (0, j, some t) := by
  have hi := nitem hs h45.2
  have hit : itemsF L size (f + 2) d i i [] = (0, j, some t) := by
    rw [itemsF, if_neg (by omega), hi, thenR_ok, itemsF]
    rw [if_pos (by rcases hj with h | h; exact .inl h; exact .inr (.inr h))]
    rfl
  rw [patF, altsF, hit, thenR_ok, if_neg h45.1]
  rfl
theorem npat_bad {L : Toks} {size i d j : Nat} {e : Int} {f : Nat} (hs : singleF L size f d i = (e, j, none)) (hL : i < L.length) (h4 : kdR L i ≠ 4) (h3 : kdR L i ≠ 3) : patF L size (f + 4) d i = (e, j, none) := by
  rw [patF, altsF, itemsF, if_neg (by omega), itemF, hs, thenR_bad, thenR_bad, thenR_bad]
theorem nest_good {L : Toks} {size n : Nat} {g : Int} (h : NestL L g n) (hg : g = 1 ∨ g = 2) (hn : n ≤ 200) : ∀ m i f, i + m = n → 6 * m + 6 ≤ f → ∃ t, patF L size f i i = (0, 2 * n + 1 - i, some t) ∧ foldR deepR t = m ∧ trSize t = m + 1
  | 0, i, f, hi, hf => by
    obtain rfl : i = n := by omega
    obtain ⟨f, rfl⟩ : ∃ f', f = f' + 5 := ⟨f - 5, by omega⟩
    have hs : singleF L size (f + 1) i i = (0, i + 1, some (.mk 1 (tkR L i).set 0 0 false (plR L size i) (plR L size (i + 1)) [])) := by
      rw [singleF, if_pos h.a]
    have hl := h.len
    have hj1 : L.length ≤ i + 1 ∨ kdR L (i + 1) = 3 := by
      by_cases h0 : i = 0
      · exact .inl (by omega)
      · exact .inr (h.cl _ (by omega) (by omega))
    have hj2 : kdR L (i + 1) ≠ 4 ∧ kdR L (i + 1) ≠ 5 := by
      by_cases h0 : i = 0
      · rw [h.end_ _ (by omega)]; decide
      · rw [h.cl _ (by omega) (by omega)]; decide
    refine ⟨_, by rw [show 2 * i + 1 - i = i + 1 by omega]; exact npat hs (by omega) (by rw [h.a]; decide) (by rw [h.a]; decide) hj1 hj2, ?_, ?_⟩
    · rw [foldR_eq]; simp [prts, deepR, maxR]
    · rw [trSize_eq]; simp [prts, trSizes]
  | m + 1, i, f, hi, hf => by
    obtain ⟨f, rfl⟩ : ∃ f', f = f' + 6 := ⟨f - 6, by omega⟩
    obtain ⟨t, h1, h2, h3⟩ := nest_good h hg hn m (i + 1) f (by omega) (by omega)
    have hk := h.op i (by omega)
    have hl := h.len
    have hcl : kdR L (2 * n + 1 - (i + 1)) = 3 := h.cl _ (by omega) (by omega)
    have hgr : ∀ k : Int, groupF L size (f + 1) i i k = (0, 2 * n + 1 - i, some (.mk k noW 0 0 false (plR L size i) (plR L size (2 * n + 1 - (i + 1) + 1)) [t])) := fun k => by
      rw [groupF, if_neg (by omega), h1, thenR_ok, if_pos hcl]
      rw [show 2 * n + 1 - (i + 1) + 1 = 2 * n + 1 - i by omega]
    have hj : (L.length ≤ 2 * n + 1 - i ∨ kdR L (2 * n + 1 - i) = 3) ∧ kdR L (2 * n + 1 - i) ≠ 4 ∧ kdR L (2 * n + 1 - i) ≠ 5 := by
      by_cases h0 : i = 0
      · subst h0
        refine ⟨.inl (by omega), ?_, ?_⟩ <;> (rw [h.end_ _ (by omega)]; decide)
      · have := h.cl (2 * n + 1 - i) (by omega) (by omega)
        exact ⟨.inr this, by rw [this]; decide, by rw [this]; decide⟩
    rcases hg with rfl | rfl
    · refine ⟨_, npat (f := f + 2) (by rw [singleF, if_neg (by rw [hk]; decide), if_pos hk]; exact hgr 2) (by omega) (by rw [hk]; decide) (by rw [hk]; decide) hj.1 hj.2, ?_, ?_⟩
      · rw [foldR_eq]; simp [prts, deepR, maxR, h2]; (try omega)
      · rw [trSize_eq]; simp [prts, trSizes, h3]; (try omega)
    · refine ⟨_, npat (f := f + 2) (by rw [singleF, if_neg (by rw [hk]; decide), if_neg (by rw [hk]; decide), if_pos hk]; exact hgr 3) (by omega) (by rw [hk]; decide) (by rw [hk]; decide) hj.1 hj.2, ?_, ?_⟩
      · rw [foldR_eq]; simp [prts, deepR, maxR, h2]; (try omega)
      · rw [trSize_eq]; simp [prts, trSizes, h3]; (try omega)
theorem nest_bad {L : Toks} {size n : Nat} {g : Int} (h : NestL L g n) (hg : g = 1 ∨ g = 2) (hn : 200 < n) : ∀ m i f, i + m = 200 → 6 * m + 6 ≤ f → patF L size f i i = (3, 200, none)
  | 0, i, f, hi, hf => by
    obtain rfl : i = 200 := by omega
    obtain ⟨f, rfl⟩ : ∃ f', f = f' + 6 := ⟨f - 6, by omega⟩
    have hk := h.op 200 (by omega)
    have hl := h.len
    have hgr : ∀ k : Int, groupF L size (f + 1) 200 200 k = (3, 200, none) := fun k => by rw [groupF, if_pos rfl]
    refine npat_bad (f := f + 2) ?_ (by omega) (by rw [hk]; rcases hg with rfl | rfl <;> decide) (by rw [hk]; rcases hg with rfl | rfl <;> decide)
    rcases hg with rfl | rfl
    · rw [singleF, if_neg (by rw [hk]; decide), if_pos hk, hgr]
    · rw [singleF, if_neg (by rw [hk]; decide), if_neg (by rw [hk]; decide), if_pos hk, hgr]
  | m + 1, i, f, hi, hf => by
    obtain ⟨f, rfl⟩ : ∃ f', f = f' + 6 := ⟨f - 6, by omega⟩
    have ih := nest_bad (size := size) h hg hn m (i + 1) f (by omega) (by omega)
    have hk := h.op i (by omega)
    have hl := h.len
    have hgr : ∀ k : Int, groupF L size (f + 1) i i k = (3, 200, none) := fun k => by rw [groupF, if_neg (by omega), ih, thenR_bad]
    refine npat_bad (f := f + 2) ?_ (by omega) (by rw [hk]; rcases hg with rfl | rfl <;> decide) (by rw [hk]; rcases hg with rfl | rfl <;> decide)
    rcases hg with rfl | rfl
    · rw [singleF, if_neg (by rw [hk]; decide), if_pos hk, hgr]
    · rw [singleF, if_neg (by rw [hk]; decide), if_neg (by rw [hk]; decide), if_pos hk, hgr]
/-- What comes of groups within one another. -/
theorem nest_parse {s : ByteArray} {free : Bool} {n : Nat} (h : NestS s free n) (hn : n ≤ 200) : ∃ t, parseR s = (0, 0, some t) ∧ foldR deepR t = n ∧ trSize t = n + 1 := by
  have hL := nestL free n
  have hl := hL.len
  obtain ⟨t, h1, h2, h3⟩ := nest_good (size := s.size) hL (by cases free; exact .inl rfl; exact .inr rfl) hn n 0 (6 * (2 * n + 1) + 6) (by omega) (by omega)
  refine ⟨t, ?_, h2, h3⟩
  have hw : wholeR (ntoks free n 0 (2 * n + 1)) s.size = (0, 2 * n + 1, some t) := by
    unfold wholeR
    rw [hl, h1, thenR_ok, if_neg (by omega)]; rfl
  unfold parseR
  rw [nscanAll h]
  simp only [hw]
  rfl
theorem nest_many {s : ByteArray} {free : Bool} {n : Nat} (h : NestS s free n) (hn : 200 < n) : parseR s = (3, ((opU free * 200 : Nat) : Int), none) := by
  have hL := nestL free n
  have hl := hL.len
  have h1 := nest_bad (size := s.size) hL (by cases free; exact .inl rfl; exact .inr rfl) hn 200 0 (6 * (2 * n + 1) + 6) (by omega) (by omega)
  have hw : wholeR (ntoks free n 0 (2 * n + 1)) s.size = (3, 200, none) := by
    unfold wholeR
    rw [hl, h1, thenR_bad]
  have hp : plR (ntoks free n 0 (2 * n + 1)) s.size 200 = opU free * 200 := by
    unfold plR
    rw [ntoks_at free n _ 0 200 (by omega)]
    show npos free n (0 + 200) = _
    unfold npos
    rw [if_pos (by omega)]
  unfold parseR
  rw [nscanAll h]
  simp only [hw, hp]
  rfl
end
section
open Go Go.RowKit
attribute [local go_sem ↓] Go.wp_at_zero Go.wp_at_succ
attribute [local go_sem] eq4
theorem run_store_fncO (P : Program) (w : World) (a : Addr) (f : Fn) (x y : Array Value) (m : Mode) : (store a (.func f x y) m).run P w = stored P w a (.func f x y) m := run_store P w a _ m rfl
attribute [local go_sem] run_store_fncO
set_option maxHeartbeats 2000000 in
theorem scount_nil (w : World) (f : FuncId) : Calls Tryz.prog 36 #[.pointer none, .func (.func f) #[] #[]] w fun e w' => e = .returned (.int .i64 0) ∧ Below w.heap.size w w' := by
  have HB := qhid (below1 w (.cells #[.func (.func f) #[] #[]] 41))
  have FN := qhid (pfold_nil (w.alloc (.cells #[.func (.func f) #[] #[]] 41)) (.func 67) #[.pointer (some ⟨w.heap.size, 0, none⟩)])
  go_enter Tryz.func36, Tryz.ntmps36
  go_wp2_with fail
  refine FN.out.mono ?_
  rintro e w1 ⟨rfl, h1⟩
  have H1 := qhid (HB.out.trans (h1.mono HB.out.size))
  clear h1 FN HB
  go_wp2_with fail
  exact bodyPost_ret (v := .int .i64 0) (by simp [results, Tryz.results36, go_sem]) rfl ⟨rfl, H1.out⟩
set_option maxHeartbeats 2000000 in
theorem ssize_nil (w : World) : Calls Tryz.prog 12 #[.pointer none] w fun e w' => e = .returned (.int .i64 0) ∧ Below w.heap.size w w' := by
  have FN := qhid (scount_nil w 37)
  go_enter Tryz.func12, Tryz.ntmps12
  go_wp2_with fail
  refine FN.out.mono ?_
  rintro e w1 ⟨rfl, h1⟩
  have H1 := qhid h1
  clear h1 FN
  go_wp2_with fail
  exact bodyPost_ret (v := .int .i64 0) (by simp [results, Tryz.results12, go_sem]) rfl ⟨rfl, H1.out⟩
set_option maxHeartbeats 2000000 in
theorem sgroups_nil (w : World) : Calls Tryz.prog 14 #[.pointer none] w fun e w' => e = .returned (.int .i64 0) ∧ Below w.heap.size w w' := by
  have FN := qhid (scount_nil w 38)
  go_enter Tryz.func14, Tryz.ntmps14
  go_wp2_with fail
  refine FN.out.mono ?_
  rintro e w1 ⟨rfl, h1⟩
  have H1 := qhid h1
  clear h1 FN
  go_wp2_with fail
  exact bodyPost_ret (v := .int .i64 0) (by simp [results, Tryz.results14, go_sem]) rfl ⟨rfl, H1.out⟩
set_option maxHeartbeats 2000000 in
theorem sdeep_nil (w : World) : Calls Tryz.prog 16 #[.pointer none] w fun e w' => e = .returned (.int .i64 0) ∧ Below w.heap.size w w' := by
  have FN := qhid (pfold_nil w (.func 40) #[])
  go_enter Tryz.func16, Tryz.ntmps16
  go_wp2_with fail
  refine FN.out.mono ?_
  rintro e w1 ⟨rfl, h1⟩
  have H1 := qhid h1
  clear h1 FN
  go_wp2_with fail
  exact bodyPost_ret (v := .int .i64 0) (by simp [results, Tryz.results16, go_sem]) rfl ⟨rfl, H1.out⟩
set_option maxHeartbeats 2000000 in
theorem sright_nil (w : World) : Calls Tryz.prog 18 #[.pointer none] w fun e w' => e = .returned (.bool false) ∧ Below w.heap.size w w' := by
  have FN := qhid (pfold_nil w (.func 41) #[])
  go_enter Tryz.func18, Tryz.ntmps18
  go_wp2_with fail
  refine FN.out.mono ?_
  rintro e w1 ⟨rfl, h1⟩
  have H1 := qhid h1
  clear h1 FN
  go_wp2_with fail
  exact bodyPost_ret (v := .bool false) (by simp [results, Tryz.results18, go_sem]) rfl ⟨rfl, H1.out⟩
set_option maxHeartbeats 2000000 in
theorem seach_nil (w : World) (f : Value) : Calls Tryz.prog 34 #[.pointer none, f] w fun e w' => e = .returned (.tuple #[]) ∧ Below w.heap.size w w' := by
  have FN := qhid (ssize_nil w)
  go_enter Tryz.func34, Tryz.ntmps34
  go_wp2_with fail
  refine FN.out.mono ?_
  rintro e w1 ⟨rfl, h1⟩
  have H1 := qhid h1
  clear h1 FN
  go_wp2_with fail
  exact bodyPost_ret (v := .tuple #[]) (by simp [results, Tryz.results34, go_sem]) rfl ⟨rfl, H1.out⟩
set_option maxHeartbeats 2000000 in
theorem ssets_nil (w : World) : Calls Tryz.prog 10 #[.pointer none] w fun e w' => e = .returned (.slice none 0 0) ∧ Below w.heap.size w w' := by
  have HB := qhid (below1 w (.cells #[.slice none 0 0] 37))
  have HE := qhid (heap_new w (.cells #[.slice none 0 0] 37))
  have FN := qhid (seach_nil (w.alloc (.cells #[.slice none 0 0] 37)) (.func (.func 35) #[] #[.pointer (some ⟨w.heap.size, 0, none⟩)]))
  go_enter Tryz.func10, Tryz.ntmps10
  go_wp2_with fail
  refine FN.out.mono ?_
  rintro e w1 ⟨rfl, h1⟩
  have H1 := qhid (HB.out.trans (h1.mono HB.out.size))
  have k0 := Joins.cell_of_block (below_kept h1 HE.out) 0
  simp only [List.getElem?_toArray, List.getElem?_cons_zero] at k0
  clear h1 FN HB HE
  go_wp2_with fail
  exact bodyPost_ret (v := .slice none 0 0) (by simp [results, Tryz.results10, go_sem]) rfl ⟨rfl, H1.out⟩
end
end Go.Proofs.YtlmcgbieobklhaaGreatDoor
