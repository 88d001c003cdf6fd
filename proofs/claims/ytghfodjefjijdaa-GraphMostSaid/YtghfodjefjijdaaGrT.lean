/- graph: knots numbered by their least things; Knots told. -/
import Derived.Test.YtghfodjefjijdaaGrR
namespace Go.Proofs.Ytghfodjefjijdaa
section
/-- None ahead of a thing is of its knot. -/
def fresh (kn : Nat → Int) (i : Nat) : Bool := (List.range i).all (fun v => !(kn v == kn i))
/-- How many knots have their least thing ahead. -/
def nx (kn : Nat → Int) : Nat → Nat
  | 0 => 0
  | i + 1 => nx kn i + if fresh kn i then 1 else 0
/-- A knot's number, as far as things were gone through; -1: it has none. -/
def num (kn : Nat → Int) : Nat → Int → Int
  | 0, _ => -1
  | i + 1, k => if num kn i k = -1 then (if kn i = k then (nx kn i : Int) else -1) else num kn i k
/-- A thing's knot, numbered so. -/
def ln (kn : Nat → Int) (v : Nat) : Int := num kn (v + 1) (kn v)
theorem num_none {kn : Nat → Int} {k : Int} : ∀ {i : Nat}, num kn i k = -1 ↔ ∀ v, v < i → kn v ≠ k := by
  intro i
  induction i with
  | zero => exact ⟨fun _ v h => absurd h (Nat.not_lt_zero _), fun _ => rfl⟩
  | succ i ih =>
    show (if num kn i k = -1 then (if kn i = k then (nx kn i : Int) else -1) else num kn i k) = -1 ↔ _
    by_cases h1 : num kn i k = -1
    · rw [if_pos h1]
      by_cases h2 : kn i = k
      · rw [if_pos h2]
        exact ⟨fun h => by omega, fun h => absurd h2 (h i (Nat.lt_succ_self _))⟩
      · rw [if_neg h2]
        refine ⟨fun _ v hv => ?_, fun _ => rfl⟩
        rcases Nat.lt_succ_iff_lt_or_eq.1 hv with hv | rfl
        · exact ih.1 h1 v hv
        · exact h2
    · rw [if_neg h1]
      exact ⟨fun h => absurd h h1, fun h => absurd (ih.2 (fun v hv => h v (Nat.lt_succ_of_lt hv))) h1⟩
theorem fresh_iff {kn : Nat → Int} {i : Nat} : fresh kn i = true ↔ num kn i (kn i) = -1 := by
  rw [num_none]
  unfold fresh
  simp
theorem num_keep {kn : Nat → Int} {k : Int} {i j : Nat} (h : num kn i k ≠ -1) (hij : i ≤ j) : num kn j k = num kn i k := by
  induction hij with
  | refl => rfl
  | step _ ih =>
    show (if num kn _ k = -1 then _ else num kn _ k) = _
    rw [if_neg (by rw [ih]; exact h), ih]
theorem num_yes {kn : Nat → Int} {k : Int} : ∀ {i : Nat}, num kn i k ≠ -1 → ∃ v, v < i ∧ kn v = k ∧ fresh kn v = true ∧ num kn i k = (nx kn v : Int) := by
  intro i
  induction i with
  | zero => exact fun h => absurd rfl h
  | succ i ih =>
    intro h
    have e : num kn (i + 1) k = if num kn i k = -1 then (if kn i = k then (nx kn i : Int) else -1) else num kn i k := rfl
    by_cases h1 : num kn i k = -1
    · rw [e, if_pos h1] at h
      by_cases h2 : kn i = k
      · refine ⟨i, Nat.lt_succ_self _, h2, fresh_iff.2 (by rw [h2]; exact h1), ?_⟩
        rw [e, if_pos h1, if_pos h2]
      · rw [if_neg h2] at h
        exact absurd rfl h
    · obtain ⟨v, hv, h2, h3, h4⟩ := ih h1
      exact ⟨v, Nat.lt_succ_of_lt hv, h2, h3, by rw [e, if_neg h1, h4]⟩
theorem ln_ne (kn : Nat → Int) (v : Nat) : num kn (v + 1) (kn v) ≠ -1 := fun h => num_none.1 h v (Nat.lt_succ_self _) rfl
theorem nx_mono {kn : Nat → Int} {i j : Nat} (h : i ≤ j) : nx kn i ≤ nx kn j := by
  induction h with
  | refl => exact Nat.le_refl _
  | step _ ih => exact Nat.le_trans ih (Nat.le_add_right _ _)
theorem nx_lt {kn : Nat → Int} {i j : Nat} (h : i < j) (hf : fresh kn i = true) : nx kn i < nx kn j := by
  have h1 : nx kn (i + 1) = nx kn i + 1 := by show nx kn i + (if fresh kn i then 1 else 0) = _; rw [if_pos hf]
  have := nx_mono (kn := kn) (show i + 1 ≤ j from h)
  omega
theorem nx_le (kn : Nat → Int) (i : Nat) : nx kn i ≤ i := by
  induction i with
  | zero => exact Nat.le_refl _
  | succ i ih =>
    show nx kn i + (if fresh kn i then 1 else 0) ≤ i + 1
    split <;> omega
/-- Numbers tell knots apart. -/
theorem ln_same {kn : Nat → Int} {u v : Nat} : ln kn u = ln kn v ↔ kn u = kn v := by
  constructor
  · intro h
    obtain ⟨a, _, ha, fa, ea⟩ := num_yes (ln_ne kn u)
    obtain ⟨b, _, hb, fb, eb⟩ := num_yes (ln_ne kn v)
    have h : num kn (u + 1) (kn u) = num kn (v + 1) (kn v) := h
    rw [ea, eb] at h
    have e : a = b := by
      rcases Nat.lt_trichotomy a b with hab | hab | hab
      · have := nx_lt hab fa; omega
      · exact hab
      · have := nx_lt hab fb; omega
    rw [← ha, ← hb, e]
  · intro h
    show num kn (u + 1) (kn u) = num kn (v + 1) (kn v)
    rcases Nat.le_total (u + 1) (v + 1) with hl | hl
    · rw [← num_keep (ln_ne kn u) hl, h]
    · rw [← num_keep (ln_ne kn v) hl, h]
/-- The least thing of a knot has the next number. -/
theorem num_succ (kn : Nat → Int) (i : Nat) (k : Int) : num kn (i + 1) k = if num kn i k = -1 then (if kn i = k then (nx kn i : Int) else -1) else num kn i k := rfl
theorem nx_succ (kn : Nat → Int) (i : Nat) : nx kn (i + 1) = nx kn i + if fresh kn i then 1 else 0 := rfl
theorem ln_fresh {kn : Nat → Int} {v : Nat} (h : fresh kn v = true) : ln kn v = (nx kn v : Int) := by
  show (if num kn v (kn v) = -1 then (if kn v = kn v then (nx kn v : Int) else -1) else _) = _
  rw [if_pos (fresh_iff.1 h), if_pos rfl]
end
section
open Go Go.RowKit Go.Shelf
attribute [local go_sem ↓] Go.wp_at_zero Go.wp_at_succ
/-- What Knots answers. -/
structure KnotsTo (w w' : World) (n : Nat) (m : Nat → Nat → Bool) (r : Value) : Prop where
  ex : ∃ (lb : Nat) (kn : Nat → Int), r = .tuple #[.slice (some ⟨lb, 0, none⟩) n n, .int .i64 (nx kn n : Int)] ∧ w.heap.size ≤ lb ∧ Vec w' lb 3 n (fun i => .int .i64 (ln kn i)) ∧ ∀ u v, u < n → v < n → (kn u = kn v ↔ Rch (fun a b => m a b = true) u v ∧ Rch (fun a b => m a b = true) v u)
  be : Below w.heap.size w w'
theorem es_one {g : G0} {u v : Nat} : Es [g] u v ↔ g.m u v = true := by simp [Es]
theorem grs_one {w : World} {n : Nat} {g : G0} {t : TypeId} (h : GrAt w g.B g.gb g.tb n g.K g.mp g.m g.cnt) (hK : g.K ≤ 1000000) : GrsAt (w.alloc (.cells #[.pointer (some ⟨g.gb, 0, none⟩)] t)) (w.alloc (.cells #[.pointer (some ⟨g.gb, 0, none⟩)] t)).heap.size n w.heap.size [g] := by
  refine ⟨by rw [World.size_alloc]; omega, fun j g' hj => ?_⟩
  obtain ⟨rfl, rfl⟩ : j = 0 ∧ g = g' := by
    cases j with
    | zero => exact ⟨rfl, by simpa using hj⟩
    | succ j => simp at hj
  have h2 := h.up (below1 w (.cells #[.pointer (some ⟨g.gb, 0, none⟩)] t))
  exact ⟨cell_one_new _ _ _ 0 _ rfl, h2, h2.lt, hK⟩
/-- Knots, as it goes through the things. -/
structure KnI (W : World) (A nb l0 n q : Nat) (kn : Nat → Int) (i : Nat) : Prop where
  nu : Vec W nb 3 q (fun k => .int .i64 (num kn i (k : Int)))
  li : Vec W l0 3 n (fun v => .int .i64 (if v < i then ln kn v else 0))
theorem KnI.old {W : World} {A nb l0 n q : Nat} {kn : Nat → Int} {i k : Nat} (h : KnI W A nb l0 n q kn i) (hk : kn i = (k : Int)) (hn : num kn i (k : Int) ≠ -1) (hne : nb ≠ l0) : KnI (W.setCell ⟨l0, i, none⟩ (.int .i64 (num kn i (k : Int)))) A nb l0 n q kn (i + 1) := by
  refine ⟨(show Vec _ nb 3 q _ from heap_set_other _ h.nu hne).trans ?_, (h.li.set i _).trans ?_⟩
  · rw [vl_congr (fun j hj => ?_)]
    rw [num_succ]
    by_cases h1 : num kn i (j : Int) = -1
    · rw [if_pos h1, if_neg (fun e => hn (by rw [← hk, e]; exact h1)), h1]
    · rw [if_neg h1]
  · rw [vl_congr (fun v hv => ?_)]
    by_cases hvi : v = i
    · subst hvi
      rw [upd_same, if_pos (Nat.lt_succ_self _)]
      show _ = Value.int .i64 (num kn (v + 1) (kn v))
      rw [hk, num_succ, if_neg hn]
    · rw [upd_other _ _ hvi]
      by_cases hl : v < i
      · rw [if_pos hl, if_pos (Nat.lt_succ_of_lt hl)]
      · rw [if_neg hl, if_neg (by omega)]
theorem KnI.new {W : World} {A nb l0 n q : Nat} {kn : Nat → Int} {i k : Nat} (h : KnI W A nb l0 n q kn i) (hk : kn i = (k : Int)) (hn : num kn i (k : Int) = -1) (hne : nb ≠ l0) : KnI ((W.setCell ⟨nb, k, none⟩ (.int .i64 (nx kn i : Int))).setCell ⟨l0, i, none⟩ (.int .i64 (nx kn i : Int))) A nb l0 n q kn (i + 1) := by
  refine ⟨(show Vec _ nb 3 q _ from heap_set_other _ (h.nu.set k _) hne).trans ?_, ((show Vec _ l0 3 n _ from heap_set_other _ h.li (Ne.symm hne)).set i _).trans ?_⟩
  · rw [vl_congr (fun j hj => ?_)]
    rw [num_succ]
    by_cases hjk : j = k
    · subst hjk
      rw [upd_same, if_pos hn, if_pos hk]
    · rw [upd_other _ _ hjk]
      by_cases h1 : num kn i (j : Int) = -1
      · rw [if_pos h1, if_neg (fun e => hjk (by rw [hk] at e; omega)), h1]
      · rw [if_neg h1]
  · rw [vl_congr (fun v hv => ?_)]
    by_cases hvi : v = i
    · subst hvi
      rw [upd_same, if_pos (Nat.lt_succ_self _)]
      show _ = Value.int .i64 (num kn (v + 1) (kn v))
      rw [hk, num_succ, if_pos hn, if_pos hk]
    · rw [upd_other _ _ hvi]
      by_cases hl : v < i
      · rw [if_pos hl, if_pos (Nat.lt_succ_of_lt hl)]
      · rw [if_neg hl, if_neg (by omega)]
set_option maxRecDepth 100000 in
set_option maxHeartbeats 8000000 in
theorem gknots_any {w : World} {B gb tb n K : Nat} {mp : Nat → Option Nat} {m : Nat → Nat → Bool} {cnt : Nat} (h : GrAt w B gb tb n K mp m cnt) (hn : n ≤ 1000) (hK : K ≤ 1000000) :
    Calls Try.prog 9 #[.pointer (some ⟨gb, 0, none⟩)] w fun e w' => ∃ r, e = .returned r ∧ KnotsTo w w' n m r := by
  have H := qhid h
  have HL0 := qhid (glen_any h)
  have HSK := qhid (gseek_any w.heap.size 1 [G0.mk B gb tb K mp m cnt] (grs_one (t := 24) (g := G0.mk B gb tb K mp m cnt) h hK) hn (by simp) (fun u v e => (h.bd u v (es_one.1 e)).2))
  clear h
  go_enter Try.func9, Try.ntmps9
  go_wp2_with fail
  refine HL0.out.mono ?_
  rintro e w1 ⟨rfl, hw⟩
  obtain rfl : w = w1 := hw.symm
  go_wp2_with fail
  refine HSK.out.mono ?_
  rintro e w1 ⟨r, rfl, ⟨⟨sb, mb, lb, kb, s, pv, ov, dv, rfl, hs, ht⟩, hb⟩⟩
  have hb0 : Below w.heap.size w w1 := (below1 w _).trans (hb.mono (by rw [World.size_alloc]; omega))
  have HT := qhid ht
  have HS := qhid hs
  have HB0 := qhid hb0
  clear hb hb0 hs ht HSK
  obtain ⟨_, _, _, _, _, _, c6, _⟩ := HS.out.cells
  have hsl := Reg.size_of_get HS.out.sk
  have hq : s.knots ≤ 1000 := Nat.le_trans HT.out.ks hn
  obtain ⟨q, hqe⟩ : ∃ q, q = s.knots := ⟨_, rfl⟩
  rw [← hqe] at c6 hq
  have HQ := qhid hqe
  clear hqe
  have HRP := qhid (grepeat_any w1.heap.size 1 q (-1) (w1.alloc (.cells #[.int .i64 (-1)] 3)) hq (cell_one_new _ _ _ 0 _ rfl) (by rw [World.size_alloc]; omega))
  go_wp2_with fail
  refine HRP.out.mono ?_
  rintro e w2 ⟨rfl, hb2, hv2⟩
  obtain ⟨nb, hnb⟩ : ∃ b, b = (w1.alloc (.cells #[.int .i64 (-1)] 3)).heap.size := ⟨_, rfl⟩
  have hb2' : Below w1.heap.size w1 w2 := (below1 w1 _).trans (hb2.mono (by rw [World.size_alloc]; omega))
  rw [← hnb] at hv2 ⊢
  have HV2 := qhid hv2
  have HS2 := qhid (HS.out.up hb2')
  have hwle : w.heap.size ≤ w1.heap.size := HB0.out.size
  have HB2 := qhid (HB0.out.trans (hb2'.mono hwle))
  have hkn : kb < nb := by
    have := HS.out.kn.lt
    rw [hnb, World.size_alloc]
    omega
  have hwn : w.heap.size ≤ nb := by rw [hnb, World.size_alloc]; omega
  clear hv2 hb2 hb2' hnb HRP HS HB0 c6 hsl hwle
  have HL2 := qhid (glen_any (H.out.up HB2.out))
  have hmk := mk_vec n (by omega) w2
  have c7 := HS2.out.cells.2.2.2.2.2.2.2.1
  have hsl := Reg.size_of_get HS2.out.sk
  go_wp2_with fail
  refine HL2.out.mono ?_
  rintro e w3 ⟨rfl, hw⟩
  obtain rfl : w2 = w3 := hw.symm
  clear hw
  have hnl : nb < w2.heap.size := HV2.out.lt
  go_wp2_with fail
  obtain ⟨l0, hl0⟩ : ∃ b, b = w2.heap.size := ⟨_, rfl⟩
  obtain ⟨w3, hw3⟩ : ∃ X, X = w2.alloc (.cells (vl n fun _ => .int .i64 0) 3) := ⟨_, rfl⟩
  have HI0 : Hid (KnI w3 w.heap.size nb l0 n q s.kn 0) := qhid (by
    rw [hw3, hl0]
    exact ⟨heap_up HV2.out (below1 w2 _), heap_new w2 _⟩)
  have HV3 : Hid (Vec w3 kb 3 n (fun i => .int .i64 (s.kn i))) := qhid (by rw [hw3]; exact heap_up HS2.out.kn (below1 w2 _))
  have HB3 : Hid (Below w.heap.size w w3) := qhid (by rw [hw3]; exact HB2.out.trans ((below1 w2 _).mono (by omega)))
  have hln : nb < l0 := by omega
  have hwl : w.heap.size ≤ l0 := by omega
  rw [← hl0] at *
  rw [← hw3] at *
  clear hw3 hl0 hmk c7 hsl HS2 HV2 HB2 hnl HL2 HL0 H
  go_loopw [31, 6] (fun iv cv wr => ∃ i : Nat, i ≤ n ∧ iv = .int .i64 (i : Int) ∧ cv = .int .i64 (nx s.kn i : Int) ∧ Hid (KnI wr w.heap.size nb l0 n q s.kn i) ∧ Hid (Vec wr kb 3 n (fun i => .int .i64 (s.kn i))) ∧ Hid (Below w.heap.size w wr)) (fun iv _ _ => n - (intOf iv).toNat)
  case atStart => exact ⟨0, Nat.zero_le _, rfl, rfl, HI0, HV3, HB3⟩
  case round =>
    obtain ⟨i, hi, rfl, rfl, HI, HV, HB⟩ := hrel
    by_cases hlt : i < n
    · have hkn2 := HT.out.kn i hlt
      obtain ⟨k, hk⟩ : ∃ k : Nat, s.kn i = (k : Int) := ⟨(s.kn i).toNat, by omega⟩
      have hkq : k < q := by have := HQ.out; omega
      have ck : wr.cell? ⟨kb, i, none⟩ = some (.int .i64 (k : Int)) := by rw [HV.out.cell hlt, hk]
      have cn := HI.out.nu.cell hkq
      have fn := HI.out.nu.unfrozen k
      have cl := HI.out.li.cell hlt
      have fl := HI.out.li.unfrozen i
      have hxl := nx_le s.kn i
      have hne : nb ≠ l0 := by omega
      have HK := qhid hk
      by_cases hnum : num s.kn i (k : Int) = -1
      · have HKN := qhid (HI.out.new hk hnum hne)
        have HV2 : Hid (Vec ((wr.setCell ⟨nb, k, none⟩ (.int .i64 (nx s.kn i : Int))).setCell ⟨l0, i, none⟩ (.int .i64 (nx s.kn i : Int))) kb 3 n (fun i => .int .i64 (s.kn i))) := qhid (heap_set_other _ (heap_set_other _ HV.out (by omega)) (by omega))
        have HB2 := qhid ((HB.out.setCell (p := ⟨nb, k, none⟩) hwn (.int .i64 (nx s.kn i : Int))).setCell (p := ⟨l0, i, none⟩) hwl (.int .i64 (nx s.kn i : Int)))
        have HNX : Hid (nx s.kn (i + 1) = nx s.kn i + 1) := qhid (by rw [nx_succ, if_pos (fresh_iff.2 (by rw [hk]; exact hnum))])
        have cn' : wr.cell? ⟨nb, k, none⟩ = some (.int .i64 (-1)) := by rw [cn, hnum]
        clear cn hkn2 hk hnum
        have hwr : wrap64 ((nx s.kn i : Int) + 1) = ((nx s.kn i + 1 : Nat) : Int) := by simp [wrap64]; omega
        go_wp2_with fail
        go_roundw
        case rel => exact ⟨i + 1, hlt, rfl, by rw [HNX.out]; first | (rw [hwr]; done) | rfl, HKN, HV2, HB2⟩
        case measure => simp [intOf]; omega
      · have HKN := qhid (HI.out.old hk hnum hne)
        have HV2 : Hid (Vec (wr.setCell ⟨l0, i, none⟩ (.int .i64 (num s.kn i (k : Int)))) kb 3 n (fun i => .int .i64 (s.kn i))) := qhid (heap_set_other _ HV.out (by omega))
        have HB2 := qhid (HB.out.setCell (p := ⟨l0, i, none⟩) hwl (.int .i64 (num s.kn i (k : Int))))
        have HNX : Hid (nx s.kn (i + 1) = nx s.kn i) := qhid (by rw [nx_succ, if_neg (fun e => hnum (by rw [← hk]; exact fresh_iff.1 e))]; rfl)
        obtain ⟨y, hy⟩ : ∃ y, y = num s.kn i (k : Int) := ⟨_, rfl⟩
        have hyf : (y == -1) = false := by rw [hy]; simpa using hnum
        rw [← hy] at cn HKN HV2 HB2
        clear hkn2 hk hnum hy
        go_wp2_with fail
        go_roundw
        case rel => exact ⟨i + 1, hlt, rfl, by rw [HNX.out], HKN, HV2, HB2⟩
        case measure => simp [intOf]; omega
    · obtain rfl : i = n := by omega
      go_wp2_with fail
      go_ret2
      have hE : Es [G0.mk B gb tb K mp m cnt] = fun a b => m a b = true := by
        funext a b
        exact propext es_one
      have hsm := HT.out
      rw [hE] at hsm
      exact ⟨_, rfl, ⟨⟨l0, s.kn, rfl, hwl, HI.out.li.trans (by rw [vl_congr (g := fun v => .int .i64 (ln s.kn v)) (fun v hv => by rw [if_pos hv])]), fun u v hu hv => hsm.same hu hv⟩, HB.out⟩⟩
end
end Go.Proofs.Ytghfodjefjijdaa
