/- graph: the law's build told: a graph of the arrows of a list, and its table. -/
import Derived.Test.YtghfodjefjijdaaGrV
namespace Go.Proofs.Ytghfodjefjijdaa
section
open Go Go.RowKit Go.Shelf
attribute [local go_sem ↓] Go.wp_at_zero Go.wp_at_succ
/-- A list of pairs that came in. -/
def PairsAt (w : World) (p : Option Addr) (k : Nat) (xs ys : Nat → Int) : Prop :=
  k ≤ 9223372036854775807 ∧ (k = 0 ∨ ∃ g o, p = some ⟨g, o, none⟩ ∧ g < w.heap.size ∧ ∀ j, j < k → w.cell? ⟨g, o + j * 2, none⟩ = some (.int .i64 (xs j)) ∧ w.cell? ⟨g, o + j * 2 + 1, none⟩ = some (.int .i64 (ys j)))
theorem PairsAt.at_ {w w' : World} {p : Option Addr} {k : Nat} {xs ys : Nat → Int} (h : PairsAt w p k xs ys) (hb : Below w.heap.size w w') {j : Nat} (hj : j < k) : ∃ g o, p = some ⟨g, o, none⟩ ∧ w'.cell? ⟨g, o + j * 2, none⟩ = some (.int .i64 (xs j)) ∧ w'.cell? ⟨g, o + j * 2 + 1, none⟩ = some (.int .i64 (ys j)) := by
  rcases h.2 with h0 | ⟨g, o, hp, hl, hc⟩
  · omega
  · exact ⟨g, o, hp, (hb.cell (p := ⟨g, o + j * 2, none⟩) hl).trans (hc j hj).1, (hb.cell (p := ⟨g, o + j * 2 + 1, none⟩) hl).trans (hc j hj).2⟩
/-- The arrows of a list's first pairs. -/
def mOf (n : Nat) (xs ys : Nat → Int) : Nat → Nat → Nat → Bool
  | 0 => noArrows
  | i + 1 => if inB n (xs i) && inB n (ys i) then upd2 (mOf n xs ys i) (xs i).toNat (ys i).toNat else mOf n xs ys i
/-- .. and how many they are. -/
def cOf (n : Nat) (xs ys : Nat → Int) : Nat → Nat
  | 0 => 0
  | i + 1 => if inB n (xs i) && inB n (ys i) then (if mOf n xs ys i (xs i).toNat (ys i).toNat then cOf n xs ys i else cOf n xs ys i + 1) else cOf n xs ys i
theorem cOf_le (n : Nat) (xs ys : Nat → Int) (i : Nat) : cOf n xs ys i ≤ i := by
  induction i with
  | zero => exact Nat.le_refl _
  | succ i ih =>
    unfold cOf
    split
    · split <;> omega
    · omega
/-- A table of so many rows. -/
structure TbAt (w : World) (B ob : Nat) (rb : Nat → Nat) (n i : Nat) (m : Nat → Nat → Bool) : Prop where
  o : Vec w ob 34 n (fun j => if j < i then .slice (some ⟨rb j, 0, none⟩) n n else .slice none 0 0)
  r : ∀ j, j < i → Vec w (rb j) 4 n (fun x => .bool (m j x))
  inj : ∀ j k, j < i → k < i → rb j = rb k → j = k
  lb : B ≤ ob ∧ ∀ j, j < i → B ≤ rb j
theorem TbAt.keepG {w w' : World} {B ob n i : Nat} {rb : Nat → Nat} {m : Nat → Nat → Bool} (h : TbAt w B ob rb n i m) (hk : KeepG w w') : TbAt w' B ob rb n i m :=
  ⟨hk.row _ _ _ _ h.o (by decide) (by decide), fun j hj => hk.row _ _ _ _ (h.r j hj) (by decide) (by decide), h.inj, h.lb⟩
theorem TbAt.up {w w' : World} {B ob n i : Nat} {rb : Nat → Nat} {m : Nat → Nat → Bool} (h : TbAt w B ob rb n i m) (hb : Below w.heap.size w w') : TbAt w' B ob rb n i m :=
  ⟨heap_up h.o hb, fun j hj => heap_up (h.r j hj) hb, h.inj, h.lb⟩
theorem TbAt.row {w : World} {B ob n i : Nat} {rb : Nat → Nat} {m : Nat → Nat → Bool} (h : TbAt w B ob rb n i m) (hi : i < n) (hB : B ≤ w.heap.size) (hm : ∀ x, m i x = false) :
    TbAt ((w.alloc (.cells (vl n fun _ => .bool false) 4)).setCell ⟨ob, i, none⟩ (.slice (some ⟨w.heap.size, 0, none⟩) n n)) B ob (upd rb i w.heap.size) n (i + 1) m := by
  have hb := below1 w (.cells (vl n fun _ => .bool false) 4)
  have ho : Vec _ ob 34 n _ := heap_up h.o hb
  have hol : ob < w.heap.size := h.o.lt
  have hrl : ∀ j, j < i → rb j < w.heap.size := fun j hj => (h.r j hj).lt
  have hro : ∀ j, j < i → rb j ≠ ob := fun j hj => ne_of_types (h.r j hj) h.o (by decide)
  refine ⟨(ho.set i _).trans ?_, fun j hj => ?_, fun j k hj hk e => ?_, h.lb.1, fun j hj => ?_⟩
  · rw [vl_congr (fun j hj => ?_)]
    by_cases hji : j = i
    · subst hji
      rw [upd_same, if_pos (Nat.lt_succ_self _), upd_same]
    · rw [upd_other _ _ hji, upd_other _ _ hji]
      by_cases hl : j < i
      · rw [if_pos hl, if_pos (Nat.lt_succ_of_lt hl)]
      · rw [if_neg hl, if_neg (by omega)]
  · by_cases hji : j = i
    · subst hji
      rw [upd_same]
      refine (heap_set_other _ (heap_new w _) (by omega)).trans ?_
      rw [vl_congr (g := fun x => .bool (m j x)) (fun x _ => by rw [hm x])]
    · rw [upd_other _ _ hji]
      exact heap_set_other _ (heap_up (h.r j (by omega)) hb) (hro j (by omega))
  · by_cases hji : j = i
    · by_cases hki : k = i
      · omega
      · rw [hji, upd_same, upd_other _ _ hki] at e
        have := hrl k (by omega)
        omega
    · by_cases hki : k = i
      · rw [hki, upd_same, upd_other _ _ hji] at e
        have := hrl j (by omega)
        omega
      · rw [upd_other _ _ hji, upd_other _ _ hki] at e
        exact h.inj j k (by omega) (by omega) e
  · by_cases hji : j = i
    · rw [hji, upd_same]; exact hB
    · rw [upd_other _ _ hji]; exact h.lb.2 j (by omega)
theorem TbAt.put {w : World} {B ob n : Nat} {rb : Nat → Nat} {m : Nat → Nat → Bool} (h : TbAt w B ob rb n n m) {a b : Nat} (ha : a < n) :
    TbAt (w.setCell ⟨rb a, b, none⟩ (.bool true)) B ob rb n n (upd2 m a b) := by
  have hro : ∀ j, j < n → rb j ≠ ob := fun j hj => ne_of_types (h.r j hj) h.o (by decide)
  refine ⟨heap_set_other _ h.o (fun e => hro a ha e.symm), fun j hj => ?_, h.inj, h.lb⟩
  by_cases hja : j = a
  · subst hja
    refine ((h.r j hj).set b _).trans ?_
    rw [vl_congr (fun x hx => ?_)]
    unfold upd2
    rw [upd_same]
    by_cases hxb : x = b
    · rw [hxb, upd_same, upd_same]
    · rw [upd_other _ _ hxb, upd_other _ _ hxb]
  · refine (heap_set_other _ (h.r j hj) (fun e => hja (h.inj j a hj ha e))).trans ?_
    rw [vl_congr (fun x hx => ?_)]
    unfold upd2
    rw [upd_other _ _ hja]
theorem GrAt.tab {w : World} {B gb tb n K ob : Nat} {rb : Nat → Nat} {mp : Nat → Option Nat} {m m2 : Nat → Nat → Bool} {cnt a b : Nat} (h : GrAt w B gb tb n K mp m cnt) (ht : TbAt w B ob rb n n m2) (ha : a < n) (v : Value) : GrAt (w.setCell ⟨rb a, b, none⟩ v) B gb tb n K mp m cnt :=
  h.kept (set_grown _ _ _ _) (fun r e => by
    cases e
    refine ⟨ne_of_types (ht.r a ha) h.g (by decide), ne_of_types (ht.r a ha) h.t (by decide), fun i c hi hc e => ?_⟩
    obtain ⟨es, cc, hm⟩ := (h.th i c hi hc).map
    have h1 := ht.r a ha
    unfold Vec at h1
    rw [e, hm] at h1
    cases h1)
/-- What build answers. -/
structure BuildTo (w w' : World) (n : Nat) (m : Nat → Nat → Bool) (c : Nat) (gb ob : Nat) (rb : Nat → Nat) : Prop where
  gr : ∃ tb K mp, K ≤ 1000 ∧ GrAt w' w.heap.size gb tb n K mp m c
  tab : TbAt w' w.heap.size ob rb n n m
  be : Below w.heap.size w w'
theorem Try.infoRow : (Try.prog.info? 34).map (fun i => (i.zero, i.size, i.bytes)) = some (some (.slice none 0 0), 1, 24) := by kernel_rfl
theorem mk_tab (n : Nat) (hn : n ≤ 1048576) (w : World) : (Instr.makeSlice 25 (.int .i64 (n : Int)) (.int .i64 (n : Int))).run Try.prog w = .ok (.slice (some ⟨w.heap.size, 0, none⟩) n n) (w.alloc (.cells (vl n fun _ => .slice none 0 0) 34)) := by
  obtain ⟨i0, hi, hz0, hz1, hz2⟩ := info_parts Try.infoRow
  have h := run_make (P := Try.prog) w 25 34 i0 _ Try.underlying25 hi hz0 .i64 .i64 (n : Int) (n : Int) (by omega) (by omega) (by rw [hz2]; omega) (by omega)
  rw [h, hz1]
  simp only [Int.toNat_natCast, Nat.mul_one]
  rw [← made_vl]
  rfl
theorem GrAt.mono {w : World} {B gb tb n K K' : Nat} {mp : Nat → Option Nat} {m : Nat → Nat → Bool} {cnt : Nat} (h : GrAt w B gb tb n K mp m cnt) (hK : K ≤ K') : GrAt w B gb tb n K' mp m cnt :=
  { h with th := fun i b hi e => (h.th i b hi e).mono hK }
theorem garrow_kp {w : World} {B gb tb n K : Nat} {mp : Nat → Option Nat} {m : Nat → Nat → Bool} {cnt : Nat} (h : GrAt w B gb tb n K mp m cnt) (hB : B ≤ w.heap.size) (hK : K ≤ 1000000) (hc : cnt ≤ 1000000) (hn : n ≤ 1048576) (x y : Int) :
    Calls Try.prog 18 #[.pointer (some ⟨gb, 0, none⟩), .int .i64 x, .int .i64 y] w fun e w' => e = .returned (.int .i64 (if (inB n x && inB n y) = true then 0 else 2)) ∧ (∃ mp', GrAt w' B gb tb n (K + 1) mp' (if (inB n x && inB n y) = true then upd2 m x.toNat y.toNat else m) (if (inB n x && inB n y) = true then (if m x.toNat y.toNat then cnt else cnt + 1) else cnt)) ∧ Below B w w' ∧ KeepG w w' := by
  by_cases hb : (inB n x && inB n y) = true
  · rw [if_pos hb, if_pos hb, if_pos hb]
    have hb' := hb
    unfold inB at hb'
    simp at hb'
    obtain ⟨⟨h1, h2⟩, h3, h4⟩ := hb'
    obtain ⟨a, rfl⟩ := Int.eq_ofNat_of_zero_le h1
    obtain ⟨b, rfl⟩ := Int.eq_ofNat_of_zero_le h3
    exact (garrow_any h hB hK hc hn a b (by omega) (by omega)).mono fun e w' ⟨he, hp⟩ => ⟨he, hp.gr, hp.be, hp.kp⟩
  · rw [if_neg hb, if_neg hb, if_neg hb]
    refine (garrow_bad h x y (by simpa using hb)).mono ?_
    rintro e w' ⟨he, rfl⟩
    exact ⟨he, ⟨mp, h.mono (Nat.le_succ K)⟩, Below.refl _ _, KeepG.refl _⟩
theorem mOf_succ (n : Nat) (xs ys : Nat → Int) (i : Nat) : mOf n xs ys (i + 1) = if inB n (xs i) && inB n (ys i) then upd2 (mOf n xs ys i) (xs i).toNat (ys i).toNat else mOf n xs ys i := rfl
theorem cOf_succ (n : Nat) (xs ys : Nat → Int) (i : Nat) : cOf n xs ys (i + 1) = if inB n (xs i) && inB n (ys i) then (if mOf n xs ys i (xs i).toNat (ys i).toNat then cOf n xs ys i else cOf n xs ys i + 1) else cOf n xs ys i := rfl
/-- build, as it goes through the list. -/
structure BuI (w W : World) (n gb ob : Nat) (rb : Nat → Nat) (xs ys : Nat → Int) (i : Nat) : Prop where
  gr : ∃ tb K mp, K ≤ i ∧ GrAt W w.heap.size gb tb n K mp (mOf n xs ys i) (cOf n xs ys i)
  tab : TbAt W w.heap.size ob rb n n (mOf n xs ys i)
  be : Below w.heap.size w W
set_option maxRecDepth 100000 in
set_option maxHeartbeats 8000000 in
theorem gbuild_any {w : World} (n k c : Nat) (p : Option Addr) (xs ys : Nat → Int) (hp : PairsAt w p k xs ys) (hn : n ≤ 100) (hk : k ≤ 1000) :
    Calls Try.prog 6 #[.int .i64 (n : Int), .slice p k c] w fun e w' => ∃ gb ob rb, e = .returned (.tuple #[.pointer (some ⟨gb, 0, none⟩), .slice (some ⟨ob, 0, none⟩) n n, .bool true]) ∧ BuildTo w w' n (mOf n xs ys k) (cOf n xs ys k) gb ob rb := by
  have HP := qhid hp
  have HN := qhid (gnew_any n (by omega) w)
  clear hp
  go_enter Try.func6, Try.ntmps6
  go_wp2_with fail
  refine HN.out.mono ?_
  rintro e w1 ⟨rfl, hg1, hb1, hz1⟩
  have hmk := mk_tab n (by omega) w1
  clear hz1
  go_wp2_with fail
  clear hmk
  obtain ⟨ob, hob⟩ : ∃ b, b = w1.heap.size := ⟨_, rfl⟩
  obtain ⟨w2, hw2⟩ : ∃ X, X = w1.alloc (.cells (vl n fun _ => .slice none 0 0) 34) := ⟨_, rfl⟩
  obtain ⟨gb, hgb⟩ : ∃ b, b = w.heap.size + 1 := ⟨_, rfl⟩
  obtain ⟨tb, htb⟩ : ∃ b, b = w.heap.size := ⟨_, rfl⟩
  have hb2 : Below w1.heap.size w1 w2 := by rw [hw2]; exact below1 w1 _
  have HG2 : Hid (GrAt w2 w.heap.size gb tb n 0 (fun _ => none) noArrows 0) := qhid (by rw [hgb, htb]; exact hg1.up hb2)
  have HB2 : Hid (Below w.heap.size w w2) := qhid (hb1.trans (hb2.mono hb1.size))
  have HT2 : Hid (TbAt w2 w.heap.size ob (fun _ => 0) n 0 noArrows) := qhid ⟨by rw [hw2, hob]; exact heap_new w1 _, fun j hj => absurd hj (Nat.not_lt_zero _), fun j k hj => absurd hj (Nat.not_lt_zero _), by rw [hob]; exact hb1.size, fun j hj => absurd hj (Nat.not_lt_zero _)⟩
  have hol : ob < w2.heap.size := HT2.out.o.lt
  rw [← hgb, ← hob, ← hw2]
  clear hg1 hb1 hb2 hw2 hob hgb htb HN
  go_loopw [10] (fun iv wr => ∃ (i : Nat) (rb : Nat → Nat), i ≤ n ∧ iv = .int .i64 (i : Int) ∧ Hid (TbAt wr w.heap.size ob rb n i noArrows) ∧ Hid (GrAt wr w.heap.size gb tb n 0 (fun _ => none) noArrows 0) ∧ Hid (Below w.heap.size w wr)) (fun iv _ => n - (intOf iv).toNat)
  case atStart => exact ⟨0, _, Nat.zero_le _, rfl, HT2, HG2, HB2⟩
  case round =>
    obtain ⟨i, rb, hi, rfl, HT, HG, HB⟩ := hrel
    by_cases hlt : i < n
    · have hmk := mk_bools n (by omega) wr
      have hor : ob < wr.heap.size := HT.out.o.lt
      have co : (wr.alloc (.cells (vl n fun _ => .bool false) 4)).cell? ⟨ob, i, none⟩ = some (.slice none 0 0) := by
        have h1 : Vec _ ob 34 n _ := heap_up HT.out.o (below1 wr (.cells (vl n fun _ => .bool false) 4))
        rw [h1.cell hlt, if_neg (by omega)]
      have fo : (wr.alloc (.cells (vl n fun _ => .bool false) 4)).frozen? ⟨ob, i, none⟩ = false := by
        have h1 : Vec _ ob 34 n _ := heap_up HT.out.o (below1 wr (.cells (vl n fun _ => .bool false) 4))
        exact h1.unfrozen i
      have HT3 := qhid (HT.out.row hlt HB.out.size (fun x => rfl))
      have HG3 : Hid (GrAt ((wr.alloc (.cells (vl n fun _ => .bool false) 4)).setCell ⟨ob, i, none⟩ (.slice (some ⟨wr.heap.size, 0, none⟩) n n)) w.heap.size gb tb n 0 (fun _ => none) noArrows 0) := qhid ((HG.out.up (below1 wr _)).kept (set_grown _ _ _ _) (fun r e => by
        cases e
        have h1 : Vec _ ob 34 n _ := heap_up HT.out.o (below1 wr (.cells (vl n fun _ => .bool false) 4))
        exact ⟨ne_of_types h1 (HG.out.up (below1 wr _)).g (by decide), ne_of_types h1 (HG.out.up (below1 wr _)).t (by decide), fun i b _ e => by cases e⟩))
      have HB3 := qhid ((HB.out.alloc HB.out.size (.cells (vl n fun _ => .bool false) 4)).setCell (p := ⟨ob, i, none⟩) HT.out.lb.1 (.slice (some ⟨wr.heap.size, 0, none⟩) n n))
      rw [World.setCell_alloc_past _ _ _ _ hor] at HT3 HG3 HB3
      go_wp2_with fail
      go_roundw
      case rel => exact ⟨i + 1, _, hlt, rfl, HT3, HG3, HB3⟩
      case measure => simp [intOf]; omega
    · obtain rfl : i = n := by omega
      clear HT2 HG2 HB2
      go_wp2_with fail
      have HI0 : Hid (BuI w wr i gb ob rb xs ys 0) := qhid ⟨⟨tb, 0, _, Nat.le_refl _, HG.out⟩, HT.out, HB.out⟩
      clear HT HG HB
      go_loopw [11] (fun jv wr => ∃ j : Nat, j ≤ k ∧ jv = .int .i64 (j : Int) ∧ Hid (BuI w wr i gb ob rb xs ys j)) (fun jv _ => k - (intOf jv).toNat)
      case atStart => exact ⟨0, Nat.zero_le _, rfl, HI0⟩
      case round =>
        obtain ⟨j, hj, rfl, HI⟩ := hrel
        by_cases hjl : j < k
        · obtain ⟨tb2, K2, mp2, hK2, hgr⟩ := HI.out.gr
          have htab := HI.out.tab
          have hbe := HI.out.be
          obtain ⟨lg, lo, hpe, cx, cy⟩ := HP.out.at_ hbe hjl
          subst hpe
          obtain ⟨x, hx⟩ : ∃ x, x = xs j := ⟨_, rfl⟩
          obtain ⟨y, hy⟩ : ∃ y, y = ys j := ⟨_, rfl⟩
          have HA := qhid (garrow_kp (w := wr.drew) (hgr.up (Below.drew (Below.refl _ _))) (hbe.drew.size) (by omega) (by have := cOf_le i xs ys j; omega) (by omega) x y)
          have HMS := qhid (mOf_succ i xs ys j)
          have HCS := qhid (cOf_succ i xs ys j)
          rw [← hx] at cx HMS HCS
          rw [← hy] at cy HMS HCS
          have HT := qhid (htab.up (Below.drew (Below.refl wr.heap.size wr)))
          have HB := qhid hbe.drew
          clear HI hgr htab hbe hx hy HI0 HP
          go_upto_region 12 with fail
          go_region
          clear cx cy
          by_cases hin : (inB i x && inB i y) = true
          · have hin' := hin
            unfold inB at hin'
            simp at hin'
            obtain ⟨⟨h1, h2⟩, h3, h4⟩ := hin'
            obtain ⟨a, rfl⟩ := Int.eq_ofNat_of_zero_le h1
            obtain ⟨b, rfl⟩ := Int.eq_ofNat_of_zero_le h3
            rw [if_pos hin, if_pos hin, if_pos hin] at HA
            rw [if_pos hin] at HMS HCS
            have ha : a < i := by omega
            have hb : b < i := by omega
            clear hin h1 h2 h3 h4
            go_wp2_with fail
            refine HA.out.mono ?_
            rintro e w3 ⟨rfl, ⟨mp3, hg3⟩, hb3, hk3⟩
            have HT3 := qhid (HT.out.keepG hk3)
            have HG3 := qhid hg3
            have HB3 := qhid (HB.out.trans hb3)
            clear hg3 hb3 hk3 HA
            have co : w3.cell? ⟨ob, a, none⟩ = some (.slice (some ⟨rb a, 0, none⟩) i i) := by rw [HT3.out.o.cell ha, if_pos ha]
            have cr := (HT3.out.r a ha).cell hb
            have fr := (HT3.out.r a ha).unfrozen b
            have HI4 : Hid (BuI w (w3.setCell ⟨rb a, b, none⟩ (.bool true)) i gb ob rb xs ys (j + 1)) := qhid ⟨⟨tb2, K2 + 1, mp3, by omega, by
              rw [HMS.out, HCS.out]
              exact HG3.out.tab HT3.out ha _⟩, by rw [HMS.out]; exact HT3.out.put ha, HB3.out.setCell (p := ⟨rb a, b, none⟩) (HT3.out.lb.2 a ha) _⟩
            go_wp2_with fail
            go_roundw
            case rel => exact ⟨j + 1, hjl, rfl, HI4⟩
            case measure => simp [intOf]; omega
          · rw [if_neg hin, if_neg hin, if_neg hin] at HA
            rw [if_neg hin] at HMS HCS
            have hcase : x < 0 ∨ (0 ≤ x ∧ (i : Int) ≤ x) ∨ (0 ≤ x ∧ x < (i : Int) ∧ y < 0) ∨ (0 ≤ x ∧ x < (i : Int) ∧ 0 ≤ y ∧ (i : Int) ≤ y) := by
              unfold inB at hin
              simp at hin
              by_cases h1 : x < 0
              · exact .inl h1
              · by_cases h2 : (i : Int) ≤ x
                · exact .inr (.inl ⟨by omega, h2⟩)
                · by_cases h3 : y < 0
                  · exact .inr (.inr (.inl ⟨by omega, by omega, h3⟩))
                  · exact .inr (.inr (.inr ⟨by omega, by omega, by omega, hin (by omega) (by omega) (by omega)⟩))
            clear hin
            rcases hcase with h1 | ⟨h1, h2⟩ | ⟨h1, h2, h3⟩ | ⟨h1, h2, h3, h4⟩
            all_goals
              go_wp2_with fail
              refine HA.out.mono ?_
              rintro e w3 ⟨rfl, ⟨mp3, hg3⟩, hb3, hk3⟩
              have HI4 : Hid (BuI w w3 i gb ob rb xs ys (j + 1)) := qhid ⟨⟨tb2, K2 + 1, mp3, by omega, by
                rw [HMS.out, HCS.out]
                exact hg3⟩, by rw [HMS.out]; exact HT.out.keepG hk3, HB.out.trans hb3⟩
              clear hg3 hb3 hk3 HA
              go_wp2_with fail
              go_roundw
              case rel => exact ⟨j + 1, hjl, rfl, HI4⟩
              case measure => simp [intOf]; omega
        · obtain rfl : j = k := by omega
          go_wp2_with fail
          refine bodyPost_ret (results_tmp3 rfl _ _ _) rfl ?_
          obtain ⟨tb2, K2, mp2, hK2, hgr⟩ := HI.out.gr
          exact ⟨gb, ob, rb, rfl, ⟨⟨tb2, K2, mp2, by omega, hgr⟩, HI.out.tab, HI.out.be⟩⟩
end
end Go.Proofs.Ytghfodjefjijdaa
