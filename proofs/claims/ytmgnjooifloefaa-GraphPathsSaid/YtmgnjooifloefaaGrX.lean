/- graph: the law GraphKnots told. -/
import Derived.Test.YtmgnjooifloefaaGrW
namespace Go.Proofs.Ytmgnjooifloefaa
section
open Go Go.RowKit Go.Shelf
attribute [local go_sem ↓] Go.wp_at_zero Go.wp_at_succ
theorem PairsAt.up {w w' : World} {p : Option Addr} {k : Nat} {xs ys : Nat → Int} (h : PairsAt w p k xs ys) (hb : Below w.heap.size w w') : PairsAt w' p k xs ys := by
  refine ⟨h.1, ?_⟩
  rcases h.2 with h0 | ⟨g, o, hp, hl, hc⟩
  · exact .inl h0
  · exact .inr ⟨g, o, hp, Nat.lt_of_lt_of_le hl hb.size, fun j hj => ⟨(hb.cell (p := ⟨g, o + j * 2, none⟩) hl).trans (hc j hj).1, (hb.cell (p := ⟨g, o + j * 2 + 1, none⟩) hl).trans (hc j hj).2⟩⟩
/-- A thing is on a ring just if it is not alone in its knot, or an arrow leads from it to itself. -/
theorem ring_alone {m : Nat → Nat → Bool} {n x : Nat} {kn : Nat → Int} (hbd : ∀ i j, m i j = true → i < n ∧ j < n) (hx : x < n) (hs : ∀ u v, u < n → v < n → (kn u = kn v ↔ Rch (fun a b => m a b = true) u v ∧ Rch (fun a b => m a b = true) v u)) :
    (∃ z, Rch (Em m) x z ∧ Em m z x) ↔ (∃ i, i < n ∧ i ≠ x ∧ ln kn i = ln kn x) ∨ m x x = true := by
  constructor
  · rintro ⟨z, h1, h2⟩
    by_cases hz : z = x
    · rw [hz] at h2
      exact .inr h2
    · have h2' : m z x = true := h2
      exact .inl ⟨z, (hbd z x h2').1, hz, ln_same.2 ((hs z x (hbd z x h2').1 hx).2 ⟨.one h2', h1⟩)⟩
  · rintro (⟨i, hi, hix, e⟩ | h)
    · obtain ⟨h1, h2⟩ := (hs i x hi hx).1 (ln_same.1 e)
      cases h1 with
      | refl => exact absurd rfl hix
      | tail h3 h4 => exact ⟨_, h2.trans h3, h4⟩
    · exact ⟨x, .refl _, h⟩
/-- None of the first things but x is of x's knot. -/
def aloneTo (l : Nat → Int) (x : Nat) : Nat → Bool
  | 0 => true
  | i + 1 => aloneTo l x i && (i == x || !(l i == l x))
theorem aloneTo_iff {l : Nat → Int} {x : Nat} : ∀ {i : Nat}, aloneTo l x i = false ↔ ∃ j, j < i ∧ j ≠ x ∧ l j = l x := by
  intro i
  induction i with
  | zero => exact ⟨fun h => (by cases h), fun ⟨j, h, _⟩ => absurd h (Nat.not_lt_zero _)⟩
  | succ i ih =>
    show (aloneTo l x i && (i == x || !(l i == l x))) = false ↔ _
    constructor
    · intro h
      by_cases h1 : aloneTo l x i = false
      · obtain ⟨j, hj, h2⟩ := ih.1 h1
        exact ⟨j, Nat.lt_succ_of_lt hj, h2⟩
      · have h1 : aloneTo l x i = true := by simpa using h1
        rw [h1] at h
        simp at h
        exact ⟨i, Nat.lt_succ_self _, h.1, h.2⟩
    · rintro ⟨j, hj, h2, h3⟩
      rcases Nat.lt_succ_iff_lt_or_eq.1 hj with hj | rfl
      · rw [ih.2 ⟨j, hj, h2, h3⟩]
        rfl
      · simp [h2, h3]
theorem aloneTo_succ (l : Nat → Int) (x i : Nat) : aloneTo l x (i + 1) = (aloneTo l x i && (i == x || !(l i == l x))) := rfl
/-- What lies there while the law goes on. -/
structure KlI (w W : World) (B n gb ob lb : Nat) (rb : Nat → Nat) (m : Nat → Nat → Bool) (l : Nat → Int) : Prop where
  gr : ∃ tb K mp cnt, K ≤ 1000 ∧ GrAt W B gb tb n K mp m cnt
  tab : TbAt W B ob rb n n m
  li : Vec W lb 3 n (fun i => .int .i64 (l i))
  be : Below w.heap.size w W
theorem KlI.up {w W W' : World} {B n gb ob lb : Nat} {rb : Nat → Nat} {m : Nat → Nat → Bool} {l : Nat → Int} (h : KlI w W B n gb ob lb rb m l) (hb : Below W.heap.size W W') : KlI w W' B n gb ob lb rb m l :=
  ⟨by
    obtain ⟨tb, K, mp, cnt, hK, hg⟩ := h.gr
    exact ⟨tb, K, mp, cnt, hK, hg.up hb⟩, h.tab.up hb, heap_up h.li hb, h.be.trans (hb.mono h.be.size)⟩
set_option maxRecDepth 100000 in
set_option maxHeartbeats 8000000 in
theorem gklaw_any {w : World} (sz a b k c : Nat) (p : Option Addr) (xs ys : Nat → Int) (hs : sz < 256) (ha : a < 256) (hb : b < 256) (hp : PairsAt w p k xs ys) :
    Calls Try.prog 7 #[.int .u8 (sz : Int), .slice p k c, .int .u8 (a : Int), .int .u8 (b : Int)] w fun e w' => e = .returned (.bool true) ∧ Below w.heap.size w w' := by
  have HA := qhid (gawake w)
  have hk63 := hp.1
  have HP := qhid hp
  clear hp
  by_cases hk : 80 < k
  · clear HP
    go_enter Try.func7, Try.ntmps7
    go_wp2_with fail
    refine HA.out.mono ?_
    rintro e w1 ⟨rfl, hb1⟩
    have HB := qhid hb1
    clear hb1 HA
    go_wp2_with fail
    go_ret
    exact ⟨rfl, HB.out⟩
  · obtain ⟨n, hn⟩ : ∃ n, n = 1 + sz % 13 := ⟨_, rfl⟩
    have E1 : Hid ((1 : Int) + (sz : Int) % 13 = (n : Int)) := qhid (by omega)
    have HN1 : Hid (1 ≤ n ∧ n ≤ 13) := qhid (by omega)
    clear hn
    go_enter Try.func7, Try.ntmps7
    go_wp2_with fail
    refine HA.out.mono ?_
    rintro e w1 ⟨rfl, hb1⟩
    have HB1 := qhid hb1
    have HP1 := qhid (HP.out.up hb1)
    clear hb1 HA HP
    go_upto_region 4 with fail
    rw [E1.out]
    have hn1 := HN1.out
    have HBU := qhid (gbuild_any n k c p xs ys HP1.out (by omega) (by omega))
    clear HP1 E1
    go_wp2_with fail
    refine HBU.out.mono ?_
    rintro e w2 ⟨gb, ob, rb, rfl, ⟨tb, K, mp, hK, hg⟩, htab, hb2⟩
    obtain ⟨m, hm⟩ : ∃ m, m = mOf n xs ys k := ⟨_, rfl⟩
    obtain ⟨cnt, hcnt⟩ : ∃ m, m = cOf n xs ys k := ⟨_, rfl⟩
    rw [← hm] at htab hg
    rw [← hcnt] at hg
    have HB2 := qhid (HB1.out.trans (hb2.mono HB1.out.size))
    have HG2 := qhid hg
    have HT2 := qhid htab
    clear hg htab hb2 hm hcnt HB1 HBU
    obtain ⟨x, hx⟩ : ∃ x, x = a % n := ⟨_, rfl⟩
    obtain ⟨y, hy⟩ : ∃ y, y = b % n := ⟨_, rfl⟩
    have hxn : x < n := by rw [hx]; exact Nat.mod_lt _ (by omega)
    have hyn : y < n := by rw [hy]; exact Nat.mod_lt _ (by omega)
    have e2 : (a : Int) % (n : Int) = (x : Int) := by rw [hx]; rfl
    have e3 : (b : Int) % (n : Int) = (y : Int) := by rw [hy]; rfl
    have e4 : Int.tmod (a : Int) (n : Int) = (x : Int) := by rw [Int.tmod_eq_emod_of_nonneg (by omega)]; exact e2
    have e5 : Int.tmod (b : Int) (n : Int) = (y : Int) := by rw [Int.tmod_eq_emod_of_nonneg (by omega)]; exact e3
    clear hx hy
    go_upto_region 7 with fail
    go_region
    clear e2 e3 e4 e5
    obtain ⟨W3, hW3⟩ : ∃ X, X = w2.drew := ⟨_, rfl⟩
    rw [← hW3]
    have HG3 : Hid (GrAt W3 w1.heap.size gb tb n K mp m cnt) := qhid (by rw [hW3]; exact HG2.out.up (Below.drew (Below.refl _ _)))
    have HT3 : Hid (TbAt W3 w1.heap.size ob rb n n m) := qhid (by rw [hW3]; exact HT2.out.up (Below.drew (Below.refl _ _)))
    have HB3 : Hid (Below w.heap.size w W3) := qhid (by rw [hW3]; exact HB2.out.drew)
    clear hW3 HG2 HT2 HB2
    have HK := qhid (gknots_any HG3.out (by omega) (by omega))
    go_wp2_with fail
    refine HK.out.mono ?_
    rintro e w3 ⟨r, rfl, ⟨lb, kn, rfl, _, hl, hsm⟩, hb3⟩
    have HI3 : Hid (KlI w w3 w1.heap.size n gb ob lb rb m (ln kn)) := qhid ⟨⟨tb, K, mp, cnt, hK, HG3.out.up hb3⟩, HT3.out.up hb3, hl, HB3.out.trans (hb3.mono HB3.out.size)⟩
    have HSM := qhid hsm
    have HBD := qhid HG3.out.bd
    have HP1 := qhid (gpath_any (HG3.out.up hb3) x y hxn hyn (by omega) (by omega))
    clear hl hsm hb3 HG3 HT3 HB3 HK
    go_wp2_with fail
    refine HP1.out.mono ?_
    rintro e w4 ⟨v1, r1, rfl, hr1⟩
    have HI4 := qhid (HI3.out.up hr1.be)
    have HR1 := qhid hr1.yes
    clear hr1 HP1 HI3
    obtain ⟨tb4, K4, mp4, c4, hK4, hg4⟩ := HI4.out.gr
    have HP2 := qhid (gpath_any hg4 y x hyn hxn (by omega) (by omega))
    clear hg4
    go_wp2_with fail
    refine HP2.out.mono ?_
    rintro e w5 ⟨v2, r2, rfl, hr2⟩
    have HI5 := qhid (HI4.out.up hr2.be)
    have HR2 := qhid hr2.yes
    clear hr2 HP2 HI4
    have cx := HI5.out.li.cell hxn
    have cy := HI5.out.li.cell hyn
    have heq : (ln kn x == ln kn y) = (r1 && r2) := by
      rw [Bool.eq_iff_iff, beq_iff_eq, ln_same, HSM.out x y hxn hyn, Bool.and_eq_true]
      exact ⟨fun h => ⟨HR1.out.2 h.1, HR2.out.2 h.2⟩, fun h => ⟨HR1.out.1 h.1, HR2.out.1 h.2⟩⟩
    obtain ⟨l, hl⟩ : ∃ l, l = ln kn := ⟨_, rfl⟩
    rw [← hl] at HI5 cx cy heq
    have HRA : Hid ((∃ z, Rch (Em m) x z ∧ Em m z x) ↔ (∃ i, i < n ∧ i ≠ x ∧ l i = l x) ∨ m x x = true) := qhid (by rw [hl]; exact ring_alone HBD.out hxn HSM.out)
    clear hl HR1 HR2 HSM HBD
    obtain ⟨ux, hux⟩ : ∃ u, u = l x := ⟨_, rfl⟩
    obtain ⟨uy, huy⟩ : ∃ u, u = l y := ⟨_, rfl⟩
    rw [← hux] at cx heq
    rw [← huy] at cy heq
    have HUX := qhid hux
    clear hux huy
    cases r1 <;> cases r2
    all_goals
      simp only [Bool.and_true, Bool.and_false, Bool.true_and, Bool.false_and] at heq
      go_upto_region 11 with fail
      go_region
      obtain ⟨W6, hW6⟩ : ∃ X, X = w5.drew := ⟨_, rfl⟩
      rw [← hW6]
      have HI6 : Hid (KlI w W6 w1.heap.size n gb ob lb rb m l) := qhid (by rw [hW6]; exact HI5.out.up (Below.drew (Below.refl _ _)))
      clear hW6 cx cy heq HI5
      go_wp2_with fail
      go_loopw [22, 21] (fun iv av wr => ∃ i : Nat, i ≤ n ∧ iv = .int .i64 (i : Int) ∧ av = .bool (aloneTo l x i) ∧ Hid (KlI w wr w1.heap.size n gb ob lb rb m l)) (fun iv _ _ => n - (intOf iv).toNat)
      case atStart => exact ⟨0, Nat.zero_le _, rfl, rfl, HI6⟩
      case round =>
        obtain ⟨i, hi, rfl, rfl, HI⟩ := hrel
        clear HI6
        by_cases hlt : i < n
        · have ci : wr.cell? ⟨lb, i, none⟩ = some (.int .i64 (l i)) := HI.out.li.cell hlt
          have cx : wr.cell? ⟨lb, x, none⟩ = some (.int .i64 (l x)) := HI.out.li.cell hxn
          have HIN : Hid (KlI w wr.drew w1.heap.size n gb ob lb rb m l) := qhid (HI.out.up (Below.drew (Below.refl _ _)))
          have HAS := qhid (aloneTo_succ l x i)
          obtain ⟨al, hal⟩ : ∃ t, t = aloneTo l x i := ⟨_, rfl⟩
          rw [← hal] at HAS ⊢
          clear hal HI
          cases al with
          | false =>
            go_upto_region 17 with fail
            go_region
            go_wp2_with fail
            go_roundw
            case rel => exact ⟨i + 1, hlt, rfl, by rw [HAS.out]; rfl, HIN⟩
            case measure => simp [intOf]; omega
          | true =>
            by_cases hix : i = x
            · have hb1 : ((i : Int) == (x : Int)) = true := by rw [hix]; exact beq_self_eq_true _
              have hb2 : (i == x) = true := by simpa using hix
              have HAS2 : Hid (aloneTo l x (i + 1) = true) := qhid (by rw [HAS.out, hb2]; rfl)
              clear hix hb2 HAS
              go_upto_region 17 with fail
              go_region
              go_wp2_with fail
              go_roundw
              case rel => exact ⟨i + 1, hlt, rfl, by rw [HAS2.out], HIN⟩
              case measure => simp [intOf]; omega
            · have hb1 : ((i : Int) == (x : Int)) = false := by simp; omega
              have hb2 : (i == x) = false := by simpa using hix
              obtain ⟨li, hli⟩ : ∃ u, u = l i := ⟨_, rfl⟩
              obtain ⟨lx, hlx⟩ : ∃ u, u = l x := ⟨_, rfl⟩
              have HAS2 : Hid (aloneTo l x (i + 1) = !(li == lx)) := qhid (by rw [HAS.out, hb2, hli, hlx]; rfl)
              rw [← hli] at ci
              rw [← hlx] at cx
              clear hix hb2 HAS hli hlx
              go_upto_region 17 with fail
              go_region
              go_wp2_with fail
              go_roundw
              case rel => exact ⟨i + 1, hlt, rfl, by rw [HAS2.out]; rfl, HIN⟩
              case measure => simp [intOf]; omega
        · obtain rfl : i = n := by omega
          have HAL := qhid (aloneTo_iff (l := l) (x := x) (i := i))
          obtain ⟨al, hal⟩ : ∃ t, t = aloneTo l x i := ⟨_, rfl⟩
          rw [← hal] at HAL ⊢
          clear hal
          obtain ⟨tb5, K5, mp5, c5, hK5, hg5⟩ := HI.out.gr
          have HRG := qhid (gring_any hg5 x hxn (by omega) (by omega))
          clear hg5
          go_wp2_with fail
          refine HRG.out.mono ?_
          rintro e w7 ⟨r, rfl, hr, hb7⟩
          have HI7 := qhid (HI.out.up hb7)
          have HRR : Hid (r = (!al || m x x)) := qhid (by
            rw [Bool.eq_iff_iff, hr, HRA.out, Bool.or_eq_true, Bool.not_eq_true', HAL.out])
          clear hr hb7 HRG HI
          have co : w7.cell? ⟨ob, x, none⟩ = some (.slice (some ⟨rb x, 0, none⟩) i i) := by rw [HI7.out.tab.o.cell hxn, if_pos hxn]
          have cr := (HI7.out.tab.r x hxn).cell hxn
          obtain ⟨mx, hmx⟩ : ∃ t, t = m x x := ⟨_, rfl⟩
          rw [← hmx] at cr HRR
          clear hmx
          cases al with
          | false =>
            obtain rfl : r = true := HRR.out
            go_wp2_with fail
            go_ret
            exact ⟨rfl, HI7.out.be⟩
          | true =>
            obtain rfl : r = mx := HRR.out
            go_wp2_with fail
            cases r <;> (go_ret; exact ⟨rfl, HI7.out.be⟩)
end
end Go.Proofs.Ytmgnjooifloefaa
