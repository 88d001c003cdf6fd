/- graph: the law GraphMost told. -/
import Derived.Test.YtghfodjefjijdaaGrMp
import Derived.Test.YtghfodjefjijdaaGrMr
import Derived.Test.YtghfodjefjijdaaGrY
namespace Go.Proofs.Ytghfodjefjijdaa
section
open Go Go.RowKit Go.Shelf
attribute [local go_sem ↓] Go.wp_at_zero Go.wp_at_succ
structure MoTo (w w' : World) (m m2 : Nat → Nat → Bool) (n : Nat) (all : Bool) (e : Ending) : Prop where
  ex : ∃ (r : Nat) (ok : Bool), e = .returned (.tuple #[.int .i64 (r : Int), .bool ok]) ∧ (all = true → MostTo (Em m) (Em m2) n r ok) ∧ (all = false → r = 0 ∧ ok = false)
  be : Below w.heap.size w w'
theorem gmost_any {w : World} {B gb tb n K : Nat} {mp : Nat → Option Nat} {m : Nat → Nat → Bool} {cnt : Nat} (h : GrAt w B gb tb n K mp m cnt) (k c : Nat) (p : Option Addr) (xs ys : Nat → Int) (hp : PairsAt w p k xs ys) (hn : n ≤ 1000) (hk : k ≤ 1000) (hK : K ≤ 1000000) :
    Calls Try.prog 15 #[.pointer (some ⟨gb, 0, none⟩), .slice p k c] w fun e w' => MoTo w w' m (mOf n xs ys k) n (allIn n xs ys k) e := by
  cases hall : allIn n xs ys k with
  | true =>
    refine (gmost_ok h k c p xs ys hp hn hk hK hall).mono ?_
    rintro e w' ⟨r, ok, rfl, hb, hm⟩
    exact ⟨⟨r, ok, rfl, fun _ => hm, fun e => (by cases e)⟩, hb⟩
  | false =>
    refine (gmost_bad h k c p xs ys hp hn hk hall).mono ?_
    rintro e w' ⟨rfl, hb⟩
    exact ⟨⟨0, false, rfl, fun e => (by cases e), fun _ => ⟨rfl, rfl⟩⟩, hb⟩
/-- What lies there while the law goes on. -/
structure LmI (w W : World) (A n ob : Nat) (rb : Nat → Nat) (m : Nat → Nat → Bool) : Prop where
  tab : TbAt W A ob rb n n m
  be : Below w.heap.size w W
set_option maxRecDepth 100000 in
set_option maxHeartbeats 16000000 in
theorem gmlaw_any {w : World} (sz k c : Nat) (p : Option Addr) (xs ys : Nat → Int) (k2 c2 : Nat) (p2 : Option Addr) (us vs : Nat → Int) (hs : sz < 256) (hp : PairsAt w p k xs ys) (hp2 : PairsAt w p2 k2 us vs) :
    Calls Try.prog 4 #[.int .u8 (sz : Int), .slice p k c, .slice p2 k2 c2] w fun e w' => e = .returned (.bool true) ∧ Below w.heap.size w w' := by
  have HA := qhid (gawake w)
  have hk63 := hp.1
  have hk63' := hp2.1
  have HP := qhid hp
  have HP2 := qhid hp2
  clear hp hp2
  by_cases hk : 80 < k
  · clear HP HP2
    go_enter Try.func4, Try.ntmps4
    go_wp2_with fail
    refine HA.out.mono ?_
    rintro e w1 ⟨rfl, hb1⟩
    have HB := qhid hb1
    clear hb1 HA
    go_wp2_with fail
    go_ret
    exact ⟨rfl, HB.out⟩
  by_cases hk2 : 30 < k2
  · clear HP HP2
    go_enter Try.func4, Try.ntmps4
    go_wp2_with fail
    refine HA.out.mono ?_
    rintro e w1 ⟨rfl, hb1⟩
    have HB := qhid hb1
    clear hb1 HA
    go_wp2_with fail
    go_ret
    exact ⟨rfl, HB.out⟩
  obtain ⟨n, hn⟩ : ∃ n, n = sz % 14 := ⟨_, rfl⟩
  have E1 : Hid ((sz : Int) % 14 = (n : Int)) := qhid (by omega)
  have HN1 : Hid (n ≤ 13) := qhid (by omega)
  clear hn
  go_enter Try.func4, Try.ntmps4
  go_wp2_with fail
  refine HA.out.mono ?_
  rintro e w1 ⟨rfl, hb1⟩
  have HB1 := qhid hb1
  have HP1 := qhid (HP.out.up hb1)
  clear hb1 HA HP
  go_upto_region 4 with fail
  rw [E1.out]
  have hn1 := HN1.out
  have HBU := qhid (gbuild_any n k c p xs ys HP1.out (by omega) (by omega))
  clear HP1 E1
  go_wp2_with fail
  refine HBU.out.mono ?_
  rintro e w2 ⟨gb, ob, rb, rfl, ⟨tb, K, mp, hK, hg⟩, htab, hb2⟩
  obtain ⟨m, hm⟩ : ∃ m, m = mOf n xs ys k := ⟨_, rfl⟩
  rw [← hm] at htab hg
  have HB2 := qhid (HB1.out.trans (hb2.mono HB1.out.size))
  have HBD := qhid hg.bd
  have HT2 := qhid htab
  have HMO := qhid (gmost_any hg k2 c2 p2 us vs (HP2.out.up HB2.out) (by omega) (by omega) (by omega))
  clear hg htab hb2 hm HB1 HBU
  go_wp2_with fail
  refine HMO.out.mono ?_
  rintro e w3 ⟨⟨r, ok, rfl, hyes, hno⟩, hb3⟩
  have HYES := qhid hyes
  have HNO := qhid hno
  have HI3 : Hid (LmI w w3 w1.heap.size n ob rb m) := qhid ⟨HT2.out.up hb3, HB2.out.trans (hb3.mono HB2.out.size)⟩
  clear hyes hno hb3 HMO HT2 HB2
  go_wp2_with fail
  go_loopw [13] (fun iv wr => ∃ i : Nat, i ≤ k2 ∧ iv = .int .i64 (i : Int) ∧ Hid (allIn n us vs i = true) ∧ Hid (LmI w wr w1.heap.size n ob rb m)) (fun iv _ => k2 - (intOf iv).toNat)
  case atStart => exact ⟨0, Nat.zero_le _, rfl, qhid rfl, HI3⟩
  case round =>
    obtain ⟨i, hi, rfl, HAL, HI⟩ := hrel
    clear HI3
    by_cases hil : i < k2
    · obtain ⟨lg, lo, hpe, cx, cy⟩ := HP2.out.at_ HI.out.be hil
      subst hpe
      obtain ⟨x, hx⟩ : ∃ x, x = us i := ⟨_, rfl⟩
      obtain ⟨y, hy⟩ : ∃ y, y = vs i := ⟨_, rfl⟩
      have HAS := qhid (allIn_succ n us vs i)
      rw [← hx] at cx HAS
      rw [← hy] at cy HAS
      rw [HAL.out] at HAS
      clear hx hy
      by_cases hin : (inB n x && inB n y) = true
      · rw [hin] at HAS
        unfold inB at hin
        simp at hin
        obtain ⟨⟨h1, h2⟩, h3, h4⟩ := hin
        go_wp2_with fail
        go_roundw
        case rel => exact ⟨i + 1, hil, rfl, qhid (by rw [HAS.out]; rfl), HI⟩
        case measure => simp [intOf]; omega
      · have hno := HNO.out (allIn_false hil (by rw [HAS.out]; simpa using hin))
        obtain ⟨hr0, hok0⟩ := hno
        subst hr0
        subst hok0
        have hcase : x < 0 ∨ (0 ≤ x ∧ (n : Int) ≤ x) ∨ (0 ≤ x ∧ x < (n : Int) ∧ y < 0) ∨ (0 ≤ x ∧ x < (n : Int) ∧ 0 ≤ y ∧ (n : Int) ≤ y) := by
          unfold inB at hin
          simp at hin
          by_cases h1 : x < 0
          · exact .inl h1
          · by_cases h2 : (n : Int) ≤ x
            · exact .inr (.inl ⟨by omega, h2⟩)
            · by_cases h3 : y < 0
              · exact .inr (.inr (.inl ⟨by omega, by omega, h3⟩))
              · exact .inr (.inr (.inr ⟨by omega, by omega, by omega, hin (by omega) (by omega) (by omega)⟩))
        clear hin HAS HAL HNO HYES HBD HP2
        rcases hcase with h1 | ⟨h1, h2⟩ | ⟨h1, h2, h3⟩ | ⟨h1, h2, h3, h4⟩
        all_goals
          go_wp2_with fail
          go_ret
          exact ⟨rfl, HI.out.be⟩
    · obtain rfl : k2 = i := by omega
      have HAG := qhid (HYES.out HAL.out)
      have HRM := qhid (grmost_any HI.out.tab (by omega) HBD.out k2 c2 p2 us vs (HP2.out.up HI.out.be) (by omega) HAL.out)
      clear HYES HNO
      go_wp2_with fail
      refine HRM.out.mono ?_
      rintro e w4 ⟨⟨x, rfl, hx⟩, hb4⟩
      obtain ⟨e1, e2⟩ := HAG.out.agree hx
      have HB4 := qhid (HI.out.be.trans (hb4.mono HI.out.be.size))
      have he : (ok == decide (0 ≤ x)) = true := by rw [e1]; simp
      have he2 : ((r : Int) == max x 0) = true := by rw [e2]; simp
      clear hx hb4 HRM HAG e1 e2
      go_wp2_with fail
      go_ret
      exact ⟨rfl, HB4.out⟩
theorem gmlaw_all (x0 : Int) (v v2 : Value) (W : World) (b0 : 0 ≤ x0 ∧ x0 ≤ 255) (h : ∃ p n c xs ys, v = .slice p n c ∧ PairsAt W p n xs ys) (h2 : ∃ p n c xs ys, v2 = .slice p n c ∧ PairsAt W p n xs ys) :
    Calls Try.prog 4 #[.int .u8 x0, v, v2] W fun e w' => e = .returned (.bool true) ∧ Below W.heap.size W w' := by
  obtain ⟨p, n, c, xs, ys, rfl, hp⟩ := h
  obtain ⟨p2, n2, c2, us, vs, rfl, hp2⟩ := h2
  obtain ⟨s, rfl⟩ := Int.eq_ofNat_of_zero_le b0.1
  exact gmlaw_any s n c p xs ys n2 c2 p2 us vs (by omega) hp hp2
end
end Go.Proofs.Ytghfodjefjijdaa
