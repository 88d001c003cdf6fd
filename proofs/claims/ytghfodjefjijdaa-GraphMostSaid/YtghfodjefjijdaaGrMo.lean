/- graph: steps told (a graph of the marks). -/
import Derived.Test.YtghfodjefjijdaaGrX
import Derived.Test.YtghfodjefjijdaaGrMm
namespace Go.Proofs.Ytghfodjefjijdaa
section
open Go Go.RowKit Go.Shelf
attribute [local go_sem ↓] Go.wp_at_zero Go.wp_at_succ
/-- Are all things of the first marks there? -/
def allIn (n : Nat) (xs ys : Nat → Int) : Nat → Bool
  | 0 => true
  | i + 1 => allIn n xs ys i && (inB n (xs i) && inB n (ys i))
theorem allIn_succ (n : Nat) (xs ys : Nat → Int) (i : Nat) : allIn n xs ys (i + 1) = (allIn n xs ys i && (inB n (xs i) && inB n (ys i))) := rfl
theorem allIn_false {n : Nat} {xs ys : Nat → Int} : ∀ {i k : Nat}, i ≤ k → allIn n xs ys i = false → allIn n xs ys k = false := by
  intro i k h
  induction h with
  | refl => exact id
  | step _ ih => exact fun e => by rw [allIn_succ, ih e]; rfl
/-- steps, as it goes through the marks. -/
structure StI (w W : World) (n gb : Nat) (xs ys : Nat → Int) (i : Nat) : Prop where
  gr : ∃ tb K mp, K ≤ i ∧ GrAt W w.heap.size gb tb n K mp (mOf n xs ys i) (cOf n xs ys i)
  all : allIn n xs ys i = true
  be : Below w.heap.size w W
/-- What steps answers. -/
structure StepsTo (w w' : World) (n k : Nat) (xs ys : Nat → Int) (e : Ending) : Prop where
  ex : (allIn n xs ys k = true ∧ ∃ sb tb K mp, e = .returned (.tuple #[.pointer (some ⟨sb, 0, none⟩), .bool true]) ∧ K ≤ 1000 ∧ GrAt w' w.heap.size sb tb n K mp (mOf n xs ys k) (cOf n xs ys k)) ∨ (allIn n xs ys k = false ∧ e = .returned (.tuple #[.pointer none, .bool false]))
  be : Below w.heap.size w w'
set_option maxRecDepth 100000 in
set_option maxHeartbeats 8000000 in
theorem gsteps_any {w : World} {B gb tb n K : Nat} {mp : Nat → Option Nat} {m : Nat → Nat → Bool} {cnt : Nat} (h : GrAt w B gb tb n K mp m cnt) (k c : Nat) (p : Option Addr) (xs ys : Nat → Int) (hp : PairsAt w p k xs ys) (hn : n ≤ 1000) (hk : k ≤ 1000) :
    Calls Try.prog 25 #[.pointer (some ⟨gb, 0, none⟩), .slice p k c] w fun e w' => StepsTo w w' n k xs ys e := by
  have HL := qhid (glen_any h)
  have HN := qhid (gnew_any n (by omega) w)
  have HP := qhid hp
  clear h hp
  go_enter Try.func25, Try.ntmps25
  go_wp2_with fail
  refine HL.out.mono ?_
  rintro e w1 ⟨rfl, hw⟩
  obtain rfl : w = w1 := hw.symm
  clear hw HL
  go_wp2_with fail
  refine HN.out.mono ?_
  rintro e w1 ⟨rfl, hg1, hb1, hz1⟩
  obtain ⟨sb, hsb⟩ : ∃ b, b = w.heap.size + 1 := ⟨_, rfl⟩
  have HI0 : Hid (StI w w1 n sb xs ys 0) := qhid ⟨⟨_, 0, _, Nat.le_refl _, by rw [hsb]; exact hg1⟩, rfl, hb1⟩
  rw [← hsb]
  clear hg1 hb1 hz1 hsb HN
  go_wp2_with fail
  go_loopw [18] (fun iv wr => ∃ i : Nat, i ≤ k ∧ iv = .int .i64 (i : Int) ∧ Hid (StI w wr n sb xs ys i)) (fun iv _ => k - (intOf iv).toNat)
  case atStart => exact ⟨0, Nat.zero_le _, rfl, HI0⟩
  case round =>
    obtain ⟨i, hi, rfl, HI⟩ := hrel
    clear HI0
    by_cases hlt : i < k
    · obtain ⟨tb2, K2, mp2, hK2, hgr⟩ := HI.out.gr
      have hbe := HI.out.be
      have HALL := qhid HI.out.all
      obtain ⟨lg, lo, hpe, cx, cy⟩ := HP.out.at_ hbe hlt
      subst hpe
      obtain ⟨x, hx⟩ : ∃ x, x = xs i := ⟨_, rfl⟩
      obtain ⟨y, hy⟩ : ∃ y, y = ys i := ⟨_, rfl⟩
      have hba := below1 wr (.cells #[.int .i64 x, .int .i64 y] 41)
      have hB : Below w.heap.size w (wr.alloc (.cells #[.int .i64 x, .int .i64 y] 41)) := hbe.trans (hba.mono hbe.size)
      have HA := qhid (garrow_kp (hgr.up hba) hB.size (by omega) (by have := cOf_le n xs ys i; omega) (by omega) x y)
      have HB := qhid hB
      have HMS := qhid (mOf_succ n xs ys i)
      have HCS := qhid (cOf_succ n xs ys i)
      have HAS := qhid (allIn_succ n xs ys i)
      rw [← hx] at cx HMS HCS HAS
      rw [← hy] at cy HMS HCS HAS
      clear HI hgr hbe hx hy hba hB HP
      go_wp2_with fail
      refine HA.out.mono ?_
      rintro e w3 ⟨rfl, ⟨mp3, hg3⟩, hb3, hk3⟩
      have HB3 := qhid (HB.out.trans hb3)
      clear hk3 hb3 HA
      by_cases hin : (inB n x && inB n y) = true
      · rw [if_pos hin] at hg3
        rw [if_pos hin] at hg3
        rw [if_pos hin] at HMS HCS
        rw [hin, HALL.out] at HAS
        rw [if_pos hin]
        have HI4 : Hid (StI w w3 n sb xs ys (i + 1)) := qhid ⟨⟨tb2, K2 + 1, mp3, by omega, by rw [HMS.out, HCS.out]; exact hg3⟩, HAS.out, HB3.out⟩
        clear hg3
        go_wp2_with fail
        go_roundw
        case rel => exact ⟨i + 1, hlt, rfl, HI4⟩
        case measure => simp [intOf]; omega
      · have HF : Hid (allIn n xs ys k = false) := qhid (allIn_false (show i + 1 ≤ k from hlt) (by rw [HAS.out]; simpa using fun _ => by simpa using hin))
        rw [if_neg hin]
        clear hg3
        go_wp2_with fail
        refine bodyPost_ret (results_tmp2 rfl _ _ _) rfl ?_
        exact ⟨.inr ⟨HF.out, rfl⟩, HB3.out⟩
    · obtain rfl : i = k := by omega
      go_wp2_with fail
      refine bodyPost_ret (results_tmp2 rfl _ _ _) rfl ?_
      obtain ⟨tb2, K2, mp2, hK2, hgr⟩ := HI.out.gr
      exact ⟨.inl ⟨HI.out.all, sb, tb2, K2, mp2, rfl, by omega, hgr⟩, HI.out.be⟩
end
end Go.Proofs.Ytghfodjefjijdaa
