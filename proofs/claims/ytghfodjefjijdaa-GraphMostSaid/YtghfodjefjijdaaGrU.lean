/- graph: the law's awake told. -/
import Derived.Test.YtghfodjefjijdaaGrT
namespace Go.Proofs.Ytghfodjefjijdaa
section
open Go Go.RowKit Go.Shelf
attribute [local go_sem ↓] Go.wp_at_zero Go.wp_at_succ
/-- The document's example. -/
def m3 : Nat → Nat → Bool := upd2 (upd2 (upd2 noArrows 0 1) 1 0) 1 2
theorem m3_two (x : Nat) : m3 2 x = false := by
  simp [m3, upd2, upd, noArrows]
theorem m3_rch2 {x : Nat} (h : Rch (fun a b => m3 a b = true) 2 x) : x = 2 := by
  refine h.keeps (Q := fun x => x = 2) (fun u v hu e => ?_) rfl
  rw [hu, m3_two] at e
  cases e
theorem m3_01 : m3 0 1 = true := by simp [m3, upd2, upd]
theorem m3_10 : m3 1 0 = true := by simp [m3, upd2, upd]
theorem m3_knots {kn : Nat → Int} (h : ∀ u v, u < 3 → v < 3 → (kn u = kn v ↔ Rch (fun a b => m3 a b = true) u v ∧ Rch (fun a b => m3 a b = true) v u)) : nx kn 3 = 2 ∧ ln kn 0 = 0 ∧ ln kn 1 = 0 ∧ ln kn 2 = 1 := by
  have h01 : kn 0 = kn 1 := (h 0 1 (by omega) (by omega)).2 ⟨.one m3_01, .one m3_10⟩
  have h20 : kn 2 ≠ kn 0 := fun e => by
    have := m3_rch2 ((h 2 0 (by omega) (by omega)).1 e).1
    omega
  have h20' : kn 0 ≠ kn 2 := fun e => h20 e.symm
  have f0 : fresh kn 0 = true := rfl
  have f1 : fresh kn 1 = false := by simp [fresh, h01]
  have f2 : fresh kn 2 = true := by
    unfold fresh
    rw [show List.range 2 = [0, 1] from rfl]
    simp [h20', h01 ▸ h20']
  have n1 : nx kn 1 = 1 := by rw [nx_succ, f0]; rfl
  have n2 : nx kn 2 = 1 := by rw [nx_succ, f1, n1]; rfl
  have n3 : nx kn 3 = 2 := by rw [nx_succ, f2, n2]; rfl
  have l0 : ln kn 0 = 0 := ln_fresh f0
  exact ⟨n3, l0, (ln_same.2 h01).symm.trans l0, (ln_fresh f2).trans (by rw [n2]; rfl)⟩
theorem garrow_le {w : World} {B gb tb n K : Nat} {mp : Nat → Option Nat} {m : Nat → Nat → Bool} {cnt : Nat} (h : GrAt w B gb tb n K mp m cnt) (hB : B ≤ w.heap.size) (hK : K ≤ 1000000) (hc : cnt ≤ 1000000) (hn : n ≤ 1048576) (a b : Nat) (ha : a < n) (hb : b < n) :
    Calls Try.prog 18 #[.pointer (some ⟨gb, 0, none⟩), .int .i64 (a : Int), .int .i64 (b : Int)] w fun e w' => e = .returned (.int .i64 0) ∧ (∃ mp' cnt', cnt' ≤ cnt + 1 ∧ GrAt w' B gb tb n (K + 1) mp' (upd2 m a b) cnt') ∧ Below B w w' :=
  (garrow_any h hB hK hc hn a b ha hb).mono fun e w' ⟨he, hp⟩ => ⟨he, hp.gr.imp fun mp' h => ⟨_, (by split <;> omega), h⟩, hp.be⟩
set_option maxRecDepth 100000 in
set_option maxHeartbeats 8000000 in
theorem gawake (w : World) : Calls Try.prog 5 #[] w fun e w' => e = .returned (.bool true) ∧ Below w.heap.size w w' := by
  have HN := qhid (gnew_any 3 (by omega) w)
  go_enter Try.func5, Try.ntmps5
  go_wp2_with fail
  refine HN.out.mono ?_
  rintro e w1 ⟨rfl, hg1, hb1, hz1⟩
  have HB1 := qhid hb1
  have H1 := qhid (garrow_le hg1 (by omega) (by omega) (by omega) (by omega) 0 1 (by omega) (by omega))
  clear hg1 hb1 HN
  go_wp2_with fail
  refine H1.out.mono ?_
  rintro e w2 ⟨rfl, ⟨mp2, c2, hc2, hg2⟩, hb2⟩
  have HB2 := qhid (HB1.out.trans hb2)
  have H2 := qhid (garrow_le hg2 HB2.out.size (by omega) (by omega) (by omega) 1 0 (by omega) (by omega))
  clear hg2 hb2 H1
  go_wp2_with fail
  refine H2.out.mono ?_
  rintro e w3 ⟨rfl, ⟨mp3, c3, hc3, hg3⟩, hb3⟩
  have HB3 := qhid (HB2.out.trans hb3)
  have H3 := qhid (garrow_le hg3 HB3.out.size (by omega) (by omega) (by omega) 1 2 (by omega) (by omega))
  clear hg3 hb3 H2
  go_wp2_with fail
  refine H3.out.mono ?_
  rintro e w4 ⟨rfl, ⟨mp4, c4, hc4, hg4⟩, hb4⟩
  have HB4 := qhid (HB3.out.trans hb4)
  have HG4 : Hid (GrAt w4 w.heap.size (w.heap.size + 1) w.heap.size 3 3 mp4 m3 c4) := qhid hg4
  have H4 := qhid (gknots_any HG4.out (by omega) (by omega))
  clear hg4 hb4 H3
  go_wp2_with fail
  refine H4.out.mono ?_
  rintro e w5 ⟨r, rfl, ⟨lb, kn, rfl, hlb, hl, hs⟩, hb5⟩
  obtain ⟨k0, k1, k2, k3⟩ := m3_knots hs
  have y0 : w5.cell? ⟨lb, 0, none⟩ = some (.int .i64 0) := by rw [hl.cell (by omega), k1]
  have y1 : w5.cell? ⟨lb, 1, none⟩ = some (.int .i64 0) := by rw [hl.cell (by omega), k2]
  have y2 : w5.cell? ⟨lb, 2, none⟩ = some (.int .i64 1) := by rw [hl.cell (by omega), k3]
  rw [k0]
  have HB5 := qhid (HB4.out.trans (hb5.mono HB4.out.size))
  have HG5 := qhid (HG4.out.up hb5)
  have R0 := qhid (gring_any HG5.out 0 (by omega) (by omega) (by omega))
  clear hl hs k0 k1 k2 k3 hb5 H4
  go_wp2_with fail
  refine R0.out.mono ?_
  rintro e w6 ⟨r, rfl, hr, hb6⟩
  obtain rfl : r = true := hr.2 ⟨1, .one m3_01, m3_10⟩
  have HG6 := qhid (HG5.out.up hb6)
  have HB6 := qhid (HB5.out.trans (hb6.mono HB5.out.size))
  have R2 := qhid (gring_any HG6.out 2 (by omega) (by omega) (by omega))
  clear hr hb6 R0 y0 y1 y2
  go_wp2_with fail
  refine R2.out.mono ?_
  rintro e w7 ⟨r, rfl, hr, hb7⟩
  obtain rfl : r = false := by
    cases r with
    | false => rfl
    | true =>
      obtain ⟨x, h1, h2⟩ := hr.1 rfl
      obtain rfl := m3_rch2 h1
      have h2 : m3 2 2 = true := h2
      rw [m3_two] at h2
      cases h2
  have HB7 := qhid (HB6.out.trans (hb7.mono HB6.out.size))
  clear hr hb7 R2
  go_wp2_with fail
  go_ret
  exact ⟨rfl, HB7.out⟩
end
end Go.Proofs.Ytghfodjefjijdaa
