/- The law BytesFolds, walked. -/
import Derived.Test.YtknjgopoijkkpaaSets
namespace Go.Proofs.Ytknjgopoijkkpaa
open Go Go.RowKit
attribute [local go_sem ↓] Go.wp_at_zero Go.wp_at_succ
attribute [local go_sem] eq4
/-- Three sets lie in three blocks of a world that is the old one as far as that goes. -/
abbrev Held3 (w : World) (g0 g1 g2 : Nat) (a b c d x y z u p q r s : Int) (w' : World) : Prop :=
  (w'.cell? ⟨g0, 0, none⟩ = some (.int .u64 a) ∧ w'.cell? ⟨g0, 1, none⟩ = some (.int .u64 b) ∧ w'.cell? ⟨g0, 2, none⟩ = some (.int .u64 c) ∧ w'.cell? ⟨g0, 3, none⟩ = some (.int .u64 d)) ∧
  (w'.cell? ⟨g1, 0, none⟩ = some (.int .u64 x) ∧ w'.cell? ⟨g1, 1, none⟩ = some (.int .u64 y) ∧ w'.cell? ⟨g1, 2, none⟩ = some (.int .u64 z) ∧ w'.cell? ⟨g1, 3, none⟩ = some (.int .u64 u)) ∧
  (w'.cell? ⟨g2, 0, none⟩ = some (.int .u64 p) ∧ w'.cell? ⟨g2, 1, none⟩ = some (.int .u64 q) ∧ w'.cell? ⟨g2, 2, none⟩ = some (.int .u64 r) ∧ w'.cell? ⟨g2, 3, none⟩ = some (.int .u64 s)) ∧
  g0 < w'.heap.size ∧ g1 < w'.heap.size ∧ g2 < w'.heap.size ∧ Below w.heap.size w w'
theorem held3_below {w : World} {g0 g1 g2 : Nat} {a b c d x y z u p q r s : Int} {X Y : World} (hb : Below X.heap.size X Y) (h : Held3 w g0 g1 g2 a b c d x y z u p q r s X) : Held3 w g0 g1 g2 a b c d x y z u p q r s Y := by
  obtain ⟨hc, _, hz⟩ := bcell hb
  obtain ⟨h0, h1, h2, l0, l1, l2, k⟩ := h
  refine ⟨?_, ?_, ?_, by omega, by omega, by omega, below_next k hb k.size⟩
  · simp only [hc g0 _ l0]; exact h0
  · simp only [hc g1 _ l1]; exact h1
  · simp only [hc g2 _ l2]; exact h2
theorem held3_alloc {w : World} {g0 g1 g2 : Nat} {a b c d x y z u p q r s : Int} {X : World} (h : Held3 w g0 g1 g2 a b c d x y z u p q r s X) (o : Obj) : Held3 w g0 g1 g2 a b c d x y z u p q r s (X.alloc o) := held3_below (below1 X o) h
theorem held3_drew {w : World} {g0 g1 g2 : Nat} {a b c d x y z u p q r s : Int} {X : World} (h : Held3 w g0 g1 g2 a b c d x y z u p q r s X) : Held3 w g0 g1 g2 a b c d x y z u p q r s X.drew := ⟨h.1, h.2.1, h.2.2.1, h.2.2.2.1, h.2.2.2.2.1, h.2.2.2.2.2.1, h.2.2.2.2.2.2.drew⟩
theorem wp_region_class {P : Program} {id : Nat} {Q : Exit → Act → World → Prop} {a : Act} {w : World} {l : List Oper} (C : World → Prop) (hm : P.follows .mixedOrders = true) (hB : Region.lexB .any l.toArray = true)
    (hC : C w.drew) (h : wpQuiet P l.toArray C (fun a' => ∀ w', C w' → Q .normal a' w') l a) : (Code.region id l.toArray true).wp P Q a w :=
  wp_region_quiet hm hB hC (by simpa using h)
set_option maxHeartbeats 4000000 in
theorem folds_walk (a b c d x y z u k : Int) (w : World) (h0 : 0 ≤ k) (h1 : k ≤ 255) (fa : Fit a) (fb : Fit b) (fc : Fit c) (fd : Fit d) (fy : Fit y) :
    Calls Try.prog 5 #[.agg #[.int .u64 a, .int .u64 b, .int .u64 c, .int .u64 d], .agg #[.int .u64 x, .int .u64 y, .int .u64 z, .int .u64 u], .int .u8 k] w fun e w' => e = .returned (.bool true) ∧ Below w.heap.size w w' := by
  go_enter Try.func5, Try.ntmps5
  go_wp2_with fail
  refine (fold_any _ _ _ _ _).mono ?_
  rintro e w1 ⟨rfl, hb1⟩
  have H0 : w1.cell? ⟨w.heap.size, 0, none⟩ = some (.int .u64 a) ∧ w1.cell? ⟨w.heap.size, 1, none⟩ = some (.int .u64 b) ∧ w1.cell? ⟨w.heap.size, 2, none⟩ = some (.int .u64 c) ∧ w1.cell? ⟨w.heap.size, 3, none⟩ = some (.int .u64 d) := by
    obtain ⟨hc, _, hz⟩ := bcell hb1
    simp only [hc w.heap.size _ (by simp; omega)]
    simp
  have H1 : w1.cell? ⟨w.heap.size + 1, 0, none⟩ = some (.int .u64 x) ∧ w1.cell? ⟨w.heap.size + 1, 1, none⟩ = some (.int .u64 y) ∧ w1.cell? ⟨w.heap.size + 1, 2, none⟩ = some (.int .u64 z) ∧ w1.cell? ⟨w.heap.size + 1, 3, none⟩ = some (.int .u64 u) := by
    obtain ⟨hc, _, hz⟩ := bcell hb1
    simp only [hc (w.heap.size + 1) _ (by simp)]
    simp [go_sem]
  have K := below_next (below2 _ _ _) hb1 (by simp; omega)
  have Z : w.heap.size + 1 < w1.heap.size := by have := hb1.size; simp at this; omega
  clear hb1
  go_wp2_with fail
  generalize hW : w1.alloc _ = W
  have HW : Held3 w w.heap.size (w.heap.size + 1) w1.heap.size a b c d x y z u a (fo b) c d W := by
    subst hW
    refine ⟨?_, ?_, ?_, by simp; omega, by simp; omega, by simp, K.alloc K.size _⟩
    · have l : w.heap.size < w1.heap.size := by omega
      simp [go_sem, l, H0]
    · simp [go_sem, Z, H1]
    · simp
  clear hW H0 H1 K
  have E1 : (fo (orr (orr 0 b) y) == orr (orr 0 (fo b)) (fo y)) = true := by rw [fo_or b y fb fy]; simp
  have E2 : (an a a == a && an b (fo b) == b && an c c == c && an d d == d) = true := by rw [an_self a fa, an_fo b fb, an_self c fc, an_self d fd]; simp
  have E2 := hid E2
  generalize hg0 : w.heap.size = g0 at *
  have n1 : g0 < g0 + 1 := by omega
  have n2 : g0 + 1 < w1.heap.size := by omega
  clear hg0
  generalize w1.heap.size = g2 at *
  generalize g0 + 1 = g1 at *
  go_region_held3 (fun w' => Held3 w g0 g1 g2 a b c d x y z u a (fo b) c d w')
    (first | assumption | exact held3_drew (by assumption) | exact held3_below (by assumption) (by assumption) | exact held3_alloc (by assumption) _)
    (first
      | (go_at_call 9; (with_reducible refine (union_newd _ _ _ _ _ _ _ _ _).mono ?_); rintro e w' ⟨rfl, hb'⟩)
      | (go_at_call 9; (with_reducible refine (union_new _ _ _ _ _ _ _ _ _).mono ?_); rintro e w' ⟨rfl, hb'⟩)
      | (go_at_call 15; refine (fold_any _ _ _ _ _).mono ?_; rintro e w' ⟨rfl, hb'⟩)
      | (go_at_call 14; refine (within_any _ _ _ _ _ _ _ _ _).mono ?_; rintro e w' ⟨rfl, hb'⟩))
  have t0 : 0 ≤ k % 26 := by omega
  have t1 : k % 26 < 26 := by omega
  clear E1 E2
  obtain ⟨F1, F2⟩ := has_fo a b c d (k % 26) t0 t1 fb
  go_wp2_with fail
  cases hP : hasW a b c d (97 + k % 26) <;> cases hQ : hasW a b c d (97 + k % 26 - 32)
  all_goals
    rw [hP, hQ] at F1 F2
    simp only [Bool.or_false, Bool.or_true] at F1 F2
    have hu : IntKind.u8.wrap (97 + k % 26 - 32) = 97 + k % 26 - 32 := by rw [IntKind.wrap_u8]; omega
    refine wp_region_class (fun w' => Held3 w g0 g1 g2 a b c d x y z u a (fo b) c d w') (by kernel_rfl) (by kernel_rfl) (held3_drew (by assumption)) ?_
    repeat
      first
        | refine BigFrame.wpQuiet_skip (by rfl) ?_
        | (refine BigFrame.wpQuiet_want (by rfl) (fun K hK => ?_)
           unfold Oper.quiet
           apply Exists.intro
           refine ⟨fun w' hw' => ?_, ?_⟩
           · unfold Oper.quietAt
             go_simp
             all_goals first
               | rfl
               | (go_at_call 16
                  refine (has_any _ _ _ _ _ _ (by omega) (by omega)).mono ?_
                  rintro e w'' ⟨he, hb'⟩
                  simp only [F1, F2, hP, hQ] at he
                  exact ⟨he, held3_below hb' hw'⟩)
               | (go_at_call 17
                  exact (awake_any _).mono fun e w'' ⟨he, hb'⟩ => ⟨he, held3_below hb' hw'⟩)
           go_simp
           refine hK _ ?_
           clear hK K)
    refine wpQuiet_nil ?_
    intro w' hw'
    go_wp2
    go_ret
    exact ⟨rfl, hw'.2.2.2.2.2.2⟩
end Go.Proofs.Ytknjgopoijkkpaa
