/- A list of numbers that a call made and grew; are two bytes in one block? -/
import Derived.Test.YtkjbecdngjdkhaaDoorBlkH
import Derived.Test.YtkjbecdngjdkhaaDoorBlkN
namespace Go.Proofs.YtkjbecdngjdkhaaDoor
open Go Go.RowKit
attribute [local go_sem ↓] Go.wp_at_zero Go.wp_at_succ
attribute [local go_sem] eq4
def nats (l : List Nat) : List Value := l.map fun (n : Nat) => Value.int .i64 (n : Int)
theorem nats_snoc (l : List Nat) (n : Nat) : nats (l ++ [n]) = nats l ++ [.int .i64 (n : Int)] := by simp [nats]
theorem nats_len (l : List Nat) : (nats l).length = l.length := by simp [nats]
/-- A slice of numbers: where each lies. -/
def NatsAt (w : World) (v : Value) (l : List Nat) : Prop :=
  ∃ p cap, v = .slice p l.length cap ∧ ∀ (j n : Nat), l[j]? = some n → ∃ g, p = some ⟨g, 0, none⟩ ∧ g < w.heap.size ∧ w.cell? ⟨g, j, none⟩ = some (.int .i64 (n : Int))
theorem NatsAt.below {B : Nat} {w w' : World} {v : Value} {l : List Nat} (h : NatsAt w v l) (hb : Below B w w') (hB : w.heap.size ≤ B) : NatsAt w' v l := by
  obtain ⟨p, cap, rfl, hc⟩ := h
  refine ⟨p, cap, rfl, fun j n hj => ?_⟩
  obtain ⟨g, e, hg, hcell⟩ := hc j n hj
  exact ⟨g, e, Nat.lt_of_lt_of_le hg hb.size, (hb.cell (p := ⟨g, j, none⟩) (by show g < B; omega)).trans hcell⟩
theorem nats_of_row {w : World} {B n : Nat} {v : Value} {l : List Nat} (hn : l.length = n) (h : w.ownsRow B 3 1 v n (nats l)) : NatsAt w v l := by
  subst hn
  rcases h.2 with ⟨rfl, h2⟩ | ⟨g, cap, cur, rfl, hb, hh, hcap, hmax, hcs, htake⟩
  · refine ⟨none, 0, by rw [h2], fun j n hj => ?_⟩
    rw [List.length_eq_zero_iff.1 h2] at hj; simp at hj
  · refine ⟨_, cap, rfl, fun j n hj => ⟨g, rfl, (Array.getElem?_eq_some_iff.1 hh).1, ?_⟩⟩
    have hox : (nats l)[j]? = some (.int .i64 (n : Int)) := by unfold nats; rw [List.getElem?_map, hj]; rfl
    rw [Joins.cell_of_block hh, ← Array.getElem?_toList]
    rw [← htake] at hox
    obtain ⟨hl, _⟩ := List.getElem?_eq_some_iff.1 hox
    rw [List.getElem?_take_of_lt (by rw [List.length_take] at hl; omega)] at hox
    exact hox
theorem Tryd.infoInt : (Tryd.prog.info? 3).map (fun i => (i.zero, i.size, i.bytes)) = some (some (.int .i64 0), 1, 8) := by kernel_rfl
theorem one_int (n : Int) : ∀ u ∈ [Value.int .i64 n], u.oneCell' = true := by
  intro u hu
  obtain rfl : u = .int .i64 n := by simpa using hu
  rfl
theorem W4.hasE (t : W4) (n : Nat) (hn : n < 256) (hf : t.fit) (w : World) :
    Calls Tryd.prog 39 #[.agg #[.int .u64 t.a, .int .u64 t.b, .int .u64 t.c, .int .u64 t.d], .int .i64 (n : Int)] w fun e w' => e = .returned (.bool (t.mem n)) ∧ Below w.heap.size w w' :=
  refhas_any t.a t.b t.c t.d n w hn hf.1 hf.2.1 hf.2.2.1 hf.2.2.2
theorem allE_take (L : List W4) (a b k : Nat) (t : W4) (h : L[k]? = some t) : allE (L.take (k + 1)) a b = (allE (L.take k) a b && (t.mem a == t.mem b)) := by
  unfold allE
  rw [List.take_add_one, h, List.all_append]; simp
theorem allE_no {L : List W4} {a b k : Nat} {t : W4} (h : L[k]? = some t) (hne : t.mem a ≠ t.mem b) : allE L a b = false := by
  rw [← Bool.not_eq_true, allE_iff]
  exact fun hh => hne (hh t (List.mem_of_getElem? h))
/-- A set lies there, in a world that is the old one as far as that goes. -/
abbrev HeldT (w : World) (g o : Nat) (t : W4) (w' : World) : Prop :=
  (w'.cell? ⟨g, o, none⟩ = some (.int .u64 t.a) ∧ w'.cell? ⟨g, o + 1, none⟩ = some (.int .u64 t.b) ∧ w'.cell? ⟨g, o + 2, none⟩ = some (.int .u64 t.c) ∧ w'.cell? ⟨g, o + 3, none⟩ = some (.int .u64 t.d)) ∧ g < w'.heap.size ∧ Below w.heap.size w w'
theorem heldT_below {w : World} {g o : Nat} {t : W4} {X Y : World} (hb : Below X.heap.size X Y) (h : HeldT w g o t X) : HeldT w g o t Y :=
  ⟨SetAt.below (s := t) h.1 hb h.2.1, Nat.lt_of_lt_of_le h.2.1 hb.size, h.2.2.trans (hb.mono h.2.2.size)⟩
theorem heldT_drew {w : World} {g o : Nat} {t : W4} {X : World} (h : HeldT w g o t X) : HeldT w g o t X.drew := ⟨h.1, h.2.1, h.2.2.drew⟩
set_option maxHeartbeats 4000000 in
theorem together_any (p : Option Addr) (n cap : Nat) (L : List W4) (a b : Nat) (ha : a < 256) (hb : b < 256) (w : World) (hR : SetsRow w p n L) (hn : n ≤ 1000) :
    Calls Tryd.prog 13 #[.slice p n cap, .int .i64 (a : Int), .int .i64 (b : Int)] w fun e w' => e = .returned (.bool (allE L a b)) ∧ Below w.heap.size w w' := by
  have HR := hid hR
  clear hR
  go_enter Tryd.func13, Tryd.ntmps13
  go_wp2_with fail
  go_loopw [7] (fun i wr => ∃ k : Nat, k ≤ n ∧ i = .int .i64 k ∧ Hid (allE (L.take k) a b = true) ∧ Hid (Below w.heap.size w wr)) (fun i _ => n - (intOf i).toNat)
  case atStart => exact ⟨0, by omega, rfl, hid rfl, hid (Below.refl _ _)⟩
  case round =>
    obtain ⟨k, hk, rfl, HA, HB⟩ := hrel
    by_cases hlk : k < n
    · obtain ⟨t, ht⟩ : ∃ t, L[k]? = some t := ⟨_, List.getElem?_eq_getElem (by rw [HR.out.len]; exact hlk)⟩
      obtain ⟨g0, o, rfl, hg0, hset⟩ := HR.out.row k t ht
      have hg0r : g0 < wr.heap.size := Nat.lt_of_lt_of_le hg0 HB.out.size
      have H0 : HeldT w g0 (o + k * 4) t wr := ⟨hset.below HB.out hg0, hg0r, HB.out⟩
      have HX := hid (fun W => W4.hasE t a ha (HR.out.fit t (List.mem_of_getElem? ht)) W)
      have HY := hid (fun W => W4.hasE t b hb (HR.out.fit t (List.mem_of_getElem? ht)) W)
      have HTK := hid (allE_take L a b k t ht)
      have HNO : Hid (t.mem a ≠ t.mem b → allE L a b = false) := hid (allE_no ht)
      clear hset ht
      generalize t.mem a = x at *
      generalize t.mem b = y at *
      by_cases hxy : x = y
      · subst hxy
        have HK : Hid (allE (L.take (k + 1)) a b = true) := hid (by rw [HTK.out, HA.out]; simp)
        clear HTK HNO
        cases x
        all_goals
          go_wp2_with fail
          go_region_held3 (fun w' => HeldT w g0 (o + k * 4) t w')
            (first | assumption | exact heldT_drew (by assumption) | exact heldT_below (by assumption) (by assumption))
            (first
              | (go_at_call 39; (with_reducible refine (HX.out _).mono ?_); rintro e w1 ⟨rfl, hb1⟩)
              | (go_at_call 39; (with_reducible refine (HY.out _).mono ?_); rintro e w2 ⟨rfl, hb2⟩))
          have H2 : HeldT w g0 (o + k * 4) t w2 := by assumption
          have HB2 := hid H2.2.2
          clear H2
          go_wp2_with fail
          exact ⟨⟨k + 1, by omega, by go_num, HK, HB2⟩, by simp [intOf]; omega⟩
      · have HF := hid (HNO.out hxy)
        clear HTK HNO
        cases x <;> cases y
        case false.false => exact absurd rfl hxy
        case true.true => exact absurd rfl hxy
        all_goals
          go_wp2_with fail
          go_region_held3 (fun w' => HeldT w g0 (o + k * 4) t w')
            (first | assumption | exact heldT_drew (by assumption) | exact heldT_below (by assumption) (by assumption))
            (first
              | (go_at_call 39; (with_reducible refine (HX.out _).mono ?_); rintro e w1 ⟨rfl, hb1⟩)
              | (go_at_call 39; (with_reducible refine (HY.out _).mono ?_); rintro e w2 ⟨rfl, hb2⟩))
          have H2 : HeldT w g0 (o + k * 4) t w2 := by assumption
          have HB2 := hid H2.2.2
          clear H2
          go_wp2_with fail
          go_ret
          exact ⟨by rw [HF.out]; rfl, HB2.out⟩
    · obtain rfl : k = n := by omega
      have HE : Hid (allE L a b = true) := hid (by have h := HA.out; rw [← HR.out.len, List.take_length] at h; exact h)
      go_wp2_with fail
      go_ret
      exact ⟨by rw [HE.out]; rfl, HB.out⟩
end Go.Proofs.YtkjbecdngjdkhaaDoor
