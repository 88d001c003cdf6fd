/- Two lists held against one another; the law BlocksIn. -/
import Derived.Test.YtkjbecdngjdkhaaDoorBlkS
import Derived.Test.YtkjbecdngjdkhaaDoorBlkO
namespace Go.Proofs.YtkjbecdngjdkhaaDoor
open Go Go.RowKit
attribute [local go_sem ↓] Go.wp_at_zero Go.wp_at_succ
attribute [local go_sem] eq4
/-- A slice of numbers, from wherever on. -/
def NatsIn (w : World) (p : Option Addr) (l : List Nat) : Prop := ∀ (j n : Nat), l[j]? = some n → ∃ g o, p = some ⟨g, o, none⟩ ∧ g < w.heap.size ∧ w.cell? ⟨g, o + j, none⟩ = some (.int .i64 (n : Int))
theorem NatsAt.in {w : World} {v : Value} {l : List Nat} (h : NatsAt w v l) : ∃ p cap, v = .slice p l.length cap ∧ NatsIn w p l := by
  obtain ⟨p, cap, rfl, hc⟩ := h
  refine ⟨p, cap, rfl, fun j n hj => ?_⟩
  obtain ⟨g, e, hg, hcell⟩ := hc j n hj
  exact ⟨g, 0, e, hg, by rw [Nat.zero_add]; exact hcell⟩
theorem NatsIn.below {B : Nat} {w w' : World} {p : Option Addr} {l : List Nat} (h : NatsIn w p l) (hb : Below B w w') (hB : w.heap.size ≤ B) : NatsIn w' p l := fun j n hj => by
  obtain ⟨g, o, e, hg, hcell⟩ := h j n hj
  exact ⟨g, o, e, Nat.lt_of_lt_of_le hg hb.size, (hb.cell (p := ⟨g, o + j, none⟩) (by show g < B; omega)).trans hcell⟩
theorem NatsIn.drewN {w : World} {p : Option Addr} {l : List Nat} (h : NatsIn w p l) (n : Nat) : NatsIn (w.drewN n) p l := h
theorem same_ne {l m : List Nat} {k a b : Nat} (ha : l[k]? = some a) (hb : m[k]? = some b) (hne : a ≠ b) : decide (l = m) = false := decide_eq_false fun e => by
  subst e; rw [ha] at hb; exact hne (Option.some.inj hb)
theorem same_all {l m : List Nat} (hl : l.length = m.length) (h : ∀ j : Nat, j < l.length → l[j]? = m[j]?) : decide (l = m) = true := decide_eq_true (List.ext_getElem? fun j => by
  by_cases hj : j < l.length
  · exact h j hj
  · rw [List.getElem?_eq_none (by omega), List.getElem?_eq_none (by omega)])
set_option maxRecDepth 100000 in
set_option maxHeartbeats 2000000 in
theorem same_any (p q : Option Addr) (c c' : Nat) (l m : List Nat) (w : World) (hl : NatsIn w p l) (hm : NatsIn w q m) (h1 : l.length ≤ 1000) (h2 : m.length ≤ 1000) :
    Calls Tryd.prog 22 #[.slice p l.length c, .slice q m.length c'] w fun e w' => e = .returned (.bool (decide (l = m))) ∧ ∃ n, w' = w.drewN n := by
  have HL := hid hl
  have HM := hid hm
  clear hl hm
  by_cases hlen : l.length = m.length
  · have hne : (((l.length : Nat) : Int) != ((m.length : Nat) : Int)) = false := by rw [hlen]; simp
    have HLEN := hid hlen
    have HD : Hid (∀ d, decide (l = m) = d → Ending.returned (.bool (decide (l = m))) = .returned (.bool d)) := hid (fun d h => by rw [h])
    have HNE := hid (fun (k a b : Nat) (ha : l[k]? = some a) (hb : m[k]? = some b) (h : a ≠ b) => same_ne ha hb h)
    clear hne hlen
    have heq : Hid (l.length = m.length) := HLEN
    generalize hn : l.length = n at *
    rw [← HLEN.out]
    have HN := hid hn
    clear hn
    go_enter Tryd.func22, Tryd.ntmps22
    go_wp2_with fail
    go_loopw [5] (fun i wr => ∃ k : Nat, k ≤ n ∧ i = .int .i64 k ∧ Hid (∀ j : Nat, j < k → l[j]? = m[j]?) ∧ Hid (∃ d, wr = w.drewN d)) (fun i _ => n - (intOf i).toNat)
    case atStart => exact ⟨0, by omega, rfl, hid (fun j hj => by omega), hid ⟨0, rfl⟩⟩
    case round =>
      obtain ⟨k, hk, rfl, HS, HD2⟩ := hrel
      by_cases hlk : k < n
      · obtain ⟨a, ha⟩ : ∃ a, l[k]? = some a := ⟨_, List.getElem?_eq_getElem (by rw [HN.out]; exact hlk)⟩
        obtain ⟨b, hb⟩ : ∃ b, m[k]? = some b := ⟨_, List.getElem?_eq_getElem (by rw [← HLEN.out]; exact hlk)⟩
        obtain ⟨d, hd⟩ := HD2.out
        obtain ⟨g, o, rfl, hg, hc⟩ := HL.out k a ha
        obtain ⟨g', o', rfl, hg', hc'⟩ := HM.out k b hb
        have hcr : wr.cell? ⟨g, o + k, none⟩ = some (.int .i64 (a : Int)) := by rw [hd]; exact hc
        have hcr' : wr.cell? ⟨g', o' + k, none⟩ = some (.int .i64 (b : Int)) := by rw [hd]; exact hc'
        have HWR := hid hd
        have HA := hid ha
        have HB := hid hb
        have HF := hid (fun h : a ≠ b => HNE.out k a b ha hb h)
        have HK : Hid (a = b → ∀ j : Nat, j < k + 1 → l[j]? = m[j]?) := hid (fun e j hj => by
          by_cases hjk : j = k
          · subst hjk; rw [ha, hb, e]
          · exact HS.out j (by omega))
        clear hd hc hc' ha hb
        by_cases hab : a = b
        · have HK2 := hid (HK.out hab)
          subst hab
          go_wp2_with fail
          go_quiet (fail)
          have HW2 : Hid (∃ d, wr.drewN nq = w.drewN d) := hid ⟨d + nq, by rw [HWR.out, World.drewN_drewN]⟩
          go_wp2_with fail
          exact ⟨⟨k + 1, by omega, by go_num, HK2, HW2⟩, by simp [intOf]; omega⟩
        · have HF2 := hid (HF.out hab)
          have e1 : ((a : Int) == (b : Int)) = false := by simp; omega
          have e2 : ((a : Int) != (b : Int)) = true := by simp; omega
          clear HK HF
          go_wp2_with fail
          go_quiet (fail)
          have HW2 : Hid (∃ d, wr.drewN nq = w.drewN d) := hid ⟨d + nq, by rw [HWR.out, World.drewN_drewN]⟩
          go_wp2_with fail
          go_ret
          exact ⟨by rw [HF2.out]; rfl, HW2.out⟩
      · obtain rfl : k = n := by omega
        have HT : Hid (decide (l = m) = true) := hid (same_all (HN.out.trans HLEN.out) (fun j hj => HS.out j (by rw [HN.out] at hj; exact hj)))
        go_wp2_with fail
        go_ret
        exact ⟨by rw [HT.out]; rfl, HD2.out⟩
  · have e1 : (((l.length : Nat) : Int) == ((m.length : Nat) : Int)) = false := by simp; omega
    have e2 : (((l.length : Nat) : Int) != ((m.length : Nat) : Int)) = true := by simp; omega
    have HF : Hid (decide (l = m) = false) := hid (decide_eq_false fun e => hlen (by rw [e]))
    clear hlen
    go_enter Tryd.func22, Tryd.ntmps22
    go_wp2_with fail
    go_ret
    exact ⟨by rw [HF.out]; rfl, 0, rfl⟩
theorem in_any {w : World} {g : Nat} {E : Nat → Nat → Bool} {ls : List W4} (s : W4) (h : BlkIs w g E ls) :
    Calls Tryd.prog 20 #[.pointer (some ⟨g, 0, none⟩), .agg #[.int .u64 s.a, .int .u64 s.b, .int .u64 s.c, .int .u64 s.d]] w fun e w' => ∃ v, e = .returned (.tuple #[v, .bool (!ls.any (cuts s))]) ∧ NatsAt w' v (if ls.any (cuts s) then [] else inIdx ls s ls.length) ∧ Below w.heap.size w w' := by
  cases hc : ls.any (cuts s)
  · exact (in_uncut g _ ls s w h.blk hc).mono fun e w' ⟨v, he, hv, hb⟩ => ⟨v, he, hv, hb⟩
  · exact (in_cut g _ ls s w h.blk hc).mono fun e w' ⟨he, hb⟩ => ⟨_, he, ⟨none, 0, rfl, fun j n hj => by simp at hj⟩, hb⟩
end Go.Proofs.YtkjbecdngjdkhaaDoor
