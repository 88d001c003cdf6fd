/- graph: the document's answer for rings told. -/
import Derived.Test.YtghfodjefjijdaaGrCl
namespace Go.Proofs.Ytghfodjefjijdaa
section
open Go Go.RowKit Go.Shelf
attribute [local go_sem ↓] Go.wp_at_zero Go.wp_at_succ
/-- Two tables in memory. -/
structure TwoT (w W : World) (B ob ob2 n : Nat) (rb : Nat → Nat) (m c : Nat → Nat → Bool) : Prop where
  tab : TbAt W B ob rb n n m
  clo : ∃ rb2, TbAt W w.heap.size ob2 rb2 n n c
  be : Below w.heap.size w W
/-- What Ring answers. -/
structure RingTo (w w' : World) (m : Nat → Nat → Bool) (a : Nat) (v : Value) : Prop where
  ex : ∃ r : Bool, v = .bool r ∧ (r = true ↔ ∃ x, Rch (Em m) a x ∧ Em m x a)
  be : Below w.heap.size w w'
set_option maxRecDepth 100000 in
set_option maxHeartbeats 8000000 in
theorem grring_any {w : World} {B ob n a : Nat} {rb : Nat → Nat} {m : Nat → Nat → Bool} (ht : TbAt w B ob rb n n m) (ha : a < n) (hn : n ≤ 100) (hbd : ∀ i j, m i j = true → i < n ∧ j < n) :
    Calls Try.prog 13 #[.slice (some ⟨ob, 0, none⟩) n n, .int .i64 (a : Int)] w fun e w' => ∃ v, e = .returned v ∧ RingTo w w' m a v := by
  have HC := qhid (gclos_any ht hn hbd)
  have HT := qhid ht
  have HBD := qhid hbd
  clear ht hbd
  go_enter Try.func13, Try.ntmps13
  go_wp2_with fail
  refine HC.out.mono ?_
  rintro e w1 ⟨ob2, c, rfl, ⟨htab, hbe⟩, hc⟩
  have HM : Hid (TwoT w w1 B ob ob2 n rb m c) := qhid ⟨HT.out.up hbe, htab, hbe⟩
  have HCC := qhid hc
  clear htab hbe hc HC HT
  go_wp2_with fail
  go_loopw [6] (fun kv wr => ∃ k : Nat, k ≤ n ∧ kv = .int .i64 (k : Int) ∧ Hid (TwoT w wr B ob ob2 n rb m c) ∧ Hid (∀ j, j < k → ¬ (m a j = true ∧ c j a = true))) (fun kv _ => n - (intOf kv).toNat)
  case atStart => exact ⟨0, Nat.zero_le _, rfl, HM, qhid (fun j h => absurd h (Nat.not_lt_zero _))⟩
  case round =>
    obtain ⟨k, hk, rfl, HW, HNO⟩ := hrel
    clear HM
    by_cases hlt : k < n
    · obtain ⟨rb2, h2⟩ := HW.out.clo
      have htm := HW.out.tab
      have c1 : wr.cell? ⟨ob, a, none⟩ = some (.slice (some ⟨rb a, 0, none⟩) n n) := by rw [htm.o.cell ha, if_pos ha]
      have c2 := (htm.r a ha).cell hlt
      have c3 : wr.cell? ⟨ob2, k, none⟩ = some (.slice (some ⟨rb2 k, 0, none⟩) n n) := by rw [h2.o.cell hlt, if_pos hlt]
      have c4 := (h2.r k hlt).cell ha
      have HST := qhid (fun (h : ¬ (m a k = true ∧ c k a = true)) => (show ∀ j, j < k + 1 → ¬ (m a j = true ∧ c j a = true) from fun j hj => by
        rcases Nat.lt_succ_iff_lt_or_eq.1 hj with hj | rfl
        · exact HNO.out j hj
        · exact h))
      have HYES := qhid (fun (h1 : m a k = true) (h2 : c k a = true) => (show ∃ x, Rch (Em m) a x ∧ Em m x a from by
        have h3 := (HCC.out k a hlt ha).1 h2
        cases h3 with
        | refl => exact ⟨a, .refl _, h1⟩
        | tail h4 h5 => exact ⟨_, (Rch.one (show Em m a k from h1)).trans h4, h5⟩))
      obtain ⟨t1, ht1⟩ : ∃ t, t = m a k := ⟨_, rfl⟩
      obtain ⟨t2, ht2⟩ : ∃ t, t = c k a := ⟨_, rfl⟩
      rw [← ht1] at c2 HST HYES
      rw [← ht2] at c4 HST HYES
      clear ht1 ht2 htm h2
      cases t1 with
      | false =>
        go_wp2_with fail
        go_roundw
        case rel => exact ⟨k + 1, hlt, rfl, HW, qhid (HST.out (fun h => by cases h.1))⟩
        case measure => simp [intOf]; omega
      | true =>
        cases t2 with
        | false =>
          go_wp2_with fail
          go_roundw
          case rel => exact ⟨k + 1, hlt, rfl, HW, qhid (HST.out (fun h => by cases h.2))⟩
          case measure => simp [intOf]; omega
        | true =>
          go_wp2_with fail
          go_ret
          exact ⟨_, rfl, ⟨⟨true, rfl, ⟨fun _ => HYES.out (by simp) (by simp), fun _ => rfl⟩⟩, HW.out.be⟩⟩
    · obtain rfl : k = n := by omega
      go_wp2_with fail
      go_ret
      refine ⟨_, rfl, ⟨⟨false, rfl, ⟨fun h => (by cases h), fun ⟨x, h1, h2⟩ => ?_⟩⟩, HW.out.be⟩⟩
      exfalso
      rcases h1.cases_head with rfl | ⟨y, h3, h4⟩
      · exact HNO.out a ha ⟨h2, (HCC.out a a ha ha).2 (.refl _)⟩
      · exact HNO.out y (HBD.out a y h3).2 ⟨h3, (HCC.out y a (HBD.out a y h3).2 ha).2 (.tail h4 h2)⟩
end
end Go.Proofs.Ytghfodjefjijdaa
