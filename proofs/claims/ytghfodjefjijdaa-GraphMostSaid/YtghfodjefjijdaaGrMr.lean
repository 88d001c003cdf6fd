/- graph: the document's own answer for Most told. -/
import Derived.Test.YtghfodjefjijdaaGrMo
import Derived.Test.YtghfodjefjijdaaGrPa
namespace Go.Proofs.Ytghfodjefjijdaa
section
open Go Go.RowKit Go.Shelf
attribute [local go_sem ↓] Go.wp_at_zero Go.wp_at_succ
/-- The marks, as arrows. -/
theorem mOf_iff {n : Nat} {xs ys : Nat → Int} : ∀ {k : Nat}, allIn n xs ys k = true → ∀ a b : Nat, mOf n xs ys k a b = true ↔ ∃ j, j < k ∧ xs j = (a : Int) ∧ ys j = (b : Int)
  | 0, _, a, b => ⟨fun h => (by cases h), fun ⟨j, h, _⟩ => absurd h (Nat.not_lt_zero _)⟩
  | k + 1, h, a, b => by
    rw [allIn_succ, Bool.and_eq_true] at h
    obtain ⟨h1, h2⟩ := h
    rw [mOf_succ, if_pos h2]
    unfold inB at h2
    simp at h2
    have ih := mOf_iff h1 a b
    unfold upd2 upd
    by_cases ha : a = (xs k).toNat
    · rw [if_pos ha]
      by_cases hb : b = (ys k).toNat
      · rw [if_pos hb]
        exact ⟨fun _ => ⟨k, Nat.lt_succ_self _, by omega, by omega⟩, fun _ => rfl⟩
      · rw [if_neg hb, ← ha, ih]
        constructor
        · rintro ⟨j, hj, e⟩
          exact ⟨j, Nat.lt_succ_of_lt hj, e⟩
        · rintro ⟨j, hj, e1, e2⟩
          rcases Nat.lt_succ_iff_lt_or_eq.1 hj with hj | rfl
          · exact ⟨j, hj, e1, e2⟩
          · omega
    · rw [if_neg ha, ih]
      constructor
      · rintro ⟨j, hj, e⟩
        exact ⟨j, Nat.lt_succ_of_lt hj, e⟩
      · rintro ⟨j, hj, e1, e2⟩
        rcases Nat.lt_succ_iff_lt_or_eq.1 hj with hj | rfl
        · exact ⟨j, hj, e1, e2⟩
        · omega
theorem allIn_at {n : Nat} {xs ys : Nat → Int} {k : Nat} (h : allIn n xs ys k = true) {j : Nat} (hj : j < k) : ∃ a b : Nat, xs j = (a : Int) ∧ ys j = (b : Int) ∧ a < n ∧ b < n := by
  have h1 : allIn n xs ys (j + 1) = true := by
    cases e : allIn n xs ys (j + 1) with
    | true => rfl
    | false => rw [allIn_false hj e] at h; cases h
  rw [allIn_succ, Bool.and_eq_true] at h1
  have h2 := h1.2
  unfold inB at h2
  simp at h2
  exact ⟨(xs j).toNat, (ys j).toNat, by omega, by omega, by omega, by omega⟩
/-- The numbers in memory. -/
structure RmM (w W : World) (bb n : Nat) (b : Nat → Nat) : Prop where
  v : Vec W bb 3 n (fun i => .int .i64 (b i : Int))
  lb : w.heap.size ≤ bb
  be : Below w.heap.size w W
theorem RmM.up {w W W' : World} {bb n : Nat} {b : Nat → Nat} (h : RmM w W bb n b) (hb : Below W.heap.size W W') : RmM w W' bb n b := ⟨heap_up h.v hb, h.lb, h.be.trans (hb.mono h.be.size)⟩
theorem RmM.put {w W : World} {bb n : Nat} {b : Nat → Nat} (h : RmM w W bb n b) (i x : Nat) : RmM w (W.setCell ⟨bb, i, none⟩ (.int .i64 (x : Int))) bb n (upd b i x) :=
  ⟨(h.v.set i _).trans (by
    rw [show vl n (upd (fun j => Value.int .i64 (b j : Int)) i (.int .i64 (x : Int))) = vl n (fun j => Value.int .i64 ((upd b i x j : Nat) : Int)) from vl_congr (fun j _ => by
      by_cases e : j = i
      · rw [e, upd_same, upd_same]
      · rw [upd_other _ _ e, upd_other _ _ e])]), h.lb, h.be.setCell (p := ⟨bb, i, none⟩) h.lb _⟩
structure RmJ (w W : World) (bb n : Nat) (A M C D : Nat → Nat → Prop) (r : Nat) (more : Bool) (top : Nat) : Prop where
  ex : ∃ b, RmM w W bb n b ∧ RmI A M n C D r more top b
/-- Arrows looked at. -/
def CA (m : Nat → Nat → Bool) (i k : Nat) : Nat → Nat → Prop := fun u v => m u v = true ∧ (u < i ∨ u = i ∧ v < k)
/-- Marks looked at. -/
def DM (xs ys : Nat → Int) (j : Nat) : Nat → Nat → Prop := fun u v => ∃ j', j' < j ∧ xs j' = (u : Int) ∧ ys j' = (v : Int)
structure RMTo (w w' : World) (A M : Nat → Nat → Prop) (n : Nat) (e : Ending) : Prop where
  ex : ∃ r, e = .returned (.int .i64 r) ∧ RMostTo A M n r
  be : Below w.heap.size w w'
set_option maxRecDepth 100000 in
set_option maxHeartbeats 16000000 in
theorem grmost_any {w : World} {A ob n : Nat} {rb : Nat → Nat} {m : Nat → Nat → Bool} (ht : TbAt w A ob rb n n m) (hn : n ≤ 100) (hbd : ∀ i j, m i j = true → i < n ∧ j < n) (k c : Nat) (p : Option Addr) (xs ys : Nat → Int) (hp : PairsAt w p k xs ys) (hk : k ≤ 1000) (hall : allIn n xs ys k = true) :
    Calls Try.prog 16 #[.slice (some ⟨ob, 0, none⟩) n n, .slice p k c] w fun e w' => RMTo w w' (Em m) (Em (mOf n xs ys k)) n e := by
  have HT := qhid ht
  have HP := qhid hp
  have HALL := qhid hall
  have HBD := qhid hbd
  have HMI := qhid (mOf_iff hall)
  obtain ⟨M, hM⟩ : ∃ M, M = Em (mOf n xs ys k) := ⟨_, rfl⟩
  rw [← hM]
  have HM := qhid hM
  clear ht hp hall hbd hM
  obtain ⟨N, hNe⟩ : ∃ N, N = (n + 1) * (n + 2) := ⟨_, rfl⟩
  have hmul : ((n : Int) + 1) * ((n : Int) + 2) = (N : Int) := by rw [hNe]; simp
  have hN : N ≤ 10302 := by rw [hNe]; exact Nat.le_trans (Nat.mul_le_mul (show n + 1 ≤ 101 by omega) (show n + 2 ≤ 102 by omega)) (by decide)
  have HNE : Hid (n * (n + 1) < N + 1) := qhid (by rw [hNe, Nat.mul_comm n]; exact Nat.lt_succ_of_le (Nat.mul_le_mul_left _ (by omega)))
  clear hNe
  have hmk := mk_vec n (by omega) w
  go_enter Try.func16, Try.ntmps16
  go_wp2_with fail
  clear hmk
  have HJ0 : Hid (RmJ w (w.alloc (.cells (vl n fun _ => .int .i64 0) 3)) w.heap.size n (Em m) M No2 No2 0 false (n + 1)) := qhid ⟨fun _ => 0, ⟨heap_new _ _, Nat.le_refl _, below1 _ _⟩, RmI.start.pass (fun _ _ _ h => h.elim) (fun _ _ _ h => h.elim) (Nat.zero_le _)⟩
  obtain ⟨W1, hW1⟩ : ∃ X, X = w.alloc (.cells (vl n fun _ => .int .i64 0) 3) := ⟨_, rfl⟩
  obtain ⟨bb, hbb⟩ : ∃ b, b = w.heap.size := ⟨_, rfl⟩
  rw [← hW1, ← hbb] at HJ0
  rw [← hW1, ← hbb]
  clear hW1 hbb
  go_loopw [7] (fun rv wr => ∃ r : Nat, r ≤ N + 1 ∧ rv = .int .i64 (r : Int) ∧ Hid (RmJ w wr bb n (Em m) M No2 No2 r false (n + 1))) (fun rv _ => N + 1 - (intOf rv).toNat)
  case atStart => exact ⟨0, Nat.zero_le _, rfl, HJ0⟩
  case round =>
    obtain ⟨r, hr, rfl, HJ⟩ := hrel
    clear HJ0
    have hrN : r ≤ N := by
      obtain ⟨b, _, hI⟩ := HJ.out.ex
      have := hI.end_
      have := HNE.out
      omega
    have HJA : Hid (RmJ w wr bb n (Em m) M (CA m 0 0) No2 r false (n + 1)) := qhid (by
      obtain ⟨b, h1, h2⟩ := HJ.out.ex
      exact ⟨b, h1, h2.pass (fun _ u v h => by rcases h.2 with h | h <;> omega) (fun _ _ _ h => h.elim) (Nat.le_refl _)⟩)
    clear HJ
    go_wp2_with fail
    go_loopw [9, 8] (fun iv mv wr => ∃ (i : Nat) (mr : Bool), i ≤ n ∧ iv = .int .i64 (i : Int) ∧ mv = .bool mr ∧ Hid (RmJ w wr bb n (Em m) M (CA m i 0) No2 r mr (n + 1))) (fun iv _ _ => n - (intOf iv).toNat)
    case atStart => exact ⟨0, false, Nat.zero_le _, rfl, rfl, HJA⟩
    case round =>
      obtain ⟨i, mr, hi, rfl, rfl, HJ⟩ := hrel
      clear HJA
      by_cases hil : i < n
      · go_wp2_with fail
        go_loopw [10, 8] (fun kv mv wr => ∃ (j : Nat) (mr : Bool), j ≤ n ∧ kv = .int .i64 (j : Int) ∧ mv = .bool mr ∧ Hid (RmJ w wr bb n (Em m) M (CA m i j) No2 r mr (n + 1))) (fun kv _ _ => n - (intOf kv).toNat)
        case atStart => exact ⟨0, mr, Nat.zero_le _, rfl, rfl, HJ⟩
        case round =>
          obtain ⟨j, mr2, hj, rfl, rfl, HK⟩ := hrel
          clear HJ
          by_cases hjl : j < n
          · obtain ⟨b, hM, hI⟩ := HK.out.ex
            have htm := HT.out.up (show Below w.heap.size w wr from hM.be)
            have ct : wr.cell? ⟨ob, i, none⟩ = some (.slice (some ⟨rb i, 0, none⟩) n n) := by rw [htm.o.cell hil, if_pos hil]
            have cm := (htm.r i hil).cell hjl
            have ci := hM.v.cell hil
            have cj := hM.v.cell hjl
            have fi : ∀ q, (wr.drewN q).frozen? ⟨bb, i, none⟩ = false := fun q => (hM.up (below_drewN _ q)).v.unfrozen i
            have l1 := hI.top i hil
            have l2 := hI.top j hjl
            have HMQ : Hid (∀ q, RmM w (wr.drewN q) bb n b) := qhid (fun q => hM.up (below_drewN _ q))
            have HI := qhid hI
            obtain ⟨x1, hx1⟩ : ∃ x, x = b i := ⟨_, rfl⟩
            obtain ⟨x2, hx2⟩ : ∃ x, x = b j := ⟨_, rfl⟩
            rw [← hx1] at ci l1
            rw [← hx2] at cj l2
            have HX1 := qhid hx1
            have HX2 := qhid hx2
            obtain ⟨mm, hmm⟩ : ∃ t, t = m i j := ⟨_, rfl⟩
            rw [← hmm] at cm
            have HMM := qhid hmm
            have cj2 : ∀ q, (wr.drewN q).cell? ⟨bb, j, none⟩ = some (.int .i64 (x2 : Int)) := fun q => by rw [hx2]; exact (HMQ.out q).v.cell hjl
            have ci2 : ∀ q, (wr.drewN q).cell? ⟨bb, i, none⟩ = some (.int .i64 (x1 : Int)) := fun q => by rw [hx1]; exact (HMQ.out q).v.cell hil
            clear hx1 hx2 hmm htm hM hI HK
            cases mm with
            | false =>
              as_aux_lemma =>
                go_upto_region 13 with fail
                go_quiet (fail)
                go_wp2_with fail
                go_roundw
                case rel => exact ⟨j + 1, mr2, hjl, rfl, rfl, qhid ⟨b, HMQ.out _, HI.out.pass (fun _ u v h => (by
                  rcases h with ⟨h0, h1 | ⟨h1, h2⟩⟩
                  · exact .inl ⟨h0, .inl h1⟩
                  · rcases Nat.lt_succ_iff_lt_or_eq.1 h2 with h3 | h3
                    · exact .inl ⟨h0, .inr ⟨h1, h3⟩⟩
                    · rw [h1, h3, ← HMM.out] at h0
                      cases h0)) (fun _ _ _ h => h.elim) (Nat.le_refl _)⟩⟩
                case measure => simp [intOf]; omega
            | true =>
              by_cases hgt : x1 < x2
              · have hd1 : decide ((x1 : Int) < (x2 : Int)) = true := decide_eq_true (by omega)
                as_aux_lemma =>
                  go_upto_region 13 with fail
                  go_quiet (fail)
                  go_wp2_with fail
                  go_roundw
                  case rel => exact ⟨j + 1, true, hjl, rfl, rfl, qhid ⟨upd b i (b j), by rw [← HX2.out]; exact (HMQ.out _).put i x2, HI.out.arrow hil hjl HMM.out.symm (by rw [← HX1.out, ← HX2.out]; exact hgt)⟩⟩
                  case measure => simp [intOf]; omega
              · have hd1 : decide ((x1 : Int) < (x2 : Int)) = false := decide_eq_false (by omega)
                as_aux_lemma =>
                  go_upto_region 13 with fail
                  go_quiet (fail)
                  go_wp2_with fail
                  go_roundw
                  case rel => exact ⟨j + 1, mr2, hjl, rfl, rfl, qhid ⟨b, HMQ.out _, HI.out.pass (fun _ u v h => (by
                    rcases h with ⟨h0, h1 | ⟨h1, h2⟩⟩
                    · exact .inl ⟨h0, .inl h1⟩
                    · rcases Nat.lt_succ_iff_lt_or_eq.1 h2 with h3 | h3
                      · exact .inl ⟨h0, .inr ⟨h1, h3⟩⟩
                      · rw [h1, h3, ← HX1.out, ← HX2.out]
                        exact .inr (by omega))) (fun _ _ _ h => h.elim) (Nat.le_refl _)⟩⟩
                  case measure => simp [intOf]; omega
          · obtain rfl : j = n := by omega
            have HN1 : Hid (RmJ w wr bb j (Em m) M (CA m (i + 1) 0) No2 r mr2 (j + 1)) := qhid (by
              obtain ⟨b, h1, h2⟩ := HK.out.ex
              exact ⟨b, h1, h2.pass (fun _ u v h => .inl ⟨h.1, by
                have := (HBD.out u v h.1).2
                rcases h.2 with h3 | h3 <;> omega⟩) (fun _ _ _ h => h.elim) (Nat.le_refl _)⟩)
            clear HK
            go_wp2_with fail
            go_roundw
            case rel => exact ⟨i + 1, mr2, hil, rfl, rfl, HN1⟩
            case measure => simp [intOf]; omega
      · obtain rfl : n = i := by omega
        have HJC : Hid (RmJ w wr bb n (Em m) M (Em m) (DM xs ys 0) r mr (n + 1 + 0)) := qhid (by
          obtain ⟨b, h1, h2⟩ := HJ.out.ex
          exact ⟨b, h1, h2.pass (fun _ u v h => .inl ⟨h, .inl (HBD.out u v h).1⟩) (fun _ u v h => by
            obtain ⟨j, hj, _⟩ := h
            omega) (Nat.le_refl _)⟩)
        clear HJ
        go_wp2_with fail
        go_loopw [11, 8] (fun jv mv wr => ∃ (j : Nat) (mr : Bool), j ≤ k ∧ jv = .int .i64 (j : Int) ∧ mv = .bool mr ∧ Hid (RmJ w wr bb n (Em m) M (Em m) (DM xs ys j) r mr (n + 1 + j))) (fun jv _ _ => k - (intOf jv).toNat)
        case atStart => exact ⟨0, mr, Nat.zero_le _, rfl, rfl, HJC⟩
        case round =>
          obtain ⟨j, mr2, hj, rfl, rfl, HK⟩ := hrel
          clear HJC
          by_cases hjl : j < k
          · obtain ⟨b, hM, hI⟩ := HK.out.ex
            obtain ⟨lg, lo, hpe, cx, cy⟩ := HP.out.at_ hM.be hjl
            obtain ⟨a, t, ha, ht, han, htn⟩ := allIn_at HALL.out hjl
            rw [ha] at cx
            rw [ht] at cy
            subst hpe
            have HMK : Hid (M a t) := qhid (by rw [HM.out]; exact (HMI.out a t).2 ⟨j, hjl, ha, ht⟩)
            have HDM : Hid (∀ u v, DM xs ys (j + 1) u v → DM xs ys j u v ∨ u = a ∧ v = t) := qhid (fun u v h => by
              obtain ⟨j', h1, h2, h3⟩ := h
              rcases Nat.lt_succ_iff_lt_or_eq.1 h1 with h1 | rfl
              · exact .inl ⟨j', h1, h2, h3⟩
              · rw [ha] at h2
                rw [ht] at h3
                exact .inr ⟨by omega, by omega⟩)
            have HM2 := qhid (hM.up (Below.drew (Below.refl _ _)))
            have l1 := hI.top a han
            have l2 := hI.top t htn
            have HI := qhid hI
            clear hM hI ha ht HK
            go_upto_region 19 with fail
            go_region
            obtain ⟨W2, hW2⟩ : ∃ X, X = wr.drew := ⟨_, rfl⟩
            rw [← hW2] at HM2 ⊢
            clear hW2 cx cy
            have HMQ : Hid (∀ q, RmM w (W2.drewN q) bb n b) := qhid (fun q => HM2.out.up (below_drewN _ q))
            have ca := HM2.out.v.cell han
            have ct := HM2.out.v.cell htn
            have fa : ∀ q, (W2.drewN q).frozen? ⟨bb, a, none⟩ = false := fun q => (HMQ.out q).v.unfrozen a
            obtain ⟨x1, hx1⟩ : ∃ x, x = b a := ⟨_, rfl⟩
            obtain ⟨x2, hx2⟩ : ∃ x, x = b t := ⟨_, rfl⟩
            rw [← hx1] at ca l1
            rw [← hx2] at ct l2
            have HX1 := qhid hx1
            have HX2 := qhid hx2
            have ca2 : ∀ q, (W2.drewN q).cell? ⟨bb, a, none⟩ = some (.int .i64 (x1 : Int)) := fun q => by rw [hx1]; exact (HMQ.out q).v.cell han
            have ct2 : ∀ q, (W2.drewN q).cell? ⟨bb, t, none⟩ = some (.int .i64 (x2 : Int)) := fun q => by rw [hx2]; exact (HMQ.out q).v.cell htn
            clear hx1 hx2 HM2
            by_cases hgt : x1 < x2 + 1
            · have hd1 : decide ((x1 : Int) < (x2 : Int) + 1) = true := decide_eq_true (by omega)
              go_upto_region 20 with fail
              go_quiet (fail)
              go_wp2_with fail
              go_roundw
              case rel => exact ⟨j + 1, true, hjl, rfl, rfl, qhid ⟨upd b a (b t + 1), by rw [← HX2.out]; exact (HMQ.out _).put a (x2 + 1), HI.out.marked han htn HMK.out (by rw [← HX1.out, ← HX2.out]; exact hgt)⟩⟩
              case measure => simp [intOf]; omega
            · have hd1 : decide ((x1 : Int) < (x2 : Int) + 1) = false := decide_eq_false (by omega)
              go_upto_region 20 with fail
              go_quiet (fail)
              go_wp2_with fail
              go_roundw
              case rel => exact ⟨j + 1, mr2, hjl, rfl, rfl, qhid ⟨b, HMQ.out _, HI.out.pass (fun _ _ _ h => .inl h) (fun _ u v h => (by
                rcases HDM.out u v h with h1 | ⟨rfl, rfl⟩
                · exact .inl h1
                · exact .inr (by rw [← HX1.out, ← HX2.out]; omega))) (Nat.le_succ _)⟩⟩
              case measure => simp [intOf]; omega
          · obtain rfl : j = k := by omega
            obtain ⟨b, hM, hI⟩ := HK.out.ex
            have HI : Hid (RmI (Em m) M n (Em m) M r mr2 (n + 1 + j) b) := qhid (hI.pass (fun _ _ _ h => .inl h) (fun _ u v h => .inl ((HMI.out u v).1 (by rw [HM.out] at h; exact h))) (Nat.le_refl _))
            have HB := qhid hM
            clear hM hI HK
            go_wp2_with fail
            go_loopw [15, 14] (fun iv tv wr => ∃ i : Nat, i ≤ n ∧ iv = .int .i64 (i : Int) ∧ tv = .int .i64 (maxTo b i : Int) ∧ Hid (RmM w wr bb n b)) (fun iv _ _ => n - (intOf iv).toNat)
            case atStart => exact ⟨0, Nat.zero_le _, rfl, rfl, HB⟩
            case round =>
              obtain ⟨i, hi2, rfl, rfl, HW⟩ := hrel
              clear HB
              by_cases hil2 : i < n
              · have ci := HW.out.v.cell hil2
                have HMX : Hid (maxTo b (i + 1) = max (maxTo b i) (b i)) := qhid rfl
                obtain ⟨x1, hx1⟩ : ∃ x, x = maxTo b i := ⟨_, rfl⟩
                obtain ⟨x2, hx2⟩ : ∃ x, x = b i := ⟨_, rfl⟩
                rw [← hx1, ← hx2] at HMX
                rw [← hx1]
                rw [← hx2] at ci
                have hmax : max (x1 : Int) (x2 : Int) = ((max x1 x2 : Nat) : Int) := by omega
                clear hx1 hx2
                go_wp2_with fail
                go_roundw
                case rel => exact ⟨i + 1, hil2, rfl, by rw [HMX.out], HW⟩
                case measure => simp [intOf]; omega
              · obtain rfl : n = i := by omega
                have HBE := qhid HW.out.be
                have HMB : Hid (RmM w wr bb n b) := HW
                have HMA := qhid (maxTo_at b n)
                have HMG := qhid (fun u (h : u < n) => maxTo_ge (b := b) h)
                obtain ⟨t, ht⟩ : ∃ x, x = maxTo b n := ⟨_, rfl⟩
                rw [← ht] at HMA ⊢
                have HTE := qhid ht
                have htl : t ≤ 2000 := by
                  rcases HMA.out with h | ⟨u, hu, e⟩
                  · omega
                  · have := HI.out.top u hu
                    omega
                clear HW ht
                by_cases hgt : n + 1 < t
                · have hd1 : decide ((n : Int) + 1 < (t : Int)) = true := decide_eq_true (by omega)
                  go_wp2_with fail
                  go_ret
                  refine ⟨⟨-1, rfl, ⟨.inr ⟨rfl, ?_⟩⟩⟩, HBE.out⟩
                  rcases HMA.out with h | ⟨u, hu, e⟩
                  · omega
                  · exact ⟨u, t, hu, by omega, by rw [e]; exact HI.out.wy u hu⟩
                · have hd1 : decide ((n : Int) + 1 < (t : Int)) = false := decide_eq_false (by omega)
                  cases mr2 with
                  | false =>
                    go_wp2_with fail
                    go_ret
                    exact ⟨⟨(t : Int), rfl, ⟨.inl ⟨t, rfl, by rw [HTE.out]; exact HI.out.done (fun _ _ h => h) (fun _ _ h => h)⟩⟩⟩, HBE.out⟩
                  | true =>
                    go_wp2_with fail
                    go_roundw
                    case rel => exact ⟨r + 1, by omega, rfl, qhid ⟨b, HMB.out, HI.out.next (fun u hu => by have := HMG.out u hu; rw [← HTE.out] at this; omega)⟩⟩
                    case measure => simp [intOf]; omega
end
end Go.Proofs.Ytghfodjefjijdaa
