/- The law TokenCovers, walked. -/
import Derived.Test.YtnblegcccbbffaaDoorTokY
import Derived.Test.YtnblegcccbbffaaDoorTokZb
namespace Go.Proofs.YtnblegcccbbffaaDoor
open Go Go.RowKit
attribute [local go_sem ↓] Go.wp_at_zero Go.wp_at_succ
attribute [local go_sem] eq4
theorem chain_len : ∀ (l : List (TokM × Nat × Nat)) (a b : Nat), Chain l a b → a + l.length ≤ b := by
  intro l
  induction l with
  | nil => intro a b h; have : a = b := h; simp; omega
  | cons x l ih => intro a b h; obtain ⟨_, h2, h3⟩ := h; have := ih _ _ h3; simp; omega
theorem two_of (p q : ByteArray) : Two p q ((p ++ ⟨#[124]⟩) ++ q) := by
  have hs : ((p ++ (⟨#[124]⟩ : ByteArray)) ++ q).size = p.size + 1 + q.size := by
    rw [ByteArray.size_append, ByteArray.size_append]; rfl
  have hs1 : (p ++ (⟨#[124]⟩ : ByteArray)).size = p.size + 1 := by rw [ByteArray.size_append]; rfl
  refine ⟨hs, fun i hi => ?_, ?_, fun i => ?_⟩
  · rw [bAt_in (show i < ((p ++ (⟨#[124]⟩ : ByteArray)) ++ q).size by omega), bAt_in hi, ByteArray.getElem_append_left (by omega), ByteArray.getElem_append_left hi]
  · rw [bAt_in (show p.size < ((p ++ (⟨#[124]⟩ : ByteArray)) ++ q).size by omega), ByteArray.getElem_append_left (by omega), ByteArray.getElem_append_right (Nat.le_refl _)]
    simp
    rfl
  · by_cases h : i < q.size
    · rw [bAt_in (show p.size + 1 + i < ((p ++ (⟨#[124]⟩ : ByteArray)) ++ q).size by omega), bAt_in h, ByteArray.getElem_append_right (by omega)]
      congr 2
      omega
    · rw [bAt_end (by omega), bAt_end (by omega)]
set_option maxRecDepth 100000 in
set_option maxHeartbeats 4000000 in
theorem covers_any (p q : ByteArray) (w : World) (hT : Tab w) :
    Calls Tryd.prog 5 #[.string p, .string q] w fun e w' => e = .returned (.bool true) ∧ Below w.heap.size w w' := by
  have AW := qhid (fun W (hW : Tab W) => tok_awake W hW)
  have HT := qhid hT
  clear hT
  by_cases hp : p.size ≤ 200
  · by_cases hq : q.size ≤ 200
    · have dp : decide ((200 : Int) < (p.size : Int)) = false := decide_eq_false (by omega)
      have dq : decide ((200 : Int) < (q.size : Int)) = false := decide_eq_false (by omega)
      have hT2 := two_of p q
      have hS := hT2.size
      have SP := qhid (fun W (hW : Tab W) => scan_all p (by omega) W hW)
      have SQ := qhid (fun W (hW : Tab W) => scan_all q (by omega) W hW)
      have SS := qhid (fun W (hW : Tab W) => scan_all ((p ++ ⟨#[124]⟩) ++ q) (by omega) W hW)
      have HCH : Hid ((scanAll p).2.1 = 0 → Chain (scanAll p).1 0 p.size) := qhid (fun h => scanK_chain p.size 0 (by omega) (by omega) h)
      have HCQ : Hid ((scanAll q).2.1 = 0 → Chain (scanAll q).1 0 q.size) := qhid (fun h => scanK_chain q.size 0 (by omega) (by omega) h)
      have HNO : Hid ((scanAll p).2.1 ≠ 0 → (scanAll p).1 = []) := qhid scanK_none
      have HTW : Hid ((scanAll q).2.1 = 0 → (scanAll p).2.1 = 0 → (scanAll ((p ++ ⟨#[124]⟩) ++ q)).2.1 = 0 ∧ (scanAll ((p ++ ⟨#[124]⟩) ++ q)).1.length = (scanAll p).1.length + 1 + (scanAll q).1.length) := qhid (fun h1 h2 => scanK_two hT2 h1 p.size 0 (by omega) (by omega) h2)
      clear hT2 hS
      obtain ⟨c1, hc1⟩ : ∃ c, (scanAll p).2.1 = c := ⟨_, rfl⟩
      obtain ⟨c2, hc2⟩ : ∃ c, (scanAll q).2.1 = c := ⟨_, rfl⟩
      obtain ⟨c3, hc3⟩ : ∃ c, (scanAll ((p ++ ⟨#[124]⟩) ++ q)).2.1 = c := ⟨_, rfl⟩
      rw [hc1] at SP HCH HNO HTW
      rw [hc2] at SQ HCQ HTW
      rw [hc3] at SS HTW
      clear hc1 hc2 hc3
      generalize scanN (scanAll p) = m1 at *
      generalize scanN (scanAll q) = m2 at *
      generalize scanN (scanAll ((p ++ ⟨#[124]⟩) ++ q)) = m3 at *
      generalize (scanAll p).1 = l1 at *
      generalize (scanAll q).1 = l2 at *
      generalize (scanAll ((p ++ ⟨#[124]⟩) ++ q)).1 = l3 at *
      go_enter Tryd.func5, Tryd.ntmps5
      go_wp2_with fail
      refine (SP.out _ HT.out).mono ?_
      rintro e w1 ⟨v1, rfl, hat1, hb1⟩
      have HAT := qhid hat1
      have HB1 := qhid hb1
      have HT1 := qhid (HT.out.up hb1)
      obtain ⟨p1, cap1, rfl, hcell1⟩ := hat1
      have HC1 := qhid hcell1
      clear hcell1 hb1
      by_cases h1 : c1 = 0
      · subst h1
        have HCP : Hid (Chain l1 0 p.size) := qhid (HCH.out rfl)
        have hn1 := chain_len _ _ _ HCP.out
        have HTV : Hid (c2 = 0 → c3 = 0 ∧ l3.length = l1.length + 1 + l2.length) := qhid (fun h => HTW.out h rfl)
        clear HNO HCH HTW
        go_wp2_with fail
        go_loopw [8, 9] (fun a i wr => ∃ k at_ : Nat, k ≤ l1.length ∧ i = .int .i64 k ∧ a = .int .i64 at_ ∧ Hid (Chain (l1.drop k) at_ p.size) ∧ wr = w1) (fun _ i _ => l1.length - (intOf i).toNat)
        case atStart => exact ⟨0, 0, by omega, rfl, rfl, qhid (by rw [List.drop_zero]; exact HCP.out), by first | rfl | trivial⟩
        case round =>
          obtain ⟨k, at_, hk, rfl, rfl, HK, rfl⟩ := hrel
          by_cases hlk : k < l1.length
          · obtain ⟨⟨t, x, y⟩, hx⟩ : ∃ z, l1[k]? = some z := ⟨_, List.getElem?_eq_getElem hlk⟩
            have hdr : l1.drop k = (t, x, y) :: l1.drop (k + 1) := by
              rw [List.drop_eq_getElem_cons hlk]
              congr 1
              exact Option.some.inj ((List.getElem?_eq_getElem hlk).symm.trans hx)
            have hch := HK.out
            rw [hdr] at hch
            obtain ⟨hxa, hlt, hch2⟩ := hch
            dsimp only at hxa hlt hch2
            subst hxa
            have HK2 := qhid hch2
            obtain ⟨g, rfl, hg, hcell⟩ := HC1.out k _ hx
            have q1 : wr.cell? ⟨g, k * 10 + 1, none⟩ = some (.int .i64 (x : Int)) := hcell 1 _ rfl
            have q2 : wr.cell? ⟨g, k * 10 + 2, none⟩ = some (.int .i64 (y : Int)) := hcell 2 _ rfl
            have dle : decide (y ≤ x) = false := decide_eq_false (by omega)
            have HC1' := qhid HC1.out
            clear hcell hx hdr hch2 HK
            go_wp2_with fail
            go_roundw
            case rel => exact ⟨k + 1, y, by omega, by go_num, rfl, HK2, by first | rfl | trivial⟩
            case measure => simp [intOf]; omega
          · obtain rfl : k = l1.length := by omega
            have hat : at_ = p.size := by
              have h := HK.out
              rw [List.drop_length] at h
              exact h
            subst hat
            clear HK HC1
            go_wp2_with fail
            refine (SQ.out _ HT1.out).mono ?_
            rintro e w2 ⟨v2, rfl, hat2, hb2⟩
            have HB2 := qhid (HB1.out.trans (hb2.mono HB1.out.size))
            have HT2 := qhid (HT1.out.up hb2)
            obtain ⟨p2, cap2, rfl, _⟩ := hat2
            clear hb2
            go_wp2_with fail
            refine (SS.out _ HT2.out).mono ?_
            rintro e w3 ⟨v3, rfl, hat3, hb3⟩
            have HB3 := qhid (HB2.out.trans (hb3.mono HB2.out.size))
            have HT3 := qhid (HT2.out.up hb3)
            obtain ⟨p3, cap3, rfl, _⟩ := hat3
            clear hb3
            by_cases h2 : c2 = 0
            · subst h2
              obtain ⟨h3, hn3⟩ := HTV.out rfl
              subst h3
              have hn2 := chain_len _ _ _ (HCQ.out rfl)
              obtain ⟨n1, hn1e⟩ : ∃ n, n = l1.length := ⟨_, rfl⟩
              obtain ⟨n2, hn2e⟩ : ∃ n, n = l2.length := ⟨_, rfl⟩
              rw [hn3, ← hn1e, ← hn2e]
              have b1 : n1 ≤ 200 := by omega
              have b2 : n2 ≤ 200 := by omega
              clear hn1 hn2 hn3 hn1e hn2e HTV HCQ SP SQ SS
              go_wp2_with fail
              refine (AW.out _ HT3.out).mono ?_
              rintro e w4 ⟨rfl, hb4⟩
              have HB4 := qhid (HB3.out.trans (hb4.mono HB3.out.size))
              clear hb4
              go_wp2_with fail
              go_ret
              exact ⟨by rfl, HB4.out⟩
            · have e1 : ((c2 : Int) != 0) = true := by simp; exact h2
              have e2 : ((c2 : Int) == 0) = false := by simp; exact h2
              clear HTV HCQ SP SQ SS
              go_wp2_with fail
              refine (AW.out _ HT3.out).mono ?_
              rintro e w4 ⟨rfl, hb4⟩
              have HB4 := qhid (HB3.out.trans (hb4.mono HB3.out.size))
              clear hb4
              go_wp2_with fail
              go_ret
              exact ⟨by rfl, HB4.out⟩
      · obtain rfl := HNO.out h1
        have e1 : ((c1 : Int) != 0) = true := by simp; exact h1
        have e2 : ((c1 : Int) == 0) = false := by simp; exact h1
        simp only [List.length_nil]
        clear HNO HCH HTW HCQ SP SQ SS HC1 HAT
        go_wp2_with fail
        refine (AW.out _ HT1.out).mono ?_
        rintro e w4 ⟨rfl, hb4⟩
        have HB4 := qhid (HB1.out.trans (hb4.mono HB1.out.size))
        clear hb4
        go_wp2_with fail
        go_ret
        exact ⟨by rfl, HB4.out⟩
    · have dp : decide ((200 : Int) < (p.size : Int)) = false := decide_eq_false (by omega)
      have dq : decide ((200 : Int) < (q.size : Int)) = true := decide_eq_true (by omega)
      go_enter Tryd.func5, Tryd.ntmps5
      go_wp2_with fail
      refine (AW.out _ HT.out).mono ?_
      rintro e w4 ⟨rfl, hb4⟩
      have HB4 := qhid hb4
      clear hb4
      go_wp2_with fail
      go_ret
      exact ⟨by rfl, HB4.out⟩
  · have dp : decide ((200 : Int) < (p.size : Int)) = true := decide_eq_true (by omega)
    go_enter Tryd.func5, Tryd.ntmps5
    go_wp2_with fail
    refine (AW.out _ HT.out).mono ?_
    rintro e w4 ⟨rfl, hb4⟩
    have HB4 := qhid hb4
    clear hb4
    go_wp2_with fail
    go_ret
    exact ⟨by rfl, HB4.out⟩
end Go.Proofs.YtnblegcccbbffaaDoor
