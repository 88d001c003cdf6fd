/- Contracts of quote's reader: what tells one byte; does a text start with another one. -/
import Derived.Test.YtglbhmhkeegpdaaDoorReadD
namespace Go.Proofs.YtglbhmhkeegpdaaDoor
open Go Go.RowKit
attribute [local go_sem ↓] Go.wp_at_zero Go.wp_at_succ
theorem cf_escape (args : Array Value) (W : World) : (callFunc 76 args).run Tryd.prog W = .ok (.enter 76 args) W := by
  simp [callFunc, Tryd.func76, mark, Sem.run]; rfl
/-- What the call of take answers, and leaves. -/
def TookB (w : World) (g : Nat) (s : ByteArray) (k : Nat) (o : Option Nat) (e : Ending) (w' : World) : Prop :=
  match o with
  | none => e = .returned (.tuple #[.int .u8 0, .bool false]) ∧ Rd w w' g s k
  | some v => e = .returned (.tuple #[.int .u8 (v : Int), .bool true]) ∧ Rd w w' g s (k + 1)
theorem take_any (g F : Nat) (s : ByteArray) (hs : s.size ≤ 1099511627776) (k : Nat) (m : Nat → Bool) (w : World) (h : RdAt w g s k) (hk : k ≤ s.size)
    (hcf : ∀ args W, (callFunc F args).run Tryd.prog W = .ok (.enter F args) W)
    (hF : ∀ (b : Nat) W, Calls Tryd.prog F #[.int .u8 (b : Int)] W fun e w' => e = .returned (.bool (m b)) ∧ w' = W) :
    Calls Tryd.prog 74 #[.pointer (some ⟨g, 0, none⟩), .func (.func F) #[] #[]] w (TookB w g s k (tk m (nums s)[k]?)) := by
  by_cases hlt : k < s.size
  · rw [nums_at s k hlt]
    cases hm : m (s[k]'hlt).toNat with
    | true =>
      have e : tk m (some (s[k]'hlt).toNat) = some (s[k]'hlt).toNat := tk_mk rfl hm
      rw [e]
      refine (take_yes g s k _ F #[] w h hlt rfl hs hcf (fun n => by have := hF (s[k]'hlt).toNat (w.drewN n); rw [hm] at this; exact this)).mono ?_
      rintro e w1 ⟨rfl, n, hw⟩
      exact ⟨rfl, Rd.of (j := 1) h n hw⟩
    | false =>
      have e : tk m (some (s[k]'hlt).toNat) = none := by unfold tk; simp [Option.filter, hm]
      rw [e]
      refine (take_no g s k _ F #[] w h hlt rfl hcf (fun n => by have := hF (s[k]'hlt).toNat (w.drewN n); rw [hm] at this; exact this)).mono ?_
      rintro e w1 ⟨rfl, n, rfl⟩
      exact ⟨rfl, only_rd h n, only_drewN (only_refl _ _) n⟩
  · have e1 : k = s.size := by omega
    subst e1
    have e2 : tk m (nums s)[s.size]? = none := by
      rw [List.getElem?_eq_none (by rw [nums_len]; omega)]; rfl
    rw [e2]
    refine (take_end g s w h _).mono ?_
    rintro e w1 ⟨rfl, n, rfl⟩
    exact ⟨rfl, only_rd h n, only_drewN (only_refl _ _) n⟩
theorem tk_in {s : ByteArray} {m : Nat → Bool} {k b : Nat} (h : tk m (nums s)[k]? = some b) : k < s.size := by
  obtain ⟨h1, _⟩ := tk_some h
  obtain ⟨h2, _⟩ := List.getElem?_eq_some_iff.1 h1
  rwa [nums_len] at h2
set_option maxHeartbeats 1000000 in
theorem one_any (g : Nat) (s : ByteArray) (hs : s.size ≤ 1099511627776) (k : Nat) (w : World) (h : RdAt w g s k) (hk : k ≤ s.size) :
    Calls Tryd.prog 61 #[.pointer (some ⟨g, 0, none⟩)] w (Took w g s (oneF (nums s) k)) := by
  have hT := take_any g 75 s hs k shownB w h hk cf_shown (fun b W => shown_any b W)
  cases h1 : tk shownB (nums s)[k]? with
  | none =>
    have e0 : oneF (nums s) k = (none, k) := by unfold oneF; rw [h1]
    rw [e0]
    rw [h1] at hT
    have HT := qhid hT
    clear hT e0 h1
    go_enter Tryd.func61, Tryd.ntmps61
    go_wp2_with fail
    refine HT.out.mono ?_
    rintro e w1 ⟨rfl, hr⟩
    have HR := qhid hr
    clear hr
    go_wp2_with fail
    go_ret2
    exact ⟨rfl, HR.out⟩
  | some b =>
    have hk1 := tk_in h1
    rw [h1] at hT
    have HT := qhid hT
    clear hT
    by_cases h92 : b = 92
    · subst h92
      cases h2 : tk escB (nums s)[k + 1]? with
      | none =>
        have e0 : oneF (nums s) k = (none, k + 1) := by unfold oneF; rw [h1]; dsimp only; rw [if_pos rfl, h2]
        rw [e0]
        have H2 := qhid h2
        clear e0 h1 h2
        go_enter Tryd.func61, Tryd.ntmps61
        go_wp2_with fail
        refine HT.out.mono ?_
        rintro e w1 ⟨rfl, hr⟩
        have HR := qhid hr
        clear hr
        go_wp2_with fail
        refine (take_any g 76 s hs (k + 1) escB w1 HR.out.1 hk1 cf_escape (fun b W => escape_any b W)).mono ?_
        rw [H2.out]
        rintro e w2 ⟨rfl, hr2⟩
        have HR2 := qhid hr2
        clear hr2
        go_wp2_with fail
        go_ret2
        exact ⟨rfl, HR2.out.1, only_trans HR.out.2 HR2.out.2⟩
      | some c =>
        have hk2 := tk_in h2
        by_cases hc : c = 92
        · subst hc
          have e0 : oneF (nums s) k = (some 92, k + 2) := by unfold oneF; rw [h1]; dsimp only; rw [if_pos rfl, h2]; dsimp only; rw [if_pos rfl]
          rw [e0]
          have H2 := qhid h2
          clear e0 h1 h2
          go_enter Tryd.func61, Tryd.ntmps61
          go_wp2_with fail
          refine HT.out.mono ?_
          rintro e w1 ⟨rfl, hr⟩
          have HR := qhid hr
          clear hr
          go_wp2_with fail
          refine (take_any g 76 s hs (k + 1) escB w1 HR.out.1 hk1 cf_escape (fun b W => escape_any b W)).mono ?_
          rw [H2.out]
          rintro e w2 ⟨rfl, hr2⟩
          have HR2 := qhid hr2
          clear hr2
          go_wp2_with fail
          go_ret2
          exact ⟨rfl, HR2.out.1, only_trans HR.out.2 HR2.out.2⟩
        · have dc : ((c : Int) == 92) = false := by simp; omega
          have e0 : oneF (nums s) k = pairF (nums s) (k + 2) := by unfold oneF; rw [h1]; dsimp only; rw [if_pos rfl, h2]; dsimp only; rw [if_neg hc]
          rw [e0]
          have H2 := qhid h2
          clear e0 h1 h2
          go_enter Tryd.func61, Tryd.ntmps61
          go_wp2_with fail
          refine HT.out.mono ?_
          rintro e w1 ⟨rfl, hr⟩
          have HR := qhid hr
          clear hr
          go_wp2_with fail
          refine (take_any g 76 s hs (k + 1) escB w1 HR.out.1 hk1 cf_escape (fun b W => escape_any b W)).mono ?_
          rw [H2.out]
          rintro e w2 ⟨rfl, hr2⟩
          have HR2 := qhid hr2
          clear hr2
          go_wp2_with fail
          refine (pair_any g s hs (k + 2) w2 HR2.out.1 hk2).mono ?_
          rintro e w3 ⟨he, hr3⟩
          have HR3 := qhid hr3
          have HE := qhid he
          clear hr3
          cases hp : (pairF (nums s) (k + 2)).1 with
          | none =>
            rw [hp] at he
            subst he
            rw [hp] at HE
            go_wp2_with fail
            go_ret2
            refine ⟨?_, HR3.out.1, only_trans (only_trans HR.out.2 HR2.out.2) HR3.out.2⟩
            rw [hp]; rfl
          | some v =>
            rw [hp] at he
            subst he
            rw [hp] at HE
            go_wp2_with fail
            go_ret2
            refine ⟨?_, HR3.out.1, only_trans (only_trans HR.out.2 HR2.out.2) HR3.out.2⟩
            rw [hp]; rfl
    · have db : ((b : Int) == 92) = false := by simp; omega
      have db2 : ((b : Int) != 92) = true := by simp; omega
      have e0 : oneF (nums s) k = (some b, k + 1) := by unfold oneF; rw [h1]; dsimp only; rw [if_neg h92]
      rw [e0]
      clear e0 h1
      go_enter Tryd.func61, Tryd.ntmps61
      go_wp2_with fail
      refine HT.out.mono ?_
      rintro e w1 ⟨rfl, hr⟩
      have HR := qhid hr
      clear hr
      go_wp2_with fail
      go_ret2
      exact ⟨rfl, HR.out⟩
theorem nums_inj {a b : ByteArray} (h : nums a = nums b) : a = b := by
  apply ByteArray.ext
  apply Array.toList_inj.1
  unfold nums at h
  exact List.map_inj_right (fun x y e => UInt8.toNat_inj.1 e) |>.1 h
theorem beq_nums (a b : ByteArray) : (a.toList == b.toList) = decide (nums a = nums b) := by
  rw [ByteArray.toList_eq, ByteArray.toList_eq, Bool.eq_iff_iff, beq_iff_eq, decide_eq_true_iff]
  constructor
  · intro h; unfold nums; rw [h]
  · intro h; rw [nums_inj h]
theorem nums_extract (s : ByteArray) (i j : Nat) : nums (s.extract i j) = ((nums s).take j).drop i := by
  unfold nums
  rw [ByteArray.data_extract, Array.toList_extract, List.extract_eq_take_drop, List.map_take, List.map_drop, List.drop_take]
theorem prefix_eq (s x : ByteArray) (h : x.size ≤ s.size) : ((s.extract 0 x.size).toList == x.toList) = (nums x).isPrefixOf (nums s) := by
  rw [beq_nums, nums_extract, List.drop_zero, Bool.eq_iff_iff, decide_eq_true_iff, List.isPrefixOf_iff_prefix, List.prefix_iff_eq_take, nums_len]
  exact eq_comm
theorem prefix_long {s x : ByteArray} (h : ¬ x.size ≤ s.size) : (nums x).isPrefixOf (nums s) = false := by
  rw [← Bool.not_eq_true, List.isPrefixOf_iff_prefix]
  intro hp
  have := hp.length_le
  rw [nums_len, nums_len] at this
  exact h this
theorem hasPrefix_any (s x : ByteArray) (w : World) :
    Calls Tryd.prog 58 #[.string s, .string x] w fun e w' => e = .returned (.bool ((nums x).isPrefixOf (nums s))) ∧ w' = w := by
  by_cases h : x.size ≤ s.size
  · have e := qhid (prefix_eq s x h)
    go_enter Tryd.func58, Tryd.ntmps58
    go_wp2
    go_ret
    exact ⟨congrArg (fun b => Ending.returned (Value.bool b)) e.out, rfl⟩
  · have e := qhid (prefix_long h)
    go_enter Tryd.func58, Tryd.ntmps58
    go_wp2
    go_ret
    exact ⟨congrArg (fun b => Ending.returned (Value.bool b)) e.out.symm, rfl⟩
end Go.Proofs.YtglbhmhkeegpdaaDoor
