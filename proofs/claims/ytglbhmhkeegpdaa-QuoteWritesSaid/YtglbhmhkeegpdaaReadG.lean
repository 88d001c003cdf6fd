/- Contracts of quote's reference: Read. -/
import Derived.Test.YtglbhmhkeegpdaaReadF
namespace Go.Proofs.Ytglbhmhkeegpdaa
open Go Go.RowKit
attribute [local go_sem ↓] Go.wp_at_zero Go.wp_at_succ
theorem qw_qn (b : Nat) : qw b = ni (qn b) := by
  have hd : ∀ n, digit n = ((dn n : Nat) : Int) := by
    intro n; unfold digit dn; split <;> omega
  unfold qw qn ni
  split
  · simp [hd]
  · split
    · rfl
    · rfl
theorem nums_str {l : List Nat} (h : ∀ x ∈ l, x < 256) : nums (strOfNums (ni l)) = l := by
  unfold nums
  rw [strOfNums_data]
  unfold ni
  rw [List.map_map, List.map_map]
  conv => rhs; rw [← List.map_id l]
  apply List.map_congr_left
  intro x hx
  have := h x hx
  simp [UInt8.toNat_ofNat']
  omega
theorem qn_lt {b : Nat} (hb : b < 256) : ∀ x ∈ qn b, x < 256 := by
  have hall : ∀ n : Fin 256, ∀ x ∈ qn n.val, x < 256 := by decide +kernel
  exact hall ⟨b, hb⟩
theorem nums_qw {b : Nat} (hb : b < 256) : nums (strOfNums (qw b)) = qn b := by rw [qw_qn, nums_str (qn_lt hb)]
theorem qn_le (b : Nat) : (qn b).length ≤ 4 := by
  rcases qn_cases b with ⟨_, q⟩ | ⟨_, q⟩ | ⟨_, _, q⟩ <;> rw [q] <;> simp
/-- The word of byte b, as a string: told of by what it is. -/
structure OneIs (b : Nat) (x : ByteArray) : Prop where
  ns : nums x = qn b
  sz : x.size = (qn b).length
theorem one_is {b : Nat} (hb : b < 256) : OneIs b (strOfNums (qw b)) := ⟨nums_qw hb, by rw [← nums_len, nums_qw hb]⟩
theorem agree_at {s x : ByteArray} {b k n : Nat} (h : OneIs b x) (h1 : n < x.size) (h2 : k + n < s.size) : Agree (qn b) ((nums s).drop k) n ↔ (s[k + n]'h2).toNat = (x[n]'h1).toNat := by
  have e1 := nums_at x n h1
  have e2 := nums_at s (k + n) h2
  rw [h.ns] at e1
  unfold Agree
  rw [List.getElem?_drop, e1, e2]
  constructor
  · rintro ⟨y, a, c⟩
    injection a with a
    injection c with c
    rw [a, c]
  · intro e
    exact ⟨_, rfl, by rw [e]⟩
theorem agree_in {s x : ByteArray} {b k n : Nat} (h : OneIs b x) (ha : Agree (qn b) ((nums s).drop k) n) : n < x.size ∧ k + n < s.size := by
  obtain ⟨y, a, c⟩ := ha
  obtain ⟨a1, _⟩ := List.getElem?_eq_some_iff.1 a
  rw [List.getElem?_drop] at c
  obtain ⟨c1, _⟩ := List.getElem?_eq_some_iff.1 c
  rw [nums_len] at c1
  rw [h.sz]
  exact ⟨a1, c1⟩
/-- What holds at the head of a round of the outer loop. -/
structure Outer (w : World) (s : ByteArray) (k : Nat) (acc : List Nat) (wr : World) : Prop where
  le : k ≤ s.size
  on : acc.length ≤ k
  be : Below w.heap.size w wr
  go : k < s.size → wordF (nums s) (s.size + 1) 0 [] = wordF (nums s) (s.size + 1) k acc
  en : k = s.size → 0 < s.size → wordF (nums s) (s.size + 1) 0 [] = (some acc, s.size)
/-- A word and a text agree so far. -/
structure AgreeTo (s x : ByteArray) (b k m : Nat) : Prop where
  le1 : m ≤ x.size
  le2 : k + m ≤ s.size
  ag : ∀ i, i < m → Agree (qn b) ((nums s).drop k) i
theorem max_cast (f m : Nat) : (if f < m then (m : Int) else (f : Int)) = ((max f m : Nat) : Int) := by split <;> omega
theorem lcp_le (a : List Nat) : ∀ d, lcp a d ≤ a.length := by
  induction a with
  | nil => intro d; simp [lcp]
  | cons x xs ih =>
    intro d
    match d with
    | [] => simp [lcp]
    | y :: ys =>
      unfold lcp
      split
      · have := ih ys; simp; omega
      · simp
theorem far_le {d : List Nat} {n : Nat} (h : FarIs d n) : n ≤ 4 := by
  obtain ⟨_, b, _, h2⟩ := h
  have := lcp_le (qn b) d
  have := qn_le b
  omega
theorem below_one {w wr w2 : World} {o : Obj} (h : Below w.heap.size w wr) (h2 : Below (wr.alloc o).heap.size (wr.alloc o) w2) : Below w.heap.size w w2 :=
  (h.alloc h.size o).trans (h2.mono (by have := h.size; simp; omega))
theorem AgreeTo.next {s x : ByteArray} {b k m : Nat} (h : AgreeTo s x b k m) (hx : OneIs b x) (h1 : m < x.size) (h2 : k + m < s.size) (h3 : (s[k + m]'h2).toNat = (x[m]'h1).toNat) : AgreeTo s x b k (m + 1) :=
  ⟨by omega, by omega, fun i hi => by
    by_cases e : i = m
    · subst e; exact (agree_at hx h1 h2).2 h3
    · exact h.ag i (by omega)⟩
/-- What the reference's Read answers, and leaves. -/
def RefTo (w : World) (o : Option (List Nat) × Nat) (e : Ending) (w' : World) : Prop :=
  (match o.1 with
  | none => e = .returned (.tuple #[.string ⟨#[]⟩, .int .i64 (o.2 : Int)])
  | some l => e = .returned (.tuple #[.string (strOfNums (ni l)), .int .i64 (-1)])) ∧ Below w.heap.size w w'
set_option maxRecDepth 100000 in
set_option maxHeartbeats 4000000 in
theorem refread_any (s : ByteArray) (hs : s.size ≤ 1099511627776) (hp : [92, 101].isPrefixOf (nums s) = false) (w : World) :
    Calls Try.prog 9 #[.string s] w (RefTo w (wordF (nums s) (s.size + 1) 0 [])) := by
  have hS := starts_any s ⟨#[92, 101]⟩ w
  rw [show nums ⟨#[92, 101]⟩ = [92, 101] from rfl, hp] at hS
  have HS := qhid hS
  have hne : (s.toList == [92, 101]) = false := by
    have h2 := beq_nums s ⟨#[92, 101]⟩
    rw [show (⟨#[92, 101]⟩ : ByteArray).toList = [92, 101] from by rw [ByteArray.toList_eq]] at h2
    rw [h2, decide_eq_false_iff_not]
    intro e
    rw [e] at hp
    exact absurd hp (by decide)
  have H0 : Hid (Outer w s 0 [] w) := qhid ⟨by omega, by simp, Below.refl _ _, fun _ => rfl, fun h1 h2 => by omega⟩
  clear hS hp
  go_enter Try.func9, Try.ntmps9
  go_wp2_with fail
  refine HS.out.mono ?_
  rintro e w1 ⟨rfl, hw⟩
  obtain rfl : w = w1 := hw.symm
  go_wp2_with fail
  go_loopw [4, 5] (fun r a wr => ∃ (k : Nat) (acc : List Nat), a = .int .i64 k ∧ r = .string (strOfNums (ni acc)) ∧ Outer w s k acc wr) (fun _ a _ => s.size - (intOf a).toNat)
  case atStart => exact ⟨0, [], rfl, rfl, H0.out⟩
  case round =>
    obtain ⟨k, acc, rfl, rfl, hO⟩ := hrel
    have hkl := hO.le
    have hon := hO.on
    have HO := qhid hO
    clear hO
    by_cases hlt : k < s.size
    · go_wp2_with fail
      go_loopw [6, 7, 8] (fun fa fo bb wq => ∃ b : Nat, b ≤ 256 ∧ bb = .int .i64 b ∧ fa = .int .i64 (farTo ((nums s).drop k) b : Nat) ∧ fo = .int .i64 (foundTo ((nums s).drop k) b) ∧ Below w.heap.size w wq) (fun _ _ bb _ => 256 - (intOf bb).toNat)
      case atStart => exact ⟨0, by omega, rfl, rfl, rfl, HO.out.be⟩
      case round =>
        obtain ⟨b, hb, rfl, rfl, rfl, hbe⟩ := hrel
        have HB := qhid hbe
        clear hbe
        by_cases hb2 : b < 256
        · have H1 := fun W => refone_any b hb2 W
          have hx := one_is hb2
          have hfar : farTo ((nums s).drop k) (b + 1) = max (farTo ((nums s).drop k) b) (lcp (qn b) ((nums s).drop k)) := rfl
          have hfnd : foundTo ((nums s).drop k) (b + 1) = if (qn b).isPrefixOf ((nums s).drop k) = true then (b : Int) else foundTo ((nums s).drop k) b := rfl
          generalize strOfNums (qw b) = x at *
          have hx4 := qn_le b
          have hxs := hx.sz
          have hS := starts_any (s.extract k s.size) x
          rw [hx.ns, nums_extract, show (nums s).take s.size = nums s from by rw [← nums_len]; exact List.take_length] at hS
          have H1 := qhid H1
          have HX := qhid hx
          have HXS := qhid hxs
          have hxl : x.size ≤ 4 := by omega
          have HFAR := qhid hfar
          have HFND := qhid hfnd
          have HS2 := qhid hS
          clear hx hxs hfar hfnd hS
          go_wp2_with fail
          refine (H1.out _).mono ?_
          rintro e w1 ⟨rfl, hb1⟩
          have HB1 := qhid (HB.out.trans (hb1.mono HB.out.size))
          clear hb1
          go_wp2_with fail
          refine (HS2.out _).mono ?_
          rintro e w2 ⟨rfl, hw⟩
          obtain rfl : w1 = w2 := hw.symm
          cases hpre : (qn b).isPrefixOf ((nums s).drop k)
          all_goals
            rw [hpre] at HFND
            have HFND := qhid HFND.out
            clear hpre
            go_wp2_with fail
            go_loopw [10] (fun n wz => ∃ m : Nat, n = .int .i64 m ∧ AgreeTo s x b k m ∧ Below w.heap.size w wz) (fun n _ => 4 - (intOf n).toNat)
            case atStart => exact ⟨0, rfl, ⟨by omega, by omega, fun i hi => by omega⟩, HB1.out⟩
            case round =>
              obtain ⟨m, rfl, hag, hbe⟩ := hrel
              have hm1 := hag.le1
              have hm2 := hag.le2
              have HAG := qhid hag
              have HBE := qhid hbe
              clear hag hbe
              by_cases h1 : m < x.size
              · obtain ⟨q, hq⟩ : ∃ q, q = k + m := ⟨_, rfl⟩
                have d1 : IntKind.i64.wrap ((k : Int) + (m : Int)) = (q : Int) := by rw [hq]; simp [IntKind.wrap, IntKind.signed, IntKind.bits]; omega
                have HQ := qhid hq
                by_cases h2 : q < s.size
                · by_cases h3 : (s[q]'h2).toNat = (x[m]'h1).toNat
                  · have d5 : (((s[q]'h2).toNat : Int) == ((x[m]'h1).toNat : Int)) = true := by rw [h3]; exact beq_self_eq_true _
                    have H3 := qhid h3
                    clear h3 hq
                    go_wp2_with fail
                    go_quiet (fail)
                    have HT : Hid (AgreeTo s x b k (m + 1)) := qhid (HAG.out.next HX.out h1 (HQ.out ▸ h2) (by have := H3.out; simpa [HQ.out] using this))
                    go_wp2_with fail
                    exact ⟨⟨m + 1, by go_num, HT.out, below_drewN HBE.out _⟩, by simp [intOf]; omega⟩
                  · have d5 : (((s[q]'h2).toNat : Int) == ((x[m]'h1).toNat : Int)) = false := beq_eq_false_iff_ne.2 (by omega)
                    have HL : Hid (lcp (qn b) ((nums s).drop k) = m) := qhid (lcp_eq HAG.out.ag (by rw [agree_at HX.out h1 (HQ.out ▸ h2)]; simpa [HQ.out] using h3))
                    clear h3 hq
                    go_wp2_with fail
                    go_quiet (fail)
                    go_wp2_with fail
                    refine ⟨⟨b + 1, by omega, by go_num, ?_, ?_, below_drewN HBE.out _⟩, by simp [intOf]; omega⟩
                    · rw [HFAR.out, HL.out]; exact congrArg (Value.int .i64) (max_cast _ _)
                    · rw [HFND.out]; simp
                · have d3 : decide ((q : Int) < (s.size : Int)) = false := by rw [decide_eq_false_iff_not]; omega
                  have HL : Hid (lcp (qn b) ((nums s).drop k) = m) := qhid (lcp_eq HAG.out.ag (fun ha => by have := agree_in HX.out ha; omega))
                  clear hq
                  go_wp2_with fail
                  go_quiet (fail)
                  go_wp2_with fail
                  refine ⟨⟨b + 1, by omega, by go_num, ?_, ?_, below_drewN HBE.out _⟩, by simp [intOf]; omega⟩
                  · rw [HFAR.out, HL.out]; exact congrArg (Value.int .i64) (max_cast _ _)
                  · rw [HFND.out]; simp
              · have HL : Hid (lcp (qn b) ((nums s).drop k) = m) := qhid (lcp_eq HAG.out.ag (fun ha => by have := agree_in HX.out ha; omega))
                go_wp2_with fail
                go_quiet (fail)
                go_wp2_with fail
                refine ⟨⟨b + 1, by omega, by go_num, ?_, ?_, below_drewN HBE.out _⟩, by simp [intOf]; omega⟩
                · rw [HFAR.out, HL.out]; exact congrArg (Value.int .i64) (max_cast _ _)
                · rw [HFND.out]; simp
        · have hb3 : b = 256 := by omega
          rcases ho : oneF (nums s) k with ⟨_ | c, k'⟩
          · have hf := far_eq (one_far ho).2
            have hk' := (one_far ho).1
            have hl := one_lost ho
            have HW : Hid (wordF (nums s) (s.size + 1) 0 [] = (none, k')) := qhid (by rw [HO.out.go hlt, wordF, ho])
            have HK : Hid ((k : Int) + ((k' - k : Nat) : Int) = (k' : Int)) := qhid (by omega)
            subst hb3
            rw [hf, hl]
            have hz : k' - k ≤ 4 := far_le (one_far ho).2
            generalize k' - k = z at *
            clear ho hf hl hk'
            go_wp2_with fail
            go_ret2
            rw [HW.out]
            exact ⟨congrArg (fun n => Ending.returned (Value.tuple #[.string ⟨#[]⟩, .int .i64 n])) HK.out, HB.out⟩
          · have hl := one_found ho
            obtain ⟨hc, hk', _⟩ := one_sound ho
            have hon2 := one_on ho
            rw [nums_len] at hon2
            have HW : Hid (wordF (nums s) (s.size + 1) 0 [] = if k' = s.size then (some (acc ++ [c]), k') else wordF (nums s) s.size k' (acc ++ [c])) := qhid (by
              rw [HO.out.go hlt, wordF, ho]; dsimp only; rw [nums_len])
            subst hb3
            rw [hl]
            generalize farTo ((nums s).drop k) 256 = z at *
            have H1 := fun W => refone_any c hc W
            have hxs : (strOfNums (qw c)).size = (qn c).length := (one_is hc).sz
            have h4 := qn_le c
            have H1 := qhid H1
            have HK := qhid hk'
            have hwc : IntKind.u8.wrap (c : Int) = (c : Int) := by simp [IntKind.wrap, IntKind.signed, IntKind.bits]; omega
            have hacc : (strOfNums (ni acc)).size = acc.length := by rw [strOfNums_size, ni_len]
            have hone : (strOfNums [(c : Int)]).size = 1 := strOfNums_size _
            have HA : Hid (strOfNums (ni acc) ++ strOfNums [(c : Int)] = strOfNums (ni (acc ++ [c]))) := qhid (by rw [str_app, ni_snoc])
            have hcv : (convert 30 9 (.slice (some ⟨wr.heap.size, 0, none⟩) 1 1)).run Try.prog (wr.alloc (.cells #[.int .u8 (c : Int)] 5)) = .ok (.string (strOfNums [(c : Int)])) (wr.alloc (.cells #[.int .u8 (c : Int)] 5)) := conv_bytes (bytes_new wr [(c : Int)] 1 5)
            clear ho hl hk'
            go_wp2_with fail
            refine (H1.out _).mono ?_
            rintro e w2 ⟨rfl, hb1⟩
            have HB2 := qhid (below_one HB.out hb1)
            clear hb1
            go_wp2_with fail
            have hk2 := HK.out
            refine ⟨⟨k', acc ++ [c], by rw [hk2]; exact congrArg (Value.int .i64) (by omega), by rw [HA.out], ⟨by omega, ?_, HB2.out, fun hl => ?_, fun he _ => ?_⟩⟩, by simp [intOf]; omega⟩
            · rw [List.length_append]; have := HO.out.on; simp; omega
            · rw [HW.out, if_neg (by omega)]; exact wordF_fuel _ _ _ _ (by rw [nums_len]; omega) (by rw [nums_len]; omega)
            · rw [HW.out, if_pos he, he]
    · by_cases h0 : s.size = 0
      · have hk0 : k = 0 := by omega
        have d0 : ((s.size : Int) == 0) = true := by rw [h0]; rfl
        have hwf : wordF (nums s) (s.size + 1) 0 [] = (none, 0) := by
          have hn : nums s = [] := List.length_eq_zero_iff.1 (by rw [nums_len]; exact h0)
          rw [hn]; rfl
        have hwf := qhid hwf
        go_wp2_with fail
        go_ret2
        rw [hwf.out]
        exact ⟨rfl, HO.out.be⟩
      · have d0 : ((s.size : Int) == 0) = false := beq_eq_false_iff_ne.2 (by omega)
        have hwf := qhid (HO.out.en (by omega) (by omega))
        go_wp2_with fail
        go_ret2
        rw [hwf.out]
        exact ⟨rfl, HO.out.be⟩
end Go.Proofs.Ytglbhmhkeegpdaa
