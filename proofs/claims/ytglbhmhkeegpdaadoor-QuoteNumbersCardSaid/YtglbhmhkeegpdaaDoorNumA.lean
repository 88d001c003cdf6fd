/- Contracts of numbers as words: quote.Number, quote.Parse; the document's Number. -/
import Derived.Test.YtglbhmhkeegpdaaDoorNumM
import Derived.Test.YtglbhmhkeegpdaaDoorReadH
import Derived.Test.YtglbhmhkeegpdaaDoorShelfN
import Derived.Lib.AtoiErrMem
namespace Go.Proofs.YtglbhmhkeegpdaaDoor
open Go Go.RowKit
attribute [local go_sem ↓] Go.wp_at_zero Go.wp_at_succ
/-- What the library's variables hold. -/
structure NumVars (w : World) : Prop where
  tab : Lib.TabIs Tryd.prog w "internal/strconv.uint64pow10" .u64 Lib.pow10Tab
  syn : ∃ tp p, w.var? Tryd.prog "strconv.ErrSyntax" = some #[.iface tp p]
  rng : ∃ tp p, w.var? Tryd.prog "strconv.ErrRange" = some #[.iface tp p]
theorem gPow : Tryd.prog.globalNamed "internal/strconv.uint64pow10" = some 3 := by kernel_rfl
theorem gSyn : Tryd.prog.globalNamed "strconv.ErrSyntax" = some 1 := by kernel_rfl
theorem gRng : Tryd.prog.globalNamed "strconv.ErrRange" = some 2 := by kernel_rfl
theorem var_below {w w' : World} {name : String} {g : Nat} {cs : Array Value} (hg : Tryd.prog.globalNamed name = some g) (h : w.var? Tryd.prog name = some cs) (hb : Below w.heap.size w w') : w'.var? Tryd.prog name = some cs := by
  unfold World.var? at h ⊢
  rw [hg] at h ⊢
  simp only [Option.bind_some] at h ⊢
  have hlt : g < w.heap.size := by
    by_cases hlt : g < w.heap.size
    · exact hlt
    · have hn : w.heap[g]? = none := Array.getElem?_eq_none (by omega)
      rw [hn] at h; cases h
  rw [hb.block g hlt]
  exact h
theorem NumVars.below {w w' : World} (h : NumVars w) (hb : Below w.heap.size w w') : NumVars w' := by
  obtain ⟨h1, ⟨t1, p1, h2⟩, ⟨t2, p2, h3⟩⟩ := h
  exact ⟨var_below gPow h1 hb, ⟨t1, p1, var_below gSyn h2 hb⟩, ⟨t2, p2, var_below gRng h3 hb⟩⟩
theorem below_grow (w : World) (k : Nat) (os : Array Obj) : Below w.heap.size w (Sort.grow (w.drewN k) os) := by
  refine ⟨rfl, rfl, rfl, ?_, fun i hi => ?_⟩
  · show w.heap.size ≤ (w.heap ++ os).size
    rw [Array.size_append]; omega
  · show (w.heap ++ os)[i]? = w.heap[i]?
    rw [Array.getElem?_append_left hi]
/-- A number's word. -/
def numS (n : Int) : ByteArray := ⟨(Lib.itoa n).toArray⟩
theorem number_any (n : Int) (h0 : -9223372036854775808 ≤ n) (h1 : n ≤ 9223372036854775807) (w : World) (hv : NumVars w) :
    Calls Tryd.prog 11 #[.int .i64 n] w fun e w' => e = .returned (.string (numS n)) ∧ Below w.heap.size w w' := by
  have HC := qhid (Tryd.strconv_Itoa n h0 h1 w hv.tab)
  clear hv
  go_enter Tryd.func11, Tryd.ntmps11
  go_wp2_with fail
  refine HC.out.mono ?_
  rintro e w1 ⟨rfl, k, os, hw⟩
  have HB : Hid (Below w.heap.size w w1) := qhid (by rw [hw]; exact below_grow w k os)
  clear hw
  go_wp2_with fail
  go_ret
  exact ⟨rfl, HB.out⟩
/-- What Parse answers, and leaves. -/
def ParseTo (w : World) (o : Option Int) (e : Ending) (w' : World) : Prop :=
  (match o with
  | none => e = .returned (.tuple #[.int .i64 0, .int .i64 4])
  | some v => e = .returned (.tuple #[.int .i64 v, .int .i64 0])) ∧ Below w.heap.size w w'
theorem numS_eq {v : Int} {s : ByteArray} : numS v = s ↔ Lib.itoa v = s.data.toList := by
  constructor
  · intro h; rw [← h]; rfl
  · intro h
    unfold numS
    rw [h]
theorem parse_any (s : ByteArray) (hs : s.size ≤ 281474976710656) (w : World) (hv : NumVars w) :
    Calls Tryd.prog 12 #[.string s] w (ParseTo w (parseF s.data.toList)) := by
  rcases atoi_ends s.data.toList with ⟨v, h⟩ | h | h
  · obtain ⟨b0, b1⟩ := Lib.atoiAll_bounds h
    have HC := qhid (Tryd.strconv_Atoi_ok s (by omega) v h w)
    have HV := qhid hv
    by_cases he : numS v = s
    · have hp : parseF s.data.toList = some v := by unfold parseF; rw [h]; dsimp only; rw [if_pos (numS_eq.1 he)]
      rw [hp]
      have HE := qhid he
      clear h hp he hv
      go_enter Tryd.func12, Tryd.ntmps12
      go_wp2_with fail
      refine HC.out.mono ?_
      rintro e w1 ⟨rfl, hw⟩
      have HB : Hid (Below w.heap.size w w1) := qhid (by
        rcases hw with rfl | ⟨t, rfl⟩
        · exact Below.refl _ _
        · exact Lib.bytesWorld_below _ _ _)
      clear hw
      go_wp2_with fail
      refine (number_any v b0 b1 w1 (HV.out.below HB.out)).mono ?_
      rintro e w2 ⟨rfl, hb⟩
      rw [HE.out]
      have HB2 := qhid (HB.out.trans (hb.mono HB.out.size))
      clear hb
      go_wp2_with fail
      go_ret2
      exact ⟨rfl, HB2.out⟩
    · have hp : parseF s.data.toList = none := by unfold parseF; rw [h]; dsimp only; rw [if_neg (fun e => he (numS_eq.2 e))]
      rw [hp]
      have hne : ((numS v).toList == s.toList) = false := by
        rw [beq_nums, decide_eq_false_iff_not]
        exact fun e => he (nums_inj e)
      clear h hp he hv
      generalize hx : numS v = x at *
      have HX := qhid hx
      clear hx
      go_enter Tryd.func12, Tryd.ntmps12
      go_wp2_with fail
      refine HC.out.mono ?_
      rintro e w1 ⟨rfl, hw⟩
      have HB : Hid (Below w.heap.size w w1) := qhid (by
        rcases hw with rfl | ⟨t, rfl⟩
        · exact Below.refl _ _
        · exact Lib.bytesWorld_below _ _ _)
      clear hw
      go_wp2_with fail
      refine (number_any v b0 b1 w1 (HV.out.below HB.out)).mono ?_
      rintro e w2 ⟨rfl, hb⟩
      rw [HX.out]
      have HB2 := qhid (HB.out.trans (hb.mono HB.out.size))
      clear hb
      go_wp2_with fail
      go_ret2
      exact ⟨rfl, HB2.out⟩
  · have hp : parseF s.data.toList = none := by unfold parseF; rw [h]; rfl
    rw [hp]
    obtain ⟨tp, p, hvar⟩ := hv.syn
    have HC := qhid (Tryd.strconv_Atoi_syntax_var s hs h tp p w hvar)
    clear h hp hv hvar
    go_enter Tryd.func12, Tryd.ntmps12
    go_wp2_with fail
    refine HC.out.mono ?_
    rintro e w1 ⟨N, rfl, _, _, hb⟩
    have HB := qhid hb
    clear hb
    go_wp2_with fail
    go_ret2
    exact ⟨rfl, HB.out⟩
  · have hp : parseF s.data.toList = none := by unfold parseF; rw [h]
    rw [hp]
    obtain ⟨tp, p, hvar⟩ := hv.rng
    have HC := qhid (Tryd.strconv_Atoi_range_var s hs h tp p w hvar)
    clear h hp hv hvar
    go_enter Tryd.func12, Tryd.ntmps12
    go_wp2_with fail
    refine HC.out.mono ?_
    rintro e w1 ⟨N, rfl, _, _, hb⟩
    have HB := qhid hb
    clear hb
    go_wp2_with fail
    go_ret2
    exact ⟨rfl, HB.out⟩
/-- What holds at the head of a round of the document's Number: m is still to tell, r is told. -/
def TensRel (n m : Nat) (r : List UInt8) : Prop := (r = [] ∧ m = n) ∨ (r ≠ [] ∧ Lib.decDigits n = (if m = 0 then [] else Lib.decDigits m) ++ r)
theorem TensRel.next {n m : Nat} {r : List UInt8} (h : TensRel n m r) (hm : r = [] ∨ 0 < m) : TensRel n (m / 10) (UInt8.ofNat (48 + m % 10) :: r) := by
  have key : Lib.decDigits m = (if m / 10 = 0 then [] else Lib.decDigits (m / 10)) ++ [UInt8.ofNat (48 + m % 10)] := by
    by_cases h10 : m < 10
    · rw [dd_small h10, if_pos (by omega), show m % 10 = m by omega]; rfl
    · rw [dd_big h10, if_neg (by omega)]
  rcases h with ⟨h1, h2⟩ | ⟨h1, h2⟩
  · subst h1 h2
    exact .inr ⟨by simp, key⟩
  · have hm0 : 0 < m := by
      rcases hm with h | h
      · exact absurd h h1
      · exact h
    refine .inr ⟨by simp, ?_⟩
    rw [h2, if_neg (by omega), key]
    simp
theorem TensRel.len {n m : Nat} {r : List UInt8} (h : TensRel n m r) (hn : n < 18446744073709551616) : r.length ≤ 20 := by
  rcases h with ⟨h1, _⟩ | ⟨_, h2⟩
  · rw [h1]; simp
  · have e := congrArg List.length h2
    rw [Lib.decDigits_length, List.length_append] at e
    have := Lib.nDigits_le20 n hn
    omega
/-- How much is left to tell. -/
def tensLeft (a b : Value) : Nat := (intOf a).toNat + (match b with
  | .string s => if s.size = 0 then 1 else 0
  | _ => 0)
theorem tens_eq (m : Nat) (s : ByteArray) : tensLeft (.int .i64 (m : Int)) (.string s) = m + if s.size = 0 then 1 else 0 := by
  simp [tensLeft, intOf]
theorem str_one (d : Nat) : strOfNums [((48 + d : Nat) : Int)] = ⟨#[UInt8.ofNat (48 + d)]⟩ := rfl
theorem cons_str (c : UInt8) (r : List UInt8) : (⟨#[c]⟩ : ByteArray) ++ ⟨r.toArray⟩ = ⟨(c :: r).toArray⟩ := by
  apply ByteArray.ext
  simp
set_option maxRecDepth 100000 in
set_option maxHeartbeats 1000000 in
theorem refnum_pos (n : Nat) (hn : n ≤ 9223372036854775807) (w : World) :
    Calls Tryd.prog 13 #[.int .i64 (n : Int)] w fun e w' => e = .returned (.string ⟨(Lib.decDigits n).toArray⟩) ∧ Below w.heap.size w w' := by
  have HLen := qhid (fun m r (h : TensRel n m r) => h.len (by omega))
  have HNb := qhid hn
  clear hn
  go_enter Tryd.func13, Tryd.ntmps13
  go_wp2_with fail
  go_loopw [0, 3] (fun a b wr => ∃ (m : Nat) (r : List UInt8), a = .int .i64 m ∧ b = .string ⟨r.toArray⟩ ∧ m ≤ n ∧ TensRel n m r ∧ Below w.heap.size w wr) (fun a b _ => tensLeft a b)
  case atStart => exact ⟨n, [], rfl, rfl, Nat.le_refl _, .inl ⟨rfl, rfl⟩, Below.refl _ _⟩
  case round =>
    obtain ⟨m, r, rfl, rfl, hmn, hrel, hbe⟩ := hrel
    have HR := qhid hrel
    have HBE := qhid hbe
    have hlen := HLen.out m r hrel
    clear hrel hbe
    by_cases hgo : r = [] ∨ 0 < m
    · have HN := qhid (HR.out.next hgo)
      have e10 : (m : Int) % 10 = ((m % 10 : Nat) : Int) := rfl
      have e11 : (m : Int).tmod 10 = ((m % 10 : Nat) : Int) := rfl
      have e12 : (m : Int) / 10 = ((m / 10 : Nat) : Int) := rfl
      have hq : m % 10 < 10 := by omega
      have hd : m / 10 ≤ n := by omega
      have HM : Hid (m / 10 < m ∨ m / 10 = 0) := qhid (by omega)
      generalize m % 10 = q at *
      generalize m / 10 = d at *
      have HWD : Hid (wrap64 (d : Int) = (d : Int)) := qhid (by unfold wrap64; have := HNb.out; omega)
      have hcv : (convert 66 9 (.slice (some ⟨wr.heap.size, 0, none⟩) 1 1)).run Tryd.prog (wr.alloc (.cells #[.int .u8 (48 + (q : Int))] 5)) = .ok (.string (strOfNums [48 + (q : Int)])) (wr.alloc (.cells #[.int .u8 (48 + (q : Int))] 5)) := conv_bytes (bytes_new wr [48 + (q : Int)] 1 5)
      have HB : Hid (Below w.heap.size w (wr.alloc (.cells #[.int .u8 (48 + (q : Int))] 5))) := qhid (HBE.out.alloc HBE.out.size _)
      have HA : Hid (strOfNums [48 + (q : Int)] ++ ⟨r.toArray⟩ = ⟨(UInt8.ofNat (48 + q) :: r).toArray⟩) := qhid (by
        rw [show (48 + (q : Int)) = ((48 + q : Nat) : Int) from by omega, str_one, cons_str])
      have h1 : (strOfNums [48 + (q : Int)]).size = 1 := strOfNums_size _
      have h2 : (⟨r.toArray⟩ : ByteArray).size = r.length := by simp [ByteArray.size]
      cases r with
      | nil =>
        clear hgo
        go_wp2_with fail
        rw [HWD.out]
        refine ⟨⟨d, [UInt8.ofNat (48 + q)], rfl, ?_, hd, HN.out, HB.out⟩, ?_⟩
        · exact congrArg Value.string HA.out
        · have := HM.out
          rw [tens_eq, tens_eq, if_neg (by simp [strOfNums_size]), if_pos (by rfl)]
          omega
      | cons c r' =>
        have hm0 : 0 < m := by
          rcases hgo with h | h
          · cases h
          · exact h
        clear hgo
        go_wp2_with fail
        rw [HWD.out]
        refine ⟨⟨d, UInt8.ofNat (48 + q) :: c :: r', rfl, ?_, hd, HN.out, HB.out⟩, ?_⟩
        · exact congrArg Value.string HA.out
        · have := HM.out
          rw [tens_eq, tens_eq, if_neg (by rw [ByteArray.size_append]; omega), if_neg (by rw [h2]; simp)]
          omega
    · have hm0 : m = 0 := by omega
      have hr0 : r ≠ [] := fun e => hgo (.inl e)
      have HE : Hid (Lib.decDigits n = r) := qhid (by
        rcases HR.out with ⟨h1, _⟩ | ⟨_, h2⟩
        · exact absurd h1 hr0
        · rw [h2, if_pos hm0]; rfl)
      subst hm0
      cases r with
      | nil => exact absurd rfl hr0
      | cons c r' =>
        clear hgo hr0
        go_wp2_with fail
        go_ret
        refine ⟨?_, HBE.out⟩
        rw [HE.out]
        rfl
theorem numS_min : numS (-9223372036854775808) = ⟨#[45, 57, 50, 50, 51, 51, 55, 50, 48, 51, 54, 56, 53, 52, 55, 55, 53, 56, 48, 56]⟩ := by
  unfold numS
  rw [show (-9223372036854775808 : Int) = -((9223372036854775808 : Nat) : Int) from rfl, Lib.itoa_neg _ (by decide)]
  congr 1
  congr 1
  congr 1
  repeat (first | rw [dd_big (by decide)] | rw [dd_small (by decide)])
  decide
set_option maxRecDepth 100000 in
theorem refnum_any (n : Int) (h0 : -9223372036854775808 ≤ n) (h1 : n ≤ 9223372036854775807) (w : World) :
    Calls Tryd.prog 13 #[.int .i64 n] w fun e w' => e = .returned (.string (numS n)) ∧ Below w.heap.size w w' := by
  by_cases hn : n < 0
  · by_cases hmin : n = -9223372036854775808
    · subst hmin
      rw [show numS (-9223372036854775808) = ⟨#[45, 57, 50, 50, 51, 51, 55, 50, 48, 51, 54, 56, 53, 52, 55, 55, 53, 56, 48, 56]⟩ from numS_min]
      go_enter Tryd.func13, Tryd.ntmps13
      go_wp2_with fail
      go_ret
      exact ⟨rfl, Below.refl _ _⟩
    · obtain ⟨k, hk⟩ : ∃ k : Nat, n = -(k : Int) := ⟨n.natAbs, by omega⟩
      have hk1 : 1 ≤ k := by omega
      have HC := qhid (fun W => refnum_pos k (by omega) W)
      have hd : (n == -9223372036854775808) = false := beq_eq_false_iff_ne.2 hmin
      have hneg : IntKind.i64.wrap (-n) = (k : Int) := by simp [IntKind.wrap, IntKind.signed, IntKind.bits]; omega
      have hneg2 : wrap64 (-n) = (k : Int) := by unfold wrap64; omega
      have HS : Hid ((⟨#[45]⟩ : ByteArray) ++ ⟨(Lib.decDigits k).toArray⟩ = numS n) := qhid (by
        rw [cons_str, hk]; unfold numS; rw [Lib.itoa_neg k hk1])
      have hsz : (⟨(Lib.decDigits k).toArray⟩ : ByteArray).size ≤ 20 := by
        show (Lib.decDigits k).toArray.size ≤ 20
        rw [List.size_toArray, Lib.decDigits_length]
        exact Lib.nDigits_le20 k (by omega)
      generalize (⟨(Lib.decDigits k).toArray⟩ : ByteArray) = t at *
      have hlt : decide (n < 0) = true := decide_eq_true hn
      clear hk hmin h0 h1 hk1
      go_enter Tryd.func13, Tryd.ntmps13
      go_wp2_with fail
      refine (HC.out _).mono ?_
      rintro e w1 ⟨rfl, hb⟩
      have HB := qhid hb
      clear hb
      go_wp2_with fail
      go_ret
      exact ⟨congrArg (fun s => Ending.returned (Value.string s)) HS.out, HB.out⟩
  · obtain ⟨k, rfl⟩ := Int.eq_ofNat_of_zero_le (show 0 ≤ n by omega)
    have e : numS (k : Int) = ⟨(Lib.decDigits k).toArray⟩ := by unfold numS; rw [Lib.itoa_nonneg]
    rw [e]
    exact refnum_pos k (by omega) w
end Go.Proofs.YtglbhmhkeegpdaaDoor
