/- The law BlocksWords: what comes of bytes there and back. -/
import Derived.Test.YtkjbecdngjdkhaaDoorBlkV
import Derived.Test.YtkjbecdngjdkhaaDoorOpenInts
namespace Go.Proofs.YtkjbecdngjdkhaaDoor
open Go Go.RowKit
attribute [local go_sem ↓] Go.wp_at_zero Go.wp_at_succ
attribute [local go_sem] eq4
theorem drawn_below (w : World) (n : Nat) : Below w.heap.size w (w.drewN n) := ⟨rfl, rfl, rfl, Nat.le_refl _, fun _ _ => rfl⟩
theorem byt_str {xs : List Int} {i : Nat} {x : Int} (h : xs[i]? = some x) (h1 : x < 256) : byt (strOfNums xs) i = x.toNat := by
  have hl : i < xs.length := (List.getElem?_eq_some_iff.1 h).1
  have hs : i < (strOfNums xs).size := by rw [strOfNums_size]; exact hl
  rw [byt_in hs]
  have e : (strOfNums xs).data.toList[i]? = some (UInt8.ofNat x.toNat) := by rw [strOfNums_data, List.getElem?_map, h]; rfl
  have e2 : (strOfNums xs)[i]'hs = UInt8.ofNat x.toNat := by
    have : (strOfNums xs).data.toList[i]? = some ((strOfNums xs)[i]'hs) := by
      rw [Array.getElem?_toList, Array.getElem?_eq_getElem (by exact hs)]; rfl
    rw [this] at e
    exact Option.some.inj e
  rw [e2]
  simp [UInt8.toNat_ofNat']
  omega
/-- The word of blocks, as a string. -/
def wordOf (E : Nat → Nat → Bool) (zl : List Int) : ByteArray := strOfNums (zl.map (leadOf E))
theorem wordOf_size (E : Nat → Nat → Bool) (zl : List Int) : (wordOf E zl).size = zl.length := by unfold wordOf; rw [strOfNums_size, List.length_map]
theorem wordOf_byt {E : Nat → Nat → Bool} (hE : Sorts E) {zl : List Int} {i : Nat} {z : Int} (h : zl[i]? = some z) (hz : inN z (leads E 256).length = true) :
    ∃ a : Nat, byt (wordOf E zl) i = a ∧ (leads E 256)[z.toNat]? = some a ∧ num E a = z.toNat ∧ z = (z.toNat : Int) := by
  unfold inN at hz
  simp at hz
  obtain ⟨a, ha⟩ : ∃ a, (leads E 256)[z.toNat]? = some a := ⟨_, List.getElem?_eq_getElem (by omega)⟩
  have hal := leads_lt 256 a (List.mem_of_getElem? ha)
  have hz2 : z = (z.toNat : Int) := by omega
  have hl : leadOf E z = (a : Int) := by rw [hz2]; exact leadOf_at ha
  refine ⟨a, ?_, ha, lead_num hE ha, hz2⟩
  unfold wordOf
  have := byt_str (xs := zl.map (leadOf E)) (i := i) (x := (a : Int)) (by rw [List.getElem?_map, h]; simp [hl]) (by omega)
  simpa using this
/-- There and back: the blocks of the blocks' least bytes are these blocks. -/
theorem names_back {E : Nat → Nat → Bool} (hE : Sorts E) {zl : List Int} (h : (zl.all fun i => inN i (leads E 256).length) = true) : namesOf E (wordOf E zl) zl.length = zl.map Int.toNat := by
  apply List.ext_getElem?
  intro i
  by_cases hi : i < zl.length
  · have hz := List.getElem?_eq_getElem hi
    rw [List.all_eq_true] at h
    obtain ⟨a, h1, _, h3, _⟩ := wordOf_byt hE hz (h _ (List.mem_of_getElem? hz))
    rw [namesOf_at hi, List.getElem?_map, hz, h1, h3]; rfl
  · rw [List.getElem?_eq_none (by rw [namesOf_len]; omega), List.getElem?_eq_none (by simp; omega)]
theorem names_in {E : Nat → Nat → Bool} (hE : Sorts E) (v : ByteArray) (k : Nat) : (((namesOf E v k).map fun (n : Nat) => (n : Int)).all fun i => inN i (leads E 256).length) = true := by
  rw [List.all_eq_true]
  intro x hx
  obtain ⟨n, hn, rfl⟩ := List.mem_map.1 hx
  unfold namesOf at hn
  obtain ⟨i, _, rfl⟩ := List.mem_map.1 hn
  have := num_lt hE (byt_lt v i)
  unfold inN
  simp; exact this
theorem names_names {E : Nat → Nat → Bool} (hE : Sorts E) (v : ByteArray) :
    namesOf E (wordOf E ((namesOf E v v.size).map fun (n : Nat) => (n : Int))) v.size = namesOf E v v.size := by
  have h := names_back hE (names_in hE v v.size)
  rw [List.length_map, namesOf_len, List.map_map] at h
  rw [h]
  have : (Int.toNat ∘ fun (n : Nat) => (n : Int)) = id := by funext n; simp
  rw [this, List.map_id]
theorem names_least {E : Nat → Nat → Bool} (hE : Sorts E) (v : ByteArray) {i : Nat} (hi : i < v.size) :
    byt (wordOf E ((namesOf E v v.size).map fun (n : Nat) => (n : Int))) i ≤ byt v i := by
  have hz : ((namesOf E v v.size).map fun (n : Nat) => (n : Int))[i]? = some ((num E (byt v i) : Nat) : Int) := by rw [List.getElem?_map, namesOf_at hi]; rfl
  have hin := names_in hE v v.size
  rw [List.all_eq_true] at hin
  obtain ⟨a, h1, h2, h3, _⟩ := wordOf_byt hE hz (hin _ (List.mem_of_getElem? hz))
  rw [h1]
  rw [Int.toNat_natCast] at h2
  have hno := lead_least hE h2 (byt v i)
  omega
set_option maxRecDepth 100000 in
set_option maxHeartbeats 4000000 in
theorem wordslaw_big (p q : Option Addr) (n cap m c' : Nat) (v : ByteArray) (w : World) (hbig : 20 < n ∨ 200 < v.size ∨ 200 < m) (hT : ∀ w', Below w.heap.size w w' → Tab w') :
    Calls Tryd.prog 5 #[.slice p n cap, .string v, .slice q m c'] w fun e w' => e = .returned (.bool true) ∧ Below w.heap.size w w' := by
  have HT := hid hT
  clear hT
  have hcase : decide ((20 : Int) < (n : Int)) = true ∨ (decide ((20 : Int) < (n : Int)) = false ∧ decide ((200 : Int) < (v.size : Int)) = true) ∨ (decide ((20 : Int) < (n : Int)) = false ∧ decide ((200 : Int) < (v.size : Int)) = false ∧ decide ((200 : Int) < (m : Int)) = true) := by
    by_cases h1 : 20 < n
    · exact .inl (decide_eq_true (by omega))
    · right
      by_cases h2 : 200 < v.size
      · exact .inl ⟨decide_eq_false (by omega), decide_eq_true (by omega)⟩
      · exact .inr ⟨decide_eq_false (by omega), decide_eq_false (by omega), decide_eq_true (by omega)⟩
  clear hbig
  rcases hcase with d1 | ⟨d1, d2⟩ | ⟨d1, d2, d3⟩
  all_goals
    go_enter Tryd.func5, Tryd.ntmps5
    go_wp2_with fail
    refine (awakeB_any w HT.out).mono ?_
    rintro e w5 ⟨rfl, hb5⟩
    have HB5 := hid hb5
    clear hb5
    go_wp2_with fail
    go_ret
    exact ⟨rfl, HB5.out⟩
/-- Are the first j numbers blocks' ones? -/
def goodTo (m : Nat) (zl : List Int) (j : Nat) : Bool := (zl.take j).all fun i => inN i m
theorem goodTo_next {m : Nat} {zl : List Int} {j : Nat} {z : Int} (h : zl[j]? = some z) : goodTo m zl (j + 1) = (goodTo m zl j && inN z m) := all_take zl (fun i => inN i m) j z h
theorem goodTo_end (m : Nat) (zl : List Int) : goodTo m zl zl.length = zl.all fun i => inN i m := by unfold goodTo; rw [List.take_length]
theorem nats_of_ints {w : World} {q : Option Addr} {zl : List Int} {m : Nat} (h : IntsP w q zl) (hg : (zl.all fun i => inN i m) = true) : NatsIn w q (zl.map Int.toNat) := fun j n hj => by
  rw [List.getElem?_map] at hj
  obtain ⟨z, hz, rfl⟩ := Option.map_eq_some_iff.1 hj
  obtain ⟨g, o, e, hgl, hc⟩ := h j z hz
  rw [List.all_eq_true] at hg
  have hin := hg z (List.mem_of_getElem? hz)
  unfold inN at hin
  simp at hin
  exact ⟨g, o, e, hgl, by rw [hc, show ((z.toNat : Nat) : Int) = z by omega]⟩
set_option maxRecDepth 100000 in
set_option maxHeartbeats 4000000 in
theorem wordslaw_small (p q : Option Addr) (n cap c' : Nat) (L : List W4) (v : ByteArray) (zl : List Int) (w : World) (hn : n ≤ 20) (hv : v.size ≤ 200) (hz : zl.length ≤ 200) (hR : SetsRow w p n L) (hq : IntsP w q zl) (hT : ∀ w', Below w.heap.size w w' → Tab w') :
    Calls Tryd.prog 5 #[.slice p n cap, .string v, .slice q zl.length c'] w fun e w' => e = .returned (.bool true) ∧ Below w.heap.size w w' := by
  have HT := hid hT
  have HR := hid hR
  have HQ := hid hq
  have HE := hid (allE_sorts L)
  have d1 : decide ((20 : Int) < (n : Int)) = false := decide_eq_false (by omega)
  have d2 : decide ((200 : Int) < (v.size : Int)) = false := decide_eq_false (by omega)
  have d3 : decide ((200 : Int) < (zl.length : Int)) = false := decide_eq_false (by omega)
  clear hT hR hq
  go_enter Tryd.func5, Tryd.ntmps5
  go_wp2_with fail
  refine (new_row p n cap L w HR.out (by omega)).mono ?_
  rintro e w1 ⟨g, ls, rfl, hg, hX, hb1⟩
  have HB1 := hid hb1
  have HX1 := hid hX
  have hsz1 := hb1.size
  have HLEN := hid hX.len
  clear hb1 hX
  go_wp2_with fail
  refine (names_any v (by omega) HX1.out).mono ?_
  rintro e w2 ⟨nv, rfl, hnv, hb2⟩
  have HB2 := hid (HB1.out.trans (hb2.mono hsz1))
  have HX2 := hid (HX1.out.below hb2 (Nat.le_refl _))
  have hsz2 := HB2.out.size
  obtain ⟨pn, cn, rfl, hpn⟩ := hnv.in
  have HN2 := hid hpn
  clear hb2 hnv hpn
  have HNL := hid (namesOf_len (allE L) v v.size)
  have hnl : (namesOf (allE L) v v.size).length ≤ 200 := by rw [HNL.out]; exact hv
  obtain ⟨NL, hNL⟩ : ∃ NL, NL = (namesOf (allE L) v v.size).map fun (n : Nat) => (n : Int) := ⟨_, rfl⟩
  have HNLE := hid hNL
  have hNLl : NL.length = (namesOf (allE L) v v.size).length := by rw [hNL, List.length_map]
  have HNLL := hid hNLl
  have HALL : Hid ((NL.all fun i => inN i ls.length) = true) := hid (by rw [hNL, HLEN.out]; exact names_in HE.out v v.size)
  have WRD : Hid (Calls Tryd.prog 24 #[.pointer (some ⟨g, 0, none⟩), .slice pn (namesOf (allE L) v v.size).length cn] w2 fun e w' => e = .returned (.tuple #[.string (wordOf (allE L) NL), .bool true]) ∧ Below w2.heap.size w2 w') := hid (by
    rw [← hNLl]
    refine (word_any HE.out pn cn NL (by omega) HX2.out (by rw [hNL]; exact HN2.out.ints) (fun w' hb => HT.out _ (HB2.out.trans (hb.mono hsz2)))).mono ?_
    rintro e w' ⟨rfl, hb⟩
    exact ⟨by rw [wordAns_yes HALL.out]; rfl, hb⟩)
  have hUs : (wordOf (allE L) NL).size = v.size := by rw [wordOf_size, hNLl, HNL.out]
  have HUS := hid hUs
  have HUN : Hid (namesOf (allE L) (wordOf (allE L) NL) (wordOf (allE L) NL).size = namesOf (allE L) v v.size) := hid (by rw [hUs, hNL]; exact names_names HE.out v)
  have HUL : Hid (∀ i, i < v.size → byt (wordOf (allE L) NL) i ≤ byt v i) := hid (fun i hi => by rw [hNL]; exact names_least HE.out v hi)
  clear hNL hNLl hUs
  generalize wordOf (allE L) NL = U at *
  go_wp2_with fail
  refine WRD.out.mono ?_
  rintro e w3 ⟨rfl, hb3⟩
  have HB3 := hid (HB2.out.trans (hb3.mono hsz2))
  have HX3 := hid (HX2.out.below hb3 (Nat.le_refl _))
  have HN3 := hid (HN2.out.below hb3 (Nat.le_refl _))
  have hsz3 := HB3.out.size
  have hus : (((U.size : Nat) : Int) != ((v.size : Nat) : Int)) = false := by rw [HUS.out]; simp
  clear hb3 WRD
  go_wp2_with fail
  refine (names_any U (by rw [HUS.out]; omega) HX3.out).mono ?_
  rintro e w4 ⟨mv, rfl, hmv, hb4⟩
  rw [HUN.out] at hmv
  obtain ⟨pm, cm, rfl, hpm⟩ := hmv.in
  have HM4 := hid hpm
  have HB4 := hid (HB3.out.trans (hb4.mono hsz3))
  have HX4 := hid (HX3.out.below hb4 (Nat.le_refl _))
  have HN4 := hid (HN3.out.below hb4 (Nat.le_refl _))
  have hsz4 := HB4.out.size
  clear hb4 hmv hpm hus
  have SAME := hid (same_any pm pn cm cn _ _ w4 HM4.out HN4.out (by omega) (by omega))
  rw [decide_eq_true (rfl : namesOf (allE L) v v.size = namesOf (allE L) v v.size)] at SAME
  go_wp2_with fail
  refine SAME.out.mono ?_
  rintro e w5 ⟨rfl, n5, hw5⟩
  have HB5' : Hid (Below w4.heap.size w4 w5) := hid (by rw [hw5]; exact drawn_below _ _)
  have HB5 := hid (HB4.out.trans (HB5'.out.mono hsz4))
  have HX5 := hid (HX4.out.below HB5'.out (Nat.le_refl _))
  have HN5 := hid (HN4.out.below HB5'.out (Nat.le_refl _))
  have hsz5 := HB5.out.size
  clear hw5 SAME HB5'
  go_wp2_with fail
  go_loopw [11] (fun i wr => ∃ k : Nat, k ≤ v.size ∧ i = .int .i64 k ∧ Hid (Below w5.heap.size w5 wr)) (fun i _ => v.size - (intOf i).toNat)
  case atStart => exact ⟨0, by omega, rfl, hid (Below.refl _ _)⟩
  case round =>
    obtain ⟨k, hk, rfl, HBR⟩ := hrel
    obtain ⟨wo, rfl⟩ : ∃ wo : World, wo = wr := ⟨_, rfl⟩
    have HXR := hid (HX5.out.below HBR.out (Nat.le_refl _))
    have HNR := hid (HN5.out.below HBR.out (Nat.le_refl _))
    have HBW := hid (HB5.out.trans (HBR.out.mono hsz5))
    have hszr := HBW.out.size
    by_cases hlk : k < v.size
    · have hku : k < U.size := by rw [HUS.out]; exact hlk
      obtain ⟨gn, on, rfl, hgn, hcn⟩ := HNR.out k _ (namesOf_at hlk)
      have HV := hid (byt_in hlk)
      have HU := hid (byt_in hku)
      have hle := HUL.out k hlk
      have hvl := byt_lt v k
      have OF2 : Hid (∀ nq, Calls Tryd.prog 14 #[.pointer (some ⟨g, 0, none⟩), .int .u8 ((v[k]'hlk).toNat : Int)] (wo.drewN nq) fun e w' => e = .returned (.int .i64 ((num (allE L) (v[k]'hlk).toNat : Nat) : Int)) ∧ w' = wo.drewN nq) := hid (fun nq => by
        rw [← HV.out]
        exact (blkof_any g (num (allE L)) ls (byt v k) hvl (wo.drewN nq) (HXR.out.blk.below (drawn_below _ _) (Nat.le_refl _))).mono (fun e w' h => ⟨h.1, h.2.symm⟩))
      rw [HU.out, HV.out] at hle
      rw [HV.out] at hcn
      have dk : decide ((k : Int) < (v.size : Int)) = true := decide_eq_true (by omega)
      have hkn : k < (namesOf (allE L) v v.size).length := by rw [HNL.out]; exact hlk
      have dle : decide ((v[k]'hlk).toNat < (U[k]'hku).toNat) = false := decide_eq_false (by omega)
      generalize num (allE L) (v[k]'hlk).toNat = nm at *
      go_wp2_with fail
      go_quiet ((go_at_call 14; exact Calls.quiet_of_same (OF2.out _)))
      have HB2 : Hid (Below w5.heap.size w5 (wo.drewN nq)) := hid (HBR.out.trans ((drawn_below wo nq).mono HBR.out.size))
      go_wp2_with fail
      exact ⟨⟨k + 1, by omega, by go_num, HB2⟩, by simp [intOf]; omega⟩
    · obtain rfl : k = v.size := by omega
      have HQR := hid (HQ.out.below HBW.out (Nat.le_refl _))
      have hsm := HXR.out.blk.small
      go_wp2_with fail
      go_loopw [12, 13] (fun r i wx => ∃ j : Nat, j ≤ zl.length ∧ i = .int .i64 j ∧ r = .bool (goodTo ls.length zl j) ∧ Hid (Below wo.heap.size wo wx)) (fun _ i _ => zl.length - (intOf i).toNat)
      case atStart => exact ⟨0, by omega, rfl, rfl, hid (Below.refl _ _)⟩
      case round =>
        obtain ⟨j, hj, rfl, rfl, HBX⟩ := hrel
        have HQX := hid (HQR.out.below HBX.out (Nat.le_refl _))
        have HXX := hid (HXR.out.below HBX.out (Nat.le_refl _))
        by_cases hjl : j < zl.length
        · obtain ⟨z, hz⟩ : ∃ z, zl[j]? = some z := ⟨_, List.getElem?_eq_getElem hjl⟩
          obtain ⟨gq, oq, rfl, hgq, hcq⟩ := HQX.out j z hz
          have HGN := hid (goodTo_next (m := ls.length) hz)
          have CNQ : Hid (∀ nq, Calls Tryd.prog 16 #[.pointer (some ⟨g, 0, none⟩)] (wr.drewN nq) fun e w' => e = .returned (.int .i64 ((ls.length : Nat) : Int)) ∧ w' = wr.drewN nq) := hid (fun nq =>
            (count_at g _ ls (wr.drewN nq) (HXX.out.blk.below (drawn_below _ _) (Nat.le_refl _))).mono (fun e w' h => ⟨h.1, h.2.symm⟩))
          have HD : Hid (∀ nq, Below wo.heap.size wo (wr.drewN nq)) := hid (fun nq => HBX.out.trans ((drawn_below wr nq).mono HBX.out.size))
          clear hz
          cases hb : goodTo ls.length zl j
          · have HG2 : Hid (goodTo ls.length zl (j + 1) = false) := hid (by rw [HGN.out, hb]; rfl)
            clear hb HGN
            go_wp2_with fail
            go_quiet (fail)
            have HB2 := hid (HD.out nq)
            go_wp2_with fail
            exact ⟨⟨j + 1, by omega, by go_num, by rw [HG2.out], HB2⟩, by simp [intOf]; omega⟩
          · have HG1 : Hid (goodTo ls.length zl (j + 1) = inN z ls.length) := hid (by rw [HGN.out, hb]; rfl)
            clear hb HGN
            by_cases h0 : 0 ≤ z
            · have t0 : decide (0 ≤ z) = true := decide_eq_true h0
              by_cases h1 : z < ((ls.length : Nat) : Int)
              · have t1 : decide (z < ((ls.length : Nat) : Int)) = true := decide_eq_true h1
                have HG2 : Hid (goodTo ls.length zl (j + 1) = true) := hid (by rw [HG1.out]; unfold inN; rw [t0, t1]; rfl)
                clear HG1
                go_wp2_with fail
                go_quiet ((go_at_call 16; exact Calls.quiet_of_same (CNQ.out _)))
                have HB2 := hid (HD.out nq)
                go_wp2_with fail
                exact ⟨⟨j + 1, by omega, by go_num, by rw [HG2.out], HB2⟩, by simp [intOf]; omega⟩
              · have t1 : decide (z < ((ls.length : Nat) : Int)) = false := decide_eq_false h1
                have HG2 : Hid (goodTo ls.length zl (j + 1) = false) := hid (by rw [HG1.out]; unfold inN; rw [t0, t1]; rfl)
                clear HG1
                go_wp2_with fail
                go_quiet ((go_at_call 16; exact Calls.quiet_of_same (CNQ.out _)))
                have HB2 := hid (HD.out nq)
                go_wp2_with fail
                exact ⟨⟨j + 1, by omega, by go_num, by rw [HG2.out], HB2⟩, by simp [intOf]; omega⟩
            · have t0 : decide (0 ≤ z) = false := decide_eq_false h0
              have HG2 : Hid (goodTo ls.length zl (j + 1) = false) := hid (by rw [HG1.out]; unfold inN; rw [t0]; rfl)
              clear HG1
              go_wp2_with fail
              go_quiet (fail)
              have HB2 := hid (HD.out nq)
              go_wp2_with fail
              exact ⟨⟨j + 1, by omega, by go_num, by rw [HG2.out], HB2⟩, by simp [intOf]; omega⟩
        · obtain rfl : j = zl.length := by omega
          have HBXw := hid (HBW.out.trans (HBX.out.mono hszr))
          have hszx := HBXw.out.size
          have WRD2 := hid (word_any HE.out q c' zl (by omega) HXX.out HQX.out (fun w' hb => HT.out _ (HBXw.out.trans (hb.mono hszx))))
          rw [goodTo_end]
          cases hg2 : (zl.all fun i => inN i ls.length)
          · rw [wordAns_no hg2] at WRD2
            clear hg2
            go_wp2_with fail
            refine WRD2.out.mono ?_
            rintro e w6 ⟨rfl, hb6⟩
            have HB6 := hid (HBXw.out.trans (hb6.mono hszx))
            have hsz6 := HB6.out.size
            clear hb6
            go_wp2_with fail
            refine (awakeB_any _ (fun w' hb' => HT.out _ (HB6.out.trans (hb'.mono hsz6)))).mono ?_
            rintro e w8 ⟨rfl, hb8⟩
            have HB8 := hid (HB6.out.trans (hb8.mono hsz6))
            clear hb8
            go_wp2_with fail
            go_ret
            exact ⟨rfl, HB8.out⟩
          · rw [wordAns_yes hg2] at WRD2
            have HGD := hid hg2
            have HNB : Hid (namesOf (allE L) (wordOf (allE L) zl) (wordOf (allE L) zl).size = zl.map Int.toNat) := hid (by rw [wordOf_size]; exact names_back HE.out (by rw [← HLEN.out]; exact hg2))
            have hws : (wordOf (allE L) zl).size ≤ 200 := by rw [wordOf_size]; exact hz
            have WRD3 : Hid (Calls Tryd.prog 24 #[.pointer (some ⟨g, 0, none⟩), .slice q zl.length c'] wr fun e w' => e = .returned (.tuple #[.string (wordOf (allE L) zl), .bool true]) ∧ Below wr.heap.size wr w') := hid WRD2.out
            clear hg2 WRD2
            generalize wordOf (allE L) zl = U2 at *
            go_wp2_with fail
            refine WRD3.out.mono ?_
            rintro e w6 ⟨rfl, hb6⟩
            have HB6 := hid (HBXw.out.trans (hb6.mono hszx))
            have HX6 := hid (HXX.out.below hb6 (Nat.le_refl _))
            have HQ6 := hid (HQX.out.below hb6 (Nat.le_refl _))
            have hsz6 := HB6.out.size
            clear hb6 WRD3
            go_wp2_with fail
            refine (names_any U2 (by omega) HX6.out).mono ?_
            rintro e w7 ⟨mv, rfl, hmv, hb7⟩
            rw [HNB.out] at hmv
            obtain ⟨px, cx, rfl, hpx⟩ := hmv.in
            have HB7 := hid (HB6.out.trans (hb7.mono hsz6))
            have HQ7 := hid (HQ6.out.below hb7 (Nat.le_refl _))
            have hsz7 := HB7.out.size
            have SAME2 := same_any px q cx c' _ _ w7 hpx (nats_of_ints HQ7.out HGD.out) (by rw [List.length_map]; omega) (by rw [List.length_map]; omega)
            rw [decide_eq_true (rfl : zl.map Int.toNat = zl.map Int.toNat)] at SAME2
            have SAME3 := hid SAME2
            rw [List.length_map] at SAME3
            clear hb7 hmv hpx SAME2
            rw [List.length_map]
            go_wp2_with fail
            refine SAME3.out.mono ?_
            rintro e w8 ⟨rfl, n8, hw8⟩
            have HB8' : Hid (Below w7.heap.size w7 w8) := hid (by rw [hw8]; exact drawn_below _ _)
            have HB8 := hid (HB7.out.trans (HB8'.out.mono hsz7))
            have hsz8 := HB8.out.size
            clear hw8 SAME3 HB8'
            go_wp2_with fail
            refine (awakeB_any _ (fun w' hb' => HT.out _ (HB8.out.trans (hb'.mono hsz8)))).mono ?_
            rintro e w9 ⟨rfl, hb9⟩
            have HB9 := hid (HB8.out.trans (hb9.mono hsz8))
            clear hb9
            go_wp2_with fail
            go_ret
            exact ⟨rfl, HB9.out⟩
theorem ints_p {w : World} {u : Value} (h : IntsIn w u) : ∃ q zl c', u = .slice q (zl : List Int).length c' ∧ IntsP w q zl := by
  rcases h with ⟨p, cap, rfl⟩ | ⟨g, o, len, cap, l, rfl, h0, hm, hg, hc, hb⟩
  · exact ⟨p, [], cap, rfl, fun j n hj => by simp at hj⟩
  · refine ⟨_, (List.range len).map l, cap, by rw [List.length_map, List.length_range], fun j n hj => ?_⟩
    rw [List.getElem?_map] at hj
    obtain ⟨m, hm, rfl⟩ := Option.map_eq_some_iff.1 hj
    obtain ⟨hl, e⟩ := List.getElem?_eq_some_iff.1 hm
    rw [List.getElem_range] at e
    subst e
    rw [List.length_range] at hl
    exact ⟨g, o, rfl, hg, hc _ hl⟩
theorem wordslaw_all {u0 u2 : Value} {w : World} (h : ∃ p n c L, u0 = .slice p n c ∧ SetsRow w p n L ∧ (p = none → c = 0)) (v : ByteArray) (h2 : IntsIn w u2) (hT : ∀ w', Below w.heap.size w w' → Tab w') :
    Calls Tryd.prog 5 #[u0, .string v, u2] w fun e w' => e = .returned (.bool true) ∧ Below w.heap.size w w' := by
  obtain ⟨p, n, c, L, rfl, hR, hp⟩ := h
  obtain ⟨q, zl, c', rfl, hq⟩ := ints_p h2
  by_cases hbig : 20 < n ∨ 200 < v.size ∨ 200 < zl.length
  · exact wordslaw_big p q n c zl.length c' v w hbig hT
  · exact wordslaw_small p q n c c' L v zl w (by omega) (by omega) (by omega) hR hq hT
end Go.Proofs.YtkjbecdngjdkhaaDoor
