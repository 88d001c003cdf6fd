/- Contracts of token's reader: a class. -/
import Derived.Test.YtenibhmjcafbiaaGreatDoorTokR
namespace Go.Proofs.YtenibhmjcafbiaaGreatDoor
open Go Go.RowKit
attribute [local go_sem ↓] Go.wp_at_zero Go.wp_at_succ
attribute [local go_sem] eq4
/-- What a round of a class begins with. -/
structure ClsInv (s : ByteArray) (R : W4 × Int × Nat) (n : Nat) (t : W4) (e : Int) (i : Nat) : Prop where
  fit : t.fit
  err : e = 0 ∨ e = 4 ∨ e = 5 ∨ e = 6
  le : i ≤ s.size
  pos : 1 ≤ n
  fuel : e = 0 → s.size + 2 ≤ n + i
  run : clsR s n t e i = R
theorem ClsInv.start {s : ByteArray} {i : Nat} (hi : i ≤ s.size) : ClsInv s (clsFrom s i) (s.size + 2) (itemR s i).1 (itemR s i).2.1 (itemR s i).2.2 :=
  ⟨(itemR_set hi).fit, (itemR_set hi).err, (itemR_set hi).le, by omega, fun _ => by omega, rfl⟩
theorem ClsInv.bad {s : ByteArray} {R : W4 × Int × Nat} {n : Nat} {t : W4} {e : Int} {i : Nat} (h : ClsInv s R n t e i) (he : e ≠ 0) : R = (noW, e, i) := by
  obtain ⟨m, rfl⟩ : ∃ m, n = m + 1 := ⟨n - 1, by have := h.pos; omega⟩
  rw [← h.run, clsR, if_pos he]
theorem ClsInv.done {s : ByteArray} {R : W4 × Int × Nat} {n : Nat} {t : W4} {i : Nat} (h : ClsInv s R n t 0 i) (he : bAt s i = 93) : R = (t, 0, i + 1) := by
  obtain ⟨m, rfl⟩ : ∃ m, n = m + 1 := ⟨n - 1, by have := h.pos; omega⟩
  rw [← h.run, clsR, if_neg (by simp), if_pos he]
theorem ClsInv.next {s : ByteArray} {R : W4 × Int × Nat} {n : Nat} {t : W4} {i : Nat} (h : ClsInv s R n t 0 i) (he : bAt s i ≠ 93) : 2 ≤ n ∧ ClsInv s R (n - 1) (uni2 t (itemR s i).1) (itemR s i).2.1 (itemR s i).2.2 := by
  have hf := h.fuel rfl
  have hle := h.le
  obtain ⟨m, rfl⟩ : ∃ m, n = m + 1 := ⟨n - 1, by have := h.pos; omega⟩
  have hit := itemR_set h.le
  refine ⟨by omega, uni2_fit _ _, hit.err, hit.le, by omega, fun e => by have := hit.on e; omega, ?_⟩
  rw [← h.run, clsR, if_neg (by simp), if_neg he]; rfl
theorem Rd.own {w w' : World} {g k b : Nat} {s : ByteArray} {t : W4} (h : OwnSet w b t) (hr : Rd w w' g s k) (hne : b ≠ g) : OwnSet w' b t := h.rd hr hne
set_option maxRecDepth 100000 in
set_option maxHeartbeats 8000000 in
theorem tclass_any (g k : Nat) (s : ByteArray) (hk : k < s.size) (hs : s.size ≤ 1099511627776) (w : World) (h : RdAt w g s k) (hT : Tab w) (hne : 0 ≠ g) :
    Calls Tryz.prog 116 #[.pointer (some ⟨g, 0, none⟩)] w fun e w' => e = .returned (setAns (classR s k).1 (classR s k).2.1) ∧ Rd w w' g s (classR s k).2.2 := by
  have HH := qhid h
  have hlt := h.lt
  have HT := qhid (hT.alloc setObj)
  have HA := qhid (rd_alloc h setObj)
  have ST := qhid (fun W (hW : RdAt W g s k) => tstep_any g 1 1 s k (by omega) W hW rfl)
  have IT := qhid (fun i (hi : i ≤ s.size) W (hW : RdAt W g s i) (hTW : Tab W) => titem_any g i s hi hs W hW hTW hne)
  have SY := qhid (fun i (hi : bAt s i = 93) W (hW : RdAt W g s i) => skip_yes g s i 93 (by omega) W hW hi hs)
  have SN := qhid (fun i (hi : bAt s i ≠ 93) W (hW : RdAt W g s i) => skip_no g s i 93 (by omega) W hW hi)
  have NOT := qhid (fun (t : W4) W => not_any t.a t.b t.c t.d W)
  have U2 : Hid (∀ (t u : W4) (W : World), Calls Tryz.prog 129 #[.slice (some ⟨W.heap.size, 0, none⟩) 2 2] (W.alloc (.cells #[.int .u64 t.a, .int .u64 t.b, .int .u64 t.c, .int .u64 t.d, .int .u64 u.a, .int .u64 u.b, .int .u64 u.c, .int .u64 u.d] 34)) fun e w' => e = .returned (setVal (uni2 t u)) ∧ Below (W.alloc (.cells #[.int .u64 t.a, .int .u64 t.b, .int .u64 t.c, .int .u64 t.d, .int .u64 u.a, .int .u64 u.b, .int .u64 u.c, .int .u64 u.d] 34)).heap.size (W.alloc (.cells #[.int .u64 t.a, .int .u64 t.b, .int .u64 t.c, .int .u64 t.d, .int .u64 u.a, .int .u64 u.b, .int .u64 u.c, .int .u64 u.d] 34)) w') := qhid (fun t u W => union_new _ _ _ _ _ _ _ _ W)
  obtain ⟨r0, r1, rz, rl⟩ := HA.out
  unfold setObj at r0 r1 rz rl
  clear h hT
  obtain ⟨q, hq⟩ : ∃ q, q = k + 1 := ⟨_, rfl⟩
  have HQ := qhid hq
  have hqs : q ≤ s.size := by omega
  have HCL : Hid (classR s k = if bAt s q = 94 then (if (clsFrom s (q + 1)).2.1 ≠ 0 then (noW, (clsFrom s (q + 1)).2.1, (clsFrom s (q + 1)).2.2) else (notW (clsFrom s (q + 1)).1, 0, (clsFrom s (q + 1)).2.2)) else clsFrom s q) := qhid (by rw [hq]; rfl)
  clear hq
  by_cases h94 : bAt s q = 94
  · have SK := qhid (fun W (hW : RdAt W g s q) => skip_yes g s q 94 (by omega) W hW h94 hs)
    obtain ⟨i0, hi0⟩ : ∃ i0, i0 = q + 1 := ⟨_, rfl⟩
    have HI0 : Hid (i0 ≤ s.size) := qhid (by have := in_of_bAt h94 (by omega); omega)
    rw [← hi0] at SK HCL
    rw [if_pos h94] at HCL
    obtain ⟨R, hR⟩ : ∃ R, R = clsFrom s i0 := ⟨_, rfl⟩
    have HRR := qhid hR
    rw [← hR] at HCL
    clear h94 hR hi0 hqs
    go_enter Tryz.func116, Tryz.ntmps116
    go_wp2_with fail
    refine (ST.out _ HA.out).mono ?_
    rintro e w1 ⟨rfl, hw1⟩
    have H1 : Hid (Rd (w.alloc setObj) w1 g s q) := qhid ((Rd.refl HA.out).put (by rw [hw1, HQ.out]; rfl))
    clear hw1 r0 r1 rz rl
    go_wp2_with fail
    refine (SK.out _ H1.out.1).mono ?_
    rintro e w2 ⟨rfl, hr2⟩
    have H2 := qhid (H1.out.trans hr2)
    clear hr2 H1
    have hi0 := HI0.out
    go_wp2_with fail
    refine (IT.out _ hi0 _ H2.out.1 (HT.out.rd H2.out hne)).mono ?_
    rintro e w3 ⟨rfl, hr3⟩
    have H3 := qhid (H2.out.trans hr3)
    clear hr3 H2 hi0
    unfold setAns
    have HS3 : Hid (OwnSet (w3.alloc (setOb (itemR s i0).1)) w3.heap.size (itemR s i0).1) := qhid (OwnSet.of (heap_new _ _))
    have H3a := qhid (H3.out.below (below1 w3 (setOb (itemR s i0).1)))
    have h5g : Hid (w3.heap.size ≠ g) := qhid (by have := H3.out.1.lt; omega)
    have h5w : Hid ((w.alloc setObj).heap.size ≤ w3.heap.size) := qhid H3.out.2.size
    clear H3
    go_wp2_with fail
    generalize w3.alloc (setOb (itemR s i0).1) = w4 at *
    generalize w3.heap.size = b5 at *
    have HCI := qhid (ClsInv.start HI0.out)
    rw [← HRR.out] at HCI
    generalize (itemR s i0).1 = t0 at *
    generalize (itemR s i0).2.1 = e0 at *
    generalize (itemR s i0).2.2 = p0 at *
    go_loopg [6] (s.size + 2) (fun n v wr => ∃ (m : Nat) (t : W4) (e : Int) (i : Nat), m = n ∧ v = .int .i64 e ∧ Hid (ClsInv s R m t e i) ∧ Hid (Rd (w.alloc setObj) wr g s i) ∧ Hid (OwnSet wr b5 t))
    case atStart => exact ⟨_, t0, e0, p0, rfl, rfl, HCI, H3a, HS3⟩
    case round =>
      obtain ⟨m, t, e, i, hm, rfl, HC, HR, HS⟩ := hrel
      clear HCI H3a HS3
      rcases errS HC.out.err with rfl | ⟨hc0, hc1, hc2⟩
      · have hil := HC.out.le
        by_cases h93 : bAt s i = 93
        · have HD := qhid (HC.out.done h93)
          have SYi := qhid (SY.out i h93)
          clear h93 hil
          go_wp2_with fail
          refine (SYi.out _ HR.out.1).mono ?_
          rintro e w5 ⟨rfl, hr5⟩
          have H5 := qhid (HR.out.trans hr5)
          have HS5 := qhid (HS.out.rd hr5 h5g.out)
          clear hr5 HR HS
          obtain ⟨⟨z0, z1, z2, z3⟩, ⟨g0, g1, g2, g3⟩, hz⟩ := HS5.out
          have HF : Hid (classR s k = (notW t, 0, i + 1)) := qhid (by rw [HCL.out, HD.out, if_neg (by simp)])
          have NOTt := qhid (NOT.out t)
          clear HD HCL NOT HC HT
          go_wp2_with fail
          refine (NOTt.out _).mono ?_
          rintro e w6 ⟨rfl, hb6⟩
          have H6 := qhid (H5.out.below hb6)
          have HS6 := qhid (HS5.out.below hb6)
          clear hb6 H5 HS5 z0 z1 z2 z3 g0 g1 g2 g3 hz
          obtain ⟨⟨z0, z1, z2, z3⟩, ⟨g0, g1, g2, g3⟩, hz⟩ := HS6.out
          have H7 := qhid (H6.out.set h5w.out (by rw [World.size_alloc]; omega) (notW t))
          have h5n : ¬ b5 = w.heap.size := by have := h5w.out; rw [World.size_alloc] at this; omega
          obtain ⟨⟨q0, q1, q2, q3⟩, ⟨f0, f1, f2, f3⟩, _hsz⟩ := set_cells (kept_first HH.out H6.out)
          have HRw : Hid (Rd w (setPut w6 b5 (notW t)) g s (i + 1)) := qhid ⟨H7.out.1, only_first H7.out.2⟩
          go_wp2_with fail
          refine bodyPost_ret (v := setAns (notW t) 0) (by simp [results, Tryz.results116, go_sem, setAns, notW, q0, q1, q2, q3]) rfl (finS HF.out ?_)
          exact HRw.out.set (Nat.le_refl _) hlt (notW t)
        · have HN := qhid (HC.out.next h93)
          have SNi := qhid (SN.out i h93)
          have ITi := qhid (IT.out i hil)
          clear h93 hil
          go_wp2_with fail
          refine (SNi.out _ HR.out.1).mono ?_
          rintro e w5 ⟨rfl, n5, hw5⟩
          have H5 : Hid (Rd (w.alloc setObj) w5 g s i) := qhid (by rw [hw5]; exact HR.out.drewN n5)
          have HS5 : Hid (OwnSet w5 b5 t) := qhid (by rw [hw5]; exact HS.out.drewN n5)
          clear hw5 HR HS
          have H6 := qhid (H5.out.below (below1 w5 setObj))
          have HS6 := qhid (HS5.out.below (below1 w5 setObj))
          have HS7 : Hid (OwnSet (w5.alloc setObj) w5.heap.size noW) := qhid (OwnSet.of (heap_new _ _))
          have h7g : Hid (w5.heap.size ≠ g) := qhid (by have := H5.out.1.lt; omega)
          have h7w : Hid ((w.alloc setObj).heap.size ≤ w5.heap.size) := qhid H5.out.2.size
          have h57 : b5 ≠ w5.heap.size := by have := HS5.out.lt; omega
          clear H5 HS5
          go_wp2_with fail
          refine (ITi.out _ H6.out.1 (HT.out.rd H6.out hne)).mono ?_
          rintro e w7 ⟨rfl, hr7⟩
          have H7 := qhid (H6.out.trans hr7)
          have HS8 := qhid (HS6.out.rd hr7 h5g.out)
          have HS9 := qhid (HS7.out.rd hr7 h7g.out)
          clear hr7 H6 HS6 HS7
          unfold setAns
          generalize w5.heap.size = b7 at *
          generalize (itemR s i).1 = t2 at *
          generalize (itemR s i).2.1 = e2 at *
          generalize (itemR s i).2.2 = i2 at *
          have HP7 := qhid (H7.out.set h7w.out (by rw [World.size_alloc]; omega) t2)
          have HP8 := qhid (HS8.out.other (t' := t2) h57)
          have HP9 := qhid (HS9.out.put t2)
          obtain ⟨⟨u0, u1, u2, u3⟩, ⟨v0, v1, v2, v3⟩, hu⟩ := HS9.out
          obtain ⟨⟨z0, z1, z2, z3⟩, ⟨g0, g1, g2, g3⟩, hz⟩ := HS8.out
          have h75 : ¬ b7 = b5 := fun e => h57 e.symm
          clear H7 HS8 HS9 HT HH IT SY SN SNi ITi NOT HCL
          go_wp2_with fail
          have hsz : (setPut w7 b7 t2).heap.size = w7.heap.size := by simp [setPut, World.setCell]
          have UU := U2.out t t2 (setPut w7 b7 t2)
          rw [hsz] at UU
          refine UU.mono ?_
          rintro e w8 ⟨rfl, hb8⟩
          have H8 := qhid ((HP7.out.below (below1 _ _)).below hb8)
          have HS8 := qhid ((HP8.out.below (below1 _ _)).below hb8)
          clear hb8 UU hsz HP7 HP8 HP9 U2 z0 z1 z2 z3 g0 g1 g2 g3 hz u0 u1 u2 u3 v0 v1 v2 v3 hu
          obtain ⟨⟨z0, z1, z2, z3⟩, ⟨g0, g1, g2, g3⟩, hz⟩ := HS8.out
          have H9 := qhid (H8.out.set h5w.out (by rw [World.size_alloc]; omega) (uni2 t t2))
          have HS9 := qhid (HS8.out.put (uni2 t t2))
          have hn2 := HN.out.1
          go_wp2_with fail
          go_roundg (m - 1)
          case measure => omega
          case rel => exact ⟨m - 1, uni2 t t2, e2, i2, rfl, rfl, qhid HN.out.2, H9, HS9⟩
      · have HD := qhid (HC.out.bad hc0)
        have hc0' := hc0
        clear HC HT
        have HF : Hid (classR s k = (noW, e, i)) := qhid (by rw [HCL.out, HD.out, if_pos hc0'])
        clear HD HCL
        obtain ⟨⟨q0, q1, q2, q3⟩, ⟨f0, f1, f2, f3⟩, _hsz⟩ := set_cells (kept_first HH.out HR.out)
        have HRw : Hid (Rd w wr g s i) := qhid ⟨HR.out.1, only_first HR.out.2⟩
        go_wp2_with fail
        refine bodyPost_ret (v := setAns noW e) (by simp [results, Tryz.results116, go_sem, setAns, noW, q0, q1, q2, q3]) rfl (finS HF.out ?_)
        exact HRw.out.set (Nat.le_refl _) hlt noW
  · have SK := qhid (fun W (hW : RdAt W g s q) => skip_no g s q 94 (by omega) W hW h94)
    rw [if_neg h94] at HCL
    obtain ⟨i0, hi0⟩ : ∃ i0, i0 = q := ⟨_, rfl⟩
    rw [← hi0] at SK HCL HQ hqs
    have HI0 : Hid (i0 ≤ s.size) := qhid hqs
    obtain ⟨R, hR⟩ : ∃ R, R = clsFrom s i0 := ⟨_, rfl⟩
    have HRR := qhid hR
    rw [← hR] at HCL
    clear h94 hR hi0 hqs
    go_enter Tryz.func116, Tryz.ntmps116
    go_wp2_with fail
    refine (ST.out _ HA.out).mono ?_
    rintro e w1 ⟨rfl, hw1⟩
    have H1 : Hid (Rd (w.alloc setObj) w1 g s i0) := qhid ((Rd.refl HA.out).put (by rw [hw1, HQ.out]; rfl))
    clear hw1 r0 r1 rz rl
    go_wp2_with fail
    refine (SK.out _ H1.out.1).mono ?_
    rintro e w2 ⟨rfl, n2, hw2⟩
    have H2 : Hid (Rd (w.alloc setObj) w2 g s i0) := qhid (by rw [hw2]; exact H1.out.drewN n2)
    clear hw2 H1
    have hi0 := HI0.out
    go_wp2_with fail
    refine (IT.out _ hi0 _ H2.out.1 (HT.out.rd H2.out hne)).mono ?_
    rintro e w3 ⟨rfl, hr3⟩
    have H3 := qhid (H2.out.trans hr3)
    clear hr3 H2 hi0
    unfold setAns
    have HS3 : Hid (OwnSet (w3.alloc (setOb (itemR s i0).1)) w3.heap.size (itemR s i0).1) := qhid (OwnSet.of (heap_new _ _))
    have H3a := qhid (H3.out.below (below1 w3 (setOb (itemR s i0).1)))
    have h5g : Hid (w3.heap.size ≠ g) := qhid (by have := H3.out.1.lt; omega)
    have h5w : Hid ((w.alloc setObj).heap.size ≤ w3.heap.size) := qhid H3.out.2.size
    clear H3
    go_wp2_with fail
    generalize w3.alloc (setOb (itemR s i0).1) = w4 at *
    generalize w3.heap.size = b5 at *
    have HCI := qhid (ClsInv.start HI0.out)
    rw [← HRR.out] at HCI
    generalize (itemR s i0).1 = t0 at *
    generalize (itemR s i0).2.1 = e0 at *
    generalize (itemR s i0).2.2 = p0 at *
    go_loopg [6] (s.size + 2) (fun n v wr => ∃ (m : Nat) (t : W4) (e : Int) (i : Nat), m = n ∧ v = .int .i64 e ∧ Hid (ClsInv s R m t e i) ∧ Hid (Rd (w.alloc setObj) wr g s i) ∧ Hid (OwnSet wr b5 t))
    case atStart => exact ⟨_, t0, e0, p0, rfl, rfl, HCI, H3a, HS3⟩
    case round =>
      obtain ⟨m, t, e, i, hm, rfl, HC, HR, HS⟩ := hrel
      clear HCI H3a HS3
      rcases errS HC.out.err with rfl | ⟨hc0, hc1, hc2⟩
      · have hil := HC.out.le
        by_cases h93 : bAt s i = 93
        · have HD := qhid (HC.out.done h93)
          have SYi := qhid (SY.out i h93)
          clear h93 hil
          go_wp2_with fail
          refine (SYi.out _ HR.out.1).mono ?_
          rintro e w5 ⟨rfl, hr5⟩
          have H5 := qhid (HR.out.trans hr5)
          have HS5 := qhid (HS.out.rd hr5 h5g.out)
          clear hr5 HR HS
          obtain ⟨⟨z0, z1, z2, z3⟩, ⟨g0, g1, g2, g3⟩, hz⟩ := HS5.out
          have HF : Hid (classR s k = (t, 0, i + 1)) := qhid (by rw [HCL.out, HD.out])
          clear HD HCL HC HT
          obtain ⟨⟨q0, q1, q2, q3⟩, ⟨f0, f1, f2, f3⟩, _hsz⟩ := set_cells (kept_first HH.out H5.out)
          have HRw : Hid (Rd w w5 g s (i + 1)) := qhid ⟨H5.out.1, only_first H5.out.2⟩
          go_wp2_with fail
          refine bodyPost_ret (v := setAns t 0) (by simp [results, Tryz.results116, go_sem, setAns, q0, q1, q2, q3]) rfl (finS HF.out ?_)
          exact HRw.out.set (Nat.le_refl _) hlt t
        · have HN := qhid (HC.out.next h93)
          have SNi := qhid (SN.out i h93)
          have ITi := qhid (IT.out i hil)
          clear h93 hil
          go_wp2_with fail
          refine (SNi.out _ HR.out.1).mono ?_
          rintro e w5 ⟨rfl, n5, hw5⟩
          have H5 : Hid (Rd (w.alloc setObj) w5 g s i) := qhid (by rw [hw5]; exact HR.out.drewN n5)
          have HS5 : Hid (OwnSet w5 b5 t) := qhid (by rw [hw5]; exact HS.out.drewN n5)
          clear hw5 HR HS
          have H6 := qhid (H5.out.below (below1 w5 setObj))
          have HS6 := qhid (HS5.out.below (below1 w5 setObj))
          have HS7 : Hid (OwnSet (w5.alloc setObj) w5.heap.size noW) := qhid (OwnSet.of (heap_new _ _))
          have h7g : Hid (w5.heap.size ≠ g) := qhid (by have := H5.out.1.lt; omega)
          have h7w : Hid ((w.alloc setObj).heap.size ≤ w5.heap.size) := qhid H5.out.2.size
          have h57 : b5 ≠ w5.heap.size := by have := HS5.out.lt; omega
          clear H5 HS5
          go_wp2_with fail
          refine (ITi.out _ H6.out.1 (HT.out.rd H6.out hne)).mono ?_
          rintro e w7 ⟨rfl, hr7⟩
          have H7 := qhid (H6.out.trans hr7)
          have HS8 := qhid (HS6.out.rd hr7 h5g.out)
          have HS9 := qhid (HS7.out.rd hr7 h7g.out)
          clear hr7 H6 HS6 HS7
          unfold setAns
          generalize w5.heap.size = b7 at *
          generalize (itemR s i).1 = t2 at *
          generalize (itemR s i).2.1 = e2 at *
          generalize (itemR s i).2.2 = i2 at *
          have HP7 := qhid (H7.out.set h7w.out (by rw [World.size_alloc]; omega) t2)
          have HP8 := qhid (HS8.out.other (t' := t2) h57)
          have HP9 := qhid (HS9.out.put t2)
          obtain ⟨⟨u0, u1, u2, u3⟩, ⟨v0, v1, v2, v3⟩, hu⟩ := HS9.out
          obtain ⟨⟨z0, z1, z2, z3⟩, ⟨g0, g1, g2, g3⟩, hz⟩ := HS8.out
          have h75 : ¬ b7 = b5 := fun e => h57 e.symm
          clear H7 HS8 HS9 HT HH IT SY SN SNi ITi NOT HCL
          go_wp2_with fail
          have hsz : (setPut w7 b7 t2).heap.size = w7.heap.size := by simp [setPut, World.setCell]
          have UU := U2.out t t2 (setPut w7 b7 t2)
          rw [hsz] at UU
          refine UU.mono ?_
          rintro e w8 ⟨rfl, hb8⟩
          have H8 := qhid ((HP7.out.below (below1 _ _)).below hb8)
          have HS8 := qhid ((HP8.out.below (below1 _ _)).below hb8)
          clear hb8 UU hsz HP7 HP8 HP9 U2 z0 z1 z2 z3 g0 g1 g2 g3 hz u0 u1 u2 u3 v0 v1 v2 v3 hu
          obtain ⟨⟨z0, z1, z2, z3⟩, ⟨g0, g1, g2, g3⟩, hz⟩ := HS8.out
          have H9 := qhid (H8.out.set h5w.out (by rw [World.size_alloc]; omega) (uni2 t t2))
          have HS9 := qhid (HS8.out.put (uni2 t t2))
          have hn2 := HN.out.1
          go_wp2_with fail
          go_roundg (m - 1)
          case measure => omega
          case rel => exact ⟨m - 1, uni2 t t2, e2, i2, rfl, rfl, qhid HN.out.2, H9, HS9⟩
      · have HD := qhid (HC.out.bad hc0)
        clear HC hc0 HT
        have HF : Hid (classR s k = (noW, e, i)) := qhid (by rw [HCL.out, HD.out])
        clear HD HCL
        obtain ⟨⟨q0, q1, q2, q3⟩, ⟨f0, f1, f2, f3⟩, _hsz⟩ := set_cells (kept_first HH.out HR.out)
        have HRw : Hid (Rd w wr g s i) := qhid ⟨HR.out.1, only_first HR.out.2⟩
        go_wp2_with fail
        refine bodyPost_ret (v := setAns noW e) (by simp [results, Tryz.results116, go_sem, setAns, noW, q0, q1, q2, q3]) rfl (finS HF.out ?_)
        exact HRw.out.set (Nat.le_refl _) hlt noW
end Go.Proofs.YtenibhmjcafbiaaGreatDoor
