/- Contracts of token's reader: what opens a group; counts by a sign, and in braces. -/
import Derived.Test.YtcicdiooifjcbaaDoorTokD
namespace Go.Proofs.YtcicdiooifjcbaaDoor
open Go Go.RowKit
attribute [local go_sem ↓] Go.wp_at_zero Go.wp_at_succ
attribute [local go_sem] eq4
theorem finT {t : TokM} {c : Int} {j : Nat} {r : TokM × Int × Nat} (h : r = (t, c, j)) {w w' : World} {g : Nat} {s : ByteArray} (hr : Rd w w' g s j) :
    Ending.returned (tokAns t c) = .returned (tokAns r.1 r.2.1) ∧ Rd w w' g s r.2.2 := by subst h; exact ⟨rfl, hr⟩
/-- What comes of an open bracket. -/
def openR (s : ByteArray) (k : Nat) : TokM × Int × Nat :=
  if bAt s (k + 1) = 63 then (if bAt s (k + 1 + 1) = 58 then (⟨2, noW, 0, 0, false⟩, 0, k + 1 + 1 + 1) else (noTok, 6, k)) else (⟨1, noW, 0, 0, false⟩, 0, k + 1)
set_option maxRecDepth 100000 in
set_option maxHeartbeats 4000000 in
theorem topen_any (g k : Nat) (s : ByteArray) (hk : k < s.size) (hs : s.size ≤ 1099511627776) (w : World) (h : RdAt w g s k) :
    Calls Tryd.prog 38 #[.pointer (some ⟨g, 0, none⟩)] w fun e w' => e = .returned (tokAns (openR s k).1 (openR s k).2.1) ∧ Rd w w' g s (openR s k).2.2 := by
  have HH := qhid h
  have hlt := h.lt
  have HA := qhid (rd_alloc h tokObj)
  have ST := qhid (tstep_any g 1 1 s k (by omega) _ HA.out rfl)
  obtain ⟨r0, r1, rz, rl⟩ := HA.out
  unfold tokObj at ST r0 r1 rz rl
  clear h
  by_cases h63 : bAt s (k + 1) = 63
  · have SK := qhid (fun W (hW : RdAt W g s (k + 1)) => skip_yes g s (k + 1) 63 (by omega) W hW h63 hs)
    by_cases h58 : bAt s (k + 1 + 1) = 58
    · have HF : Hid (openR s k = (⟨2, noW, 0, 0, false⟩, 0, k + 1 + 1 + 1)) := qhid (by unfold openR; rw [if_pos h63, if_pos h58])
      have SL := qhid (fun W (hW : RdAt W g s (k + 1 + 1)) => skip_yes g s (k + 1 + 1) 58 (by omega) W hW h58 hs)
      clear h63 h58
      go_enter Tryd.func38, Tryd.ntmps38
      go_wp2_with fail
      refine ST.out.mono ?_
      rintro e w2 ⟨rfl, hw2⟩
      have HR2 : Hid (Rd (w.alloc tokObj) w2 g s (k + 1)) := qhid ((Rd.refl HA.out).put (by rw [hw2]; rfl))
      clear hw2 r0 r1 rz rl
      go_wp2_with fail
      refine (SK.out _ HR2.out.1).mono ?_
      rintro e w3 ⟨rfl, hr3⟩
      have HR3 := qhid (HR2.out.trans hr3)
      clear hr3
      go_wp2_with fail
      refine (SL.out _ HR3.out.1).mono ?_
      rintro e w4 ⟨rfl, hr4⟩
      have HR4 := qhid (HR3.out.trans hr4)
      clear hr4
      obtain ⟨⟨q0, q1, q2, q3, q4, q5, q6, q7, q8, q9⟩, ⟨f0, f1, f2, f3, f4, f5, f6, f7, f8, f9⟩, _hsz⟩ := tok_cells (kept_first HH.out HR4.out)
      have HRw : Hid (Rd w w4 g s (k + 1 + 1 + 1)) := qhid ⟨HR4.out.1, only_first HR4.out.2⟩
      go_wp2_with fail
      refine bodyPost_ret (v := tokAns ⟨2, noW, 0, 0, false⟩ 0) (by simp [results, Tryd.results38, go_sem, tokAns, TokM.val, noW, q0, q1, q2, q3, q4, q5, q6, q7, q8, q9]) rfl (finT HF.out ?_)
      exact HRw.out.tok (Nat.le_refl _) hlt ⟨2, noW, 0, 0, false⟩
    · have HF : Hid (openR s k = (noTok, 6, k)) := qhid (by unfold openR; rw [if_pos h63, if_neg h58])
      have SL := qhid (fun W (hW : RdAt W g s (k + 1 + 1)) => skip_no g s (k + 1 + 1) 58 (by omega) W hW h58)
      clear h63 h58
      go_enter Tryd.func38, Tryd.ntmps38
      go_wp2_with fail
      refine ST.out.mono ?_
      rintro e w2 ⟨rfl, hw2⟩
      have HR2 : Hid (Rd (w.alloc tokObj) w2 g s (k + 1)) := qhid ((Rd.refl HA.out).put (by rw [hw2]; rfl))
      clear hw2 r0 r1 rz rl
      go_wp2_with fail
      refine (SK.out _ HR2.out.1).mono ?_
      rintro e w3 ⟨rfl, hr3⟩
      have HR3 := qhid (HR2.out.trans hr3)
      clear hr3
      go_wp2_with fail
      refine (SL.out _ HR3.out.1).mono ?_
      rintro e w4 ⟨rfl, n4, hw4⟩
      have HR4 : Hid (Rd (w.alloc tokObj) w4 g s (k + 1 + 1)) := qhid (by rw [hw4]; exact HR3.out.drewN n4)
      have TB := qhid (tback_any g k 6 s (k + 1 + 1) w4 HR4.out.1)
      clear hw4
      go_wp2_with fail
      refine TB.out.mono ?_
      rintro e w5 ⟨rfl, hw5⟩
      have HR5 : Hid (Rd (w.alloc tokObj) w5 g s k) := qhid (HR4.out.put hw5)
      clear hw5
      obtain ⟨⟨q0, q1, q2, q3, q4, q5, q6, q7, q8, q9⟩, ⟨f0, f1, f2, f3, f4, f5, f6, f7, f8, f9⟩, _hsz⟩ := tok_cells (kept_first HH.out HR5.out)
      have HRw : Hid (Rd w w5 g s k) := qhid ⟨HR5.out.1, only_first HR5.out.2⟩
      go_wp2_with fail
      refine bodyPost_ret (v := tokAns noTok 6) (by simp [results, Tryd.results38, go_sem, tokAns, TokM.val, noTok, noW, q0, q1, q2, q3, q4, q5, q6, q7, q8, q9]) rfl (finT HF.out ?_)
      exact HRw.out.tok (Nat.le_refl _) hlt noTok
  · have HF : Hid (openR s k = (⟨1, noW, 0, 0, false⟩, 0, k + 1)) := qhid (by unfold openR; rw [if_neg h63])
    have SK := qhid (fun W (hW : RdAt W g s (k + 1)) => skip_no g s (k + 1) 63 (by omega) W hW h63)
    clear h63
    go_enter Tryd.func38, Tryd.ntmps38
    go_wp2_with fail
    refine ST.out.mono ?_
    rintro e w2 ⟨rfl, hw2⟩
    have HR2 : Hid (Rd (w.alloc tokObj) w2 g s (k + 1)) := qhid ((Rd.refl HA.out).put (by rw [hw2]; rfl))
    clear hw2 r0 r1 rz rl
    go_wp2_with fail
    refine (SK.out _ HR2.out.1).mono ?_
    rintro e w3 ⟨rfl, n3, hw3⟩
    have HR3 : Hid (Rd (w.alloc tokObj) w3 g s (k + 1)) := qhid (by rw [hw3]; exact HR2.out.drewN n3)
    clear hw3
    obtain ⟨⟨q0, q1, q2, q3, q4, q5, q6, q7, q8, q9⟩, ⟨f0, f1, f2, f3, f4, f5, f6, f7, f8, f9⟩, _hsz⟩ := tok_cells (kept_first HH.out HR3.out)
    have HRw : Hid (Rd w w3 g s (k + 1)) := qhid ⟨HR3.out.1, only_first HR3.out.2⟩
    go_wp2_with fail
    refine bodyPost_ret (v := tokAns ⟨1, noW, 0, 0, false⟩ 0) (by simp [results, Tryd.results38, go_sem, tokAns, TokM.val, noW, q0, q1, q2, q3, q4, q5, q6, q7, q8, q9]) rfl (finT HF.out ?_)
    exact HRw.out.tok (Nat.le_refl _) hlt ⟨1, noW, 0, 0, false⟩
/-- What comes of a count's sign. -/
def signR (s : ByteArray) (k : Nat) : TokM × Int × Nat := if bAt s k = 42 then countR s 0 (-1) (k + 1) else if bAt s k = 43 then countR s 1 (-1) (k + 1) else countR s 0 1 (k + 1)
set_option maxRecDepth 100000 in
set_option maxHeartbeats 4000000 in
theorem tsign_any (g k : Nat) (s : ByteArray) (hk : k < s.size) (hs : s.size ≤ 1099511627776) (w : World) (h : RdAt w g s k) :
    Calls Tryd.prog 40 #[.pointer (some ⟨g, 0, none⟩)] w fun e w' => e = .returned (tokAns (signR s k).1 (signR s k).2.1) ∧ Rd w w' g s (signR s k).2.2 := by
  have HH := qhid h
  have hlt := h.lt
  have HA := qhid (rd_alloc h tokObj)
  have ST := qhid (fun n => tstep_any g 1 1 s k (by omega) ((w.alloc tokObj).drewN n) (only_rd HA.out n) rfl)
  obtain ⟨r0, r1, rz, rl⟩ := HA.out
  unfold tokObj at ST r0 r1 rz rl
  clear h
  have hcase : bAt s k = 42 ∨ (bAt s k ≠ 42 ∧ bAt s k = 43) ∨ (bAt s k ≠ 42 ∧ bAt s k ≠ 43) := by
    by_cases h1 : bAt s k = 42
    · exact .inl h1
    · by_cases h2 : bAt s k = 43
      · exact .inr (.inl ⟨h1, h2⟩)
      · exact .inr (.inr ⟨h1, h2⟩)
  rcases hcase with h42 | ⟨h42, h43⟩ | ⟨h42, h43⟩
  · have hb : ((s[k]'hk).toNat) = bAt s k := (bAt_in hk).symm
    have HB := qhid hb
    have CT := qhid (fun W (hW : RdAt W g s (k + 1)) => tcount_any g (k + 1) (0) (-1) s hs W hW)
    have HF : Hid (signR s k = countR s (0) (-1) (k + 1)) := qhid (by unfold signR; rw [if_pos h42])
    have g1 : (((s[k]'hk).toNat : Int) == 42) = true := by rw [hb, h42]; rfl
    clear h42
    obtain ⟨r, hr⟩ : ∃ r, r = countR s (0) (-1) (k + 1) := ⟨_, rfl⟩
    rw [← hr] at CT HF
    clear hr hb
    obtain ⟨t, c, j⟩ := r
    have CT' : Hid (∀ W, RdAt W g s (k + 1) → Calls Tryd.prog 52 #[.pointer (some ⟨g, 0, none⟩), .int .i64 (0), .int .i64 (-1)] W fun e w' => e = .returned (tokAns t c) ∧ Rd W w' g s j) := CT
    clear CT
    go_enter Tryd.func40, Tryd.ntmps40
    go_wp2_with fail
    go_quiet (fail)
    go_wp2_with fail
    refine (ST.out nq).mono ?_
    rintro e w2 ⟨rfl, hw2⟩
    have HR2 : Hid (Rd (w.alloc tokObj) w2 g s (k + 1)) := qhid (((Rd.refl HA.out).drewN nq).put (by rw [hw2]; rfl))
    clear hw2 r0 r1 rz rl
    go_wp2_with fail
    refine (CT'.out _ HR2.out.1).mono ?_
    rintro e w3 ⟨rfl, hr3⟩
    have HR3 := qhid (HR2.out.trans hr3)
    clear hr3
    unfold tokAns TokM.val
    obtain ⟨⟨q0, q1, q2, q3, q4, q5, q6, q7, q8, q9⟩, ⟨f0, f1, f2, f3, f4, f5, f6, f7, f8, f9⟩, _hsz⟩ := tok_cells (kept_first HH.out HR3.out)
    have HRw : Hid (Rd w w3 g s j) := qhid ⟨HR3.out.1, only_first HR3.out.2⟩
    go_wp2_with fail
    refine bodyPost_ret (v := tokAns t c) (by simp [results, Tryd.results40, go_sem, tokAns, TokM.val, q0, q1, q2, q3, q4, q5, q6, q7, q8, q9]) rfl (finT HF.out ?_)
    exact HRw.out.tok (Nat.le_refl _) hlt t
  · have hb : ((s[k]'hk).toNat) = bAt s k := (bAt_in hk).symm
    have HB := qhid hb
    have CT := qhid (fun W (hW : RdAt W g s (k + 1)) => tcount_any g (k + 1) (1) (-1) s hs W hW)
    have HF : Hid (signR s k = countR s (1) (-1) (k + 1)) := qhid (by unfold signR; rw [if_neg h42, if_pos h43])
    have g1 : (((s[k]'hk).toNat : Int) == 42) = false := by rw [hb]; simp; omega
    have g2 : (((s[k]'hk).toNat : Int) == 43) = true := by rw [hb, h43]; rfl
    clear h42 h43
    obtain ⟨r, hr⟩ : ∃ r, r = countR s (1) (-1) (k + 1) := ⟨_, rfl⟩
    rw [← hr] at CT HF
    clear hr hb
    obtain ⟨t, c, j⟩ := r
    have CT' : Hid (∀ W, RdAt W g s (k + 1) → Calls Tryd.prog 52 #[.pointer (some ⟨g, 0, none⟩), .int .i64 (1), .int .i64 (-1)] W fun e w' => e = .returned (tokAns t c) ∧ Rd W w' g s j) := CT
    clear CT
    go_enter Tryd.func40, Tryd.ntmps40
    go_wp2_with fail
    go_quiet (fail)
    go_wp2_with fail
    refine (ST.out nq).mono ?_
    rintro e w2 ⟨rfl, hw2⟩
    have HR2 : Hid (Rd (w.alloc tokObj) w2 g s (k + 1)) := qhid (((Rd.refl HA.out).drewN nq).put (by rw [hw2]; rfl))
    clear hw2 r0 r1 rz rl
    go_wp2_with fail
    refine (CT'.out _ HR2.out.1).mono ?_
    rintro e w3 ⟨rfl, hr3⟩
    have HR3 := qhid (HR2.out.trans hr3)
    clear hr3
    unfold tokAns TokM.val
    obtain ⟨⟨q0, q1, q2, q3, q4, q5, q6, q7, q8, q9⟩, ⟨f0, f1, f2, f3, f4, f5, f6, f7, f8, f9⟩, _hsz⟩ := tok_cells (kept_first HH.out HR3.out)
    have HRw : Hid (Rd w w3 g s j) := qhid ⟨HR3.out.1, only_first HR3.out.2⟩
    go_wp2_with fail
    refine bodyPost_ret (v := tokAns t c) (by simp [results, Tryd.results40, go_sem, tokAns, TokM.val, q0, q1, q2, q3, q4, q5, q6, q7, q8, q9]) rfl (finT HF.out ?_)
    exact HRw.out.tok (Nat.le_refl _) hlt t
  · have hb : ((s[k]'hk).toNat) = bAt s k := (bAt_in hk).symm
    have HB := qhid hb
    have CT := qhid (fun W (hW : RdAt W g s (k + 1)) => tcount_any g (k + 1) (0) (1) s hs W hW)
    have HF : Hid (signR s k = countR s (0) (1) (k + 1)) := qhid (by unfold signR; rw [if_neg h42, if_neg h43])
    have g1 : (((s[k]'hk).toNat : Int) == 42) = false := by rw [hb]; simp; omega
    have g2 : (((s[k]'hk).toNat : Int) == 43) = false := by rw [hb]; simp; omega
    clear h42 h43
    obtain ⟨r, hr⟩ : ∃ r, r = countR s (0) (1) (k + 1) := ⟨_, rfl⟩
    rw [← hr] at CT HF
    clear hr hb
    obtain ⟨t, c, j⟩ := r
    have CT' : Hid (∀ W, RdAt W g s (k + 1) → Calls Tryd.prog 52 #[.pointer (some ⟨g, 0, none⟩), .int .i64 (0), .int .i64 (1)] W fun e w' => e = .returned (tokAns t c) ∧ Rd W w' g s j) := CT
    clear CT
    go_enter Tryd.func40, Tryd.ntmps40
    go_wp2_with fail
    go_quiet (fail)
    go_wp2_with fail
    refine (ST.out nq).mono ?_
    rintro e w2 ⟨rfl, hw2⟩
    have HR2 : Hid (Rd (w.alloc tokObj) w2 g s (k + 1)) := qhid (((Rd.refl HA.out).drewN nq).put (by rw [hw2]; rfl))
    clear hw2 r0 r1 rz rl
    go_wp2_with fail
    refine (CT'.out _ HR2.out.1).mono ?_
    rintro e w3 ⟨rfl, hr3⟩
    have HR3 := qhid (HR2.out.trans hr3)
    clear hr3
    unfold tokAns TokM.val
    obtain ⟨⟨q0, q1, q2, q3, q4, q5, q6, q7, q8, q9⟩, ⟨f0, f1, f2, f3, f4, f5, f6, f7, f8, f9⟩, _hsz⟩ := tok_cells (kept_first HH.out HR3.out)
    have HRw : Hid (Rd w w3 g s j) := qhid ⟨HR3.out.1, only_first HR3.out.2⟩
    go_wp2_with fail
    refine bodyPost_ret (v := tokAns t c) (by simp [results, Tryd.results40, go_sem, tokAns, TokM.val, q0, q1, q2, q3, q4, q5, q6, q7, q8, q9]) rfl (finT HF.out ?_)
    exact HRw.out.tok (Nat.le_refl _) hlt t
end Go.Proofs.YtcicdiooifjcbaaDoor
