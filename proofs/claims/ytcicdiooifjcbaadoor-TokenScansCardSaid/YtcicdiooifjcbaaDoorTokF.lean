/- Contracts of token's reader: a count in braces. -/
import Derived.Test.YtcicdiooifjcbaaDoorTokE
namespace Go.Proofs.YtcicdiooifjcbaaDoor
open Go Go.RowKit
attribute [local go_sem ↓] Go.wp_at_zero Go.wp_at_succ
attribute [local go_sem] eq4
/-- What comes of a count, up to its closing brace. -/
def shutR (s : ByteArray) (lo hi : Int) (j : Nat) : TokM × Int × Nat := if bAt s j = 125 then countR s lo hi (j + 1) else (noTok, 4, j)
/-- What comes of a count in braces. -/
def bracesR (s : ByteArray) (k : Nat) : TokM × Int × Nat :=
  if (numR s (k + 1)).2.1 ≠ 0 then (noTok, (numR s (k + 1)).2.1, (numR s (k + 1)).2.2)
  else if bAt s (numR s (k + 1)).2.2 = 44 then
    (if (mostR s (numR s (k + 1)).1 ((numR s (k + 1)).2.2 + 1)).2.1 ≠ 0 then (noTok, (mostR s (numR s (k + 1)).1 ((numR s (k + 1)).2.2 + 1)).2.1, (mostR s (numR s (k + 1)).1 ((numR s (k + 1)).2.2 + 1)).2.2)
     else shutR s (numR s (k + 1)).1 (mostR s (numR s (k + 1)).1 ((numR s (k + 1)).2.2 + 1)).1 (mostR s (numR s (k + 1)).1 ((numR s (k + 1)).2.2 + 1)).2.2)
  else shutR s (numR s (k + 1)).1 (numR s (k + 1)).1 (numR s (k + 1)).2.2
theorem errs {c : Int} (h : c = 0 ∨ c = 4 ∨ c = 5) : c = 0 ∨ (c ≠ 0 ∧ ((c : Int) == 0) = false ∧ ((c : Int) != 0) = true) := by
  rcases h with rfl | rfl | rfl
  · exact .inl rfl
  · exact .inr ⟨by decide, by decide, by decide⟩
  · exact .inr ⟨by decide, by decide, by decide⟩
theorem mostR_err (s : ByteArray) (lo : Int) (k : Nat) : (mostR s lo k).2.1 = 0 ∨ (mostR s lo k).2.1 = 4 ∨ (mostR s lo k).2.1 = 5 := by
  unfold mostR
  split
  · exact .inl rfl
  · split
    · exact .inr (.inr rfl)
    · exact (numR_val s k).2.2
set_option maxRecDepth 100000 in
set_option maxHeartbeats 8000000 in
theorem tbraces_any (g k : Nat) (s : ByteArray) (hk : k < s.size) (hs : s.size ≤ 1099511627776) (w : World) (h : RdAt w g s k) :
    Calls Tryd.prog 41 #[.pointer (some ⟨g, 0, none⟩)] w fun e w' => e = .returned (tokAns (bracesR s k).1 (bracesR s k).2.1) ∧ Rd w w' g s (bracesR s k).2.2 := by
  have HH := qhid h
  have hlt := h.lt
  have HA := qhid (rd_alloc h tokObj)
  have ST := qhid (tstep_any g 1 1 s k (by omega) _ HA.out rfl)
  have NUM := qhid (fun W (hW : RdAt W g s (k + 1)) => tnumber_any g (k + 1) s (by omega) hs W hW)
  obtain ⟨r0, r1, rz, rl⟩ := HA.out
  unfold tokObj at ST r0 r1 rz rl
  clear h
  have he := (numR_val s (k + 1)).2.2
  have HBR : Hid (bracesR s k = if (numR s (k + 1)).2.1 ≠ 0 then (noTok, (numR s (k + 1)).2.1, (numR s (k + 1)).2.2)
    else if bAt s (numR s (k + 1)).2.2 = 44 then
    (if (mostR s (numR s (k + 1)).1 ((numR s (k + 1)).2.2 + 1)).2.1 ≠ 0 then (noTok, (mostR s (numR s (k + 1)).1 ((numR s (k + 1)).2.2 + 1)).2.1, (mostR s (numR s (k + 1)).1 ((numR s (k + 1)).2.2 + 1)).2.2)
     else shutR s (numR s (k + 1)).1 (mostR s (numR s (k + 1)).1 ((numR s (k + 1)).2.2 + 1)).1 (mostR s (numR s (k + 1)).1 ((numR s (k + 1)).2.2 + 1)).2.2)
    else shutR s (numR s (k + 1)).1 (numR s (k + 1)).1 (numR s (k + 1)).2.2) := qhid rfl
  obtain ⟨r, hr⟩ : ∃ r, r = numR s (k + 1) := ⟨_, rfl⟩
  rw [← hr] at NUM he HBR
  clear hr
  obtain ⟨x, c, j⟩ := r
  have NUM' : Hid (∀ W, RdAt W g s (k + 1) → Calls Tryd.prog 53 #[.pointer (some ⟨g, 0, none⟩)] W fun e w' => e = .returned (.tuple #[.int .i64 x, .int .i64 c]) ∧ Rd W w' g s j) := NUM
  have HBR' : Hid (bracesR s k = if c ≠ 0 then (noTok, c, j) else if bAt s j = 44 then
    (if (mostR s x (j + 1)).2.1 ≠ 0 then (noTok, (mostR s x (j + 1)).2.1, (mostR s x (j + 1)).2.2) else shutR s x (mostR s x (j + 1)).1 (mostR s x (j + 1)).2.2) else shutR s x x j) := HBR
  have hec := errs he
  clear NUM HBR he
  rcases hec with rfl | ⟨hc0, hc1, hc2⟩
  · by_cases h44 : bAt s j = 44
    · have hj := in_of_bAt h44 (by omega)
      have SK := qhid (fun W (hW : RdAt W g s j) => skip_yes g s j 44 (by omega) W hW h44 hs)
      have MO := qhid (fun W (hW : RdAt W g s (j + 1)) => tmost_any g (j + 1) x s (by omega) hs W hW)
      have HB2 : Hid (bracesR s k = if (mostR s x (j + 1)).2.1 ≠ 0 then (noTok, (mostR s x (j + 1)).2.1, (mostR s x (j + 1)).2.2) else shutR s x (mostR s x (j + 1)).1 (mostR s x (j + 1)).2.2) := qhid (by rw [HBR'.out, if_neg (by simp), if_pos h44])
      have he2 := mostR_err s x (j + 1)
      obtain ⟨m, hm⟩ : ∃ m, m = mostR s x (j + 1) := ⟨_, rfl⟩
      rw [← hm] at MO HB2 he2
      clear hm h44
      obtain ⟨y, c2, j2⟩ := m
      have MO' : Hid (∀ W, RdAt W g s (j + 1) → Calls Tryd.prog 54 #[.pointer (some ⟨g, 0, none⟩), .int .i64 x] W fun e w' => e = .returned (.tuple #[.int .i64 y, .int .i64 c2]) ∧ Rd W w' g s j2) := MO
      have HB3 : Hid (bracesR s k = if c2 ≠ 0 then (noTok, c2, j2) else shutR s x y j2) := HB2
      have hec2 := errs he2
      clear MO HB2 he2 HBR'
      rcases hec2 with rfl | ⟨hd0, hd1, hd2⟩
      · have HS : Hid (bracesR s k = shutR s x y j2) := qhid (by rw [HB3.out, if_neg (by simp)])
        by_cases h125 : bAt s j2 = 125
        · have SC := qhid (fun W (hW : RdAt W g s j2) => skip_yes g s j2 125 (by omega) W hW h125 hs)
          have CT := qhid (fun W (hW : RdAt W g s (j2 + 1)) => tcount_any g (j2 + 1) (x) (y) s hs W hW)
          have HF : Hid (bracesR s k = countR s (x) (y) (j2 + 1)) := qhid (by rw [HS.out]; unfold shutR; rw [if_pos h125])
          obtain ⟨rr, hrr⟩ : ∃ rr, rr = countR s (x) (y) (j2 + 1) := ⟨_, rfl⟩
          rw [← hrr] at CT HF
          clear hrr h125
          obtain ⟨t, c9, j9⟩ := rr
          have CT' : Hid (∀ W, RdAt W g s (j2 + 1) → Calls Tryd.prog 52 #[.pointer (some ⟨g, 0, none⟩), .int .i64 (x), .int .i64 (y)] W fun e w' => e = .returned (tokAns t c9) ∧ Rd W w' g s j9) := CT
          clear CT
          go_enter Tryd.func41, Tryd.ntmps41
          go_wp2_with fail
          refine ST.out.mono ?_
          rintro e w2 ⟨rfl, hw2⟩
          have HR2 : Hid (Rd (w.alloc tokObj) w2 g s (k + 1)) := qhid ((Rd.refl HA.out).put (by rw [hw2]; rfl))
          clear hw2 r0 r1 rz rl
          go_wp2_with fail
          refine (NUM'.out _ HR2.out.1).mono ?_
          rintro e w3 ⟨rfl, hr3⟩
          have HR3 := qhid (HR2.out.trans hr3)
          clear hr3
          go_wp2_with fail
          refine (SK.out _ HR3.out.1).mono ?_
          rintro e w4 ⟨rfl, hrw4⟩
          have Hw4 := qhid (HR3.out.trans hrw4)
          clear hrw4
          go_wp2_with fail
          refine (MO'.out _ Hw4.out.1).mono ?_
          rintro e w5 ⟨rfl, hrw5⟩
          have Hw5 := qhid (Hw4.out.trans hrw5)
          clear hrw5
          go_wp2_with fail
          refine (SC.out _ Hw5.out.1).mono ?_
          rintro e w8 ⟨rfl, hrw8⟩
          have Hw8 := qhid (Hw5.out.trans hrw8)
          clear hrw8
          go_wp2_with fail
          refine (CT'.out _ Hw8.out.1).mono ?_
          rintro e w9 ⟨rfl, hrw9⟩
          have Hw9 := qhid (Hw8.out.trans hrw9)
          clear hrw9
          unfold tokAns TokM.val
          obtain ⟨⟨q0, q1, q2, q3, q4, q5, q6, q7, q8, q9⟩, ⟨f0, f1, f2, f3, f4, f5, f6, f7, f8, f9⟩, _hsz⟩ := tok_cells (kept_first HH.out Hw9.out)
          have HRw : Hid (Rd w w9 g s j9) := qhid ⟨Hw9.out.1, only_first Hw9.out.2⟩
          go_wp2_with fail
          refine bodyPost_ret (v := tokAns t c9) (by simp [results, Tryd.results41, go_sem, tokAns, TokM.val, q0, q1, q2, q3, q4, q5, q6, q7, q8, q9]) rfl (finT HF.out ?_)
          exact HRw.out.tok (Nat.le_refl _) hlt t
        · have SC := qhid (fun W (hW : RdAt W g s j2) => skip_no g s j2 125 (by omega) W hW h125)
          have HF : Hid (bracesR s k = (noTok, 4, j2)) := qhid (by rw [HS.out]; unfold shutR; rw [if_neg h125])
          clear h125
          go_enter Tryd.func41, Tryd.ntmps41
          go_wp2_with fail
          refine ST.out.mono ?_
          rintro e w2 ⟨rfl, hw2⟩
          have HR2 : Hid (Rd (w.alloc tokObj) w2 g s (k + 1)) := qhid ((Rd.refl HA.out).put (by rw [hw2]; rfl))
          clear hw2 r0 r1 rz rl
          go_wp2_with fail
          refine (NUM'.out _ HR2.out.1).mono ?_
          rintro e w3 ⟨rfl, hr3⟩
          have HR3 := qhid (HR2.out.trans hr3)
          clear hr3
          go_wp2_with fail
          refine (SK.out _ HR3.out.1).mono ?_
          rintro e w4 ⟨rfl, hrw4⟩
          have Hw4 := qhid (HR3.out.trans hrw4)
          clear hrw4
          go_wp2_with fail
          refine (MO'.out _ Hw4.out.1).mono ?_
          rintro e w5 ⟨rfl, hrw5⟩
          have Hw5 := qhid (Hw4.out.trans hrw5)
          clear hrw5
          go_wp2_with fail
          refine (SC.out _ Hw5.out.1).mono ?_
          rintro e w8 ⟨rfl, nw8, hww8⟩
          have Hw8 : Hid (Rd (w.alloc tokObj) w8 g s j2) := qhid (by rw [hww8]; exact Hw5.out.drewN nw8)
          clear hww8
          obtain ⟨⟨q0, q1, q2, q3, q4, q5, q6, q7, q8, q9⟩, ⟨f0, f1, f2, f3, f4, f5, f6, f7, f8, f9⟩, _hsz⟩ := tok_cells (kept_first HH.out Hw8.out)
          have HRw : Hid (Rd w w8 g s j2) := qhid ⟨Hw8.out.1, only_first Hw8.out.2⟩
          go_wp2_with fail
          refine bodyPost_ret (v := tokAns noTok 4) (by simp [results, Tryd.results41, go_sem, tokAns, TokM.val, noTok, noW, q0, q1, q2, q3, q4, q5, q6, q7, q8, q9]) rfl (finT HF.out ?_)
          exact HRw.out.tok (Nat.le_refl _) hlt noTok
      · have HF : Hid (bracesR s k = (noTok, c2, j2)) := qhid (by rw [HB3.out, if_pos hd0])
        clear hd0
        go_enter Tryd.func41, Tryd.ntmps41
        go_wp2_with fail
        refine ST.out.mono ?_
        rintro e w2 ⟨rfl, hw2⟩
        have HR2 : Hid (Rd (w.alloc tokObj) w2 g s (k + 1)) := qhid ((Rd.refl HA.out).put (by rw [hw2]; rfl))
        clear hw2 r0 r1 rz rl
        go_wp2_with fail
        refine (NUM'.out _ HR2.out.1).mono ?_
        rintro e w3 ⟨rfl, hr3⟩
        have HR3 := qhid (HR2.out.trans hr3)
        clear hr3
        go_wp2_with fail
        refine (SK.out _ HR3.out.1).mono ?_
        rintro e w4 ⟨rfl, hrw4⟩
        have Hw4 := qhid (HR3.out.trans hrw4)
        clear hrw4
        go_wp2_with fail
        refine (MO'.out _ Hw4.out.1).mono ?_
        rintro e w5 ⟨rfl, hrw5⟩
        have Hw5 := qhid (Hw4.out.trans hrw5)
        clear hrw5
        obtain ⟨⟨q0, q1, q2, q3, q4, q5, q6, q7, q8, q9⟩, ⟨f0, f1, f2, f3, f4, f5, f6, f7, f8, f9⟩, _hsz⟩ := tok_cells (kept_first HH.out Hw5.out)
        have HRw : Hid (Rd w w5 g s j2) := qhid ⟨Hw5.out.1, only_first Hw5.out.2⟩
        go_wp2_with fail
        refine bodyPost_ret (v := tokAns noTok c2) (by simp [results, Tryd.results41, go_sem, tokAns, TokM.val, noTok, noW, q0, q1, q2, q3, q4, q5, q6, q7, q8, q9]) rfl (finT HF.out ?_)
        exact HRw.out.tok (Nat.le_refl _) hlt noTok
    · have SK := qhid (fun W (hW : RdAt W g s j) => skip_no g s j 44 (by omega) W hW h44)
      have HS : Hid (bracesR s k = shutR s x x j) := qhid (by rw [HBR'.out, if_neg (by simp), if_neg h44])
      clear h44 HBR'
      by_cases h125 : bAt s j = 125
      · have SC := qhid (fun W (hW : RdAt W g s j) => skip_yes g s j 125 (by omega) W hW h125 hs)
        have CT := qhid (fun W (hW : RdAt W g s (j + 1)) => tcount_any g (j + 1) (x) (x) s hs W hW)
        have HF : Hid (bracesR s k = countR s (x) (x) (j + 1)) := qhid (by rw [HS.out]; unfold shutR; rw [if_pos h125])
        obtain ⟨rr, hrr⟩ : ∃ rr, rr = countR s (x) (x) (j + 1) := ⟨_, rfl⟩
        rw [← hrr] at CT HF
        clear hrr h125
        obtain ⟨t, c9, j9⟩ := rr
        have CT' : Hid (∀ W, RdAt W g s (j + 1) → Calls Tryd.prog 52 #[.pointer (some ⟨g, 0, none⟩), .int .i64 (x), .int .i64 (x)] W fun e w' => e = .returned (tokAns t c9) ∧ Rd W w' g s j9) := CT
        clear CT
        go_enter Tryd.func41, Tryd.ntmps41
        go_wp2_with fail
        refine ST.out.mono ?_
        rintro e w2 ⟨rfl, hw2⟩
        have HR2 : Hid (Rd (w.alloc tokObj) w2 g s (k + 1)) := qhid ((Rd.refl HA.out).put (by rw [hw2]; rfl))
        clear hw2 r0 r1 rz rl
        go_wp2_with fail
        refine (NUM'.out _ HR2.out.1).mono ?_
        rintro e w3 ⟨rfl, hr3⟩
        have HR3 := qhid (HR2.out.trans hr3)
        clear hr3
        go_wp2_with fail
        refine (SK.out _ HR3.out.1).mono ?_
        rintro e w4 ⟨rfl, nw4, hww4⟩
        have Hw4 : Hid (Rd (w.alloc tokObj) w4 g s j) := qhid (by rw [hww4]; exact HR3.out.drewN nw4)
        clear hww4
        go_wp2_with fail
        refine (SC.out _ Hw4.out.1).mono ?_
        rintro e w8 ⟨rfl, hrw8⟩
        have Hw8 := qhid (Hw4.out.trans hrw8)
        clear hrw8
        go_wp2_with fail
        refine (CT'.out _ Hw8.out.1).mono ?_
        rintro e w9 ⟨rfl, hrw9⟩
        have Hw9 := qhid (Hw8.out.trans hrw9)
        clear hrw9
        unfold tokAns TokM.val
        obtain ⟨⟨q0, q1, q2, q3, q4, q5, q6, q7, q8, q9⟩, ⟨f0, f1, f2, f3, f4, f5, f6, f7, f8, f9⟩, _hsz⟩ := tok_cells (kept_first HH.out Hw9.out)
        have HRw : Hid (Rd w w9 g s j9) := qhid ⟨Hw9.out.1, only_first Hw9.out.2⟩
        go_wp2_with fail
        refine bodyPost_ret (v := tokAns t c9) (by simp [results, Tryd.results41, go_sem, tokAns, TokM.val, q0, q1, q2, q3, q4, q5, q6, q7, q8, q9]) rfl (finT HF.out ?_)
        exact HRw.out.tok (Nat.le_refl _) hlt t
      · have SC := qhid (fun W (hW : RdAt W g s j) => skip_no g s j 125 (by omega) W hW h125)
        have HF : Hid (bracesR s k = (noTok, 4, j)) := qhid (by rw [HS.out]; unfold shutR; rw [if_neg h125])
        clear h125
        go_enter Tryd.func41, Tryd.ntmps41
        go_wp2_with fail
        refine ST.out.mono ?_
        rintro e w2 ⟨rfl, hw2⟩
        have HR2 : Hid (Rd (w.alloc tokObj) w2 g s (k + 1)) := qhid ((Rd.refl HA.out).put (by rw [hw2]; rfl))
        clear hw2 r0 r1 rz rl
        go_wp2_with fail
        refine (NUM'.out _ HR2.out.1).mono ?_
        rintro e w3 ⟨rfl, hr3⟩
        have HR3 := qhid (HR2.out.trans hr3)
        clear hr3
        go_wp2_with fail
        refine (SK.out _ HR3.out.1).mono ?_
        rintro e w4 ⟨rfl, nw4, hww4⟩
        have Hw4 : Hid (Rd (w.alloc tokObj) w4 g s j) := qhid (by rw [hww4]; exact HR3.out.drewN nw4)
        clear hww4
        go_wp2_with fail
        refine (SC.out _ Hw4.out.1).mono ?_
        rintro e w8 ⟨rfl, nw8, hww8⟩
        have Hw8 : Hid (Rd (w.alloc tokObj) w8 g s j) := qhid (by rw [hww8]; exact Hw4.out.drewN nw8)
        clear hww8
        obtain ⟨⟨q0, q1, q2, q3, q4, q5, q6, q7, q8, q9⟩, ⟨f0, f1, f2, f3, f4, f5, f6, f7, f8, f9⟩, _hsz⟩ := tok_cells (kept_first HH.out Hw8.out)
        have HRw : Hid (Rd w w8 g s j) := qhid ⟨Hw8.out.1, only_first Hw8.out.2⟩
        go_wp2_with fail
        refine bodyPost_ret (v := tokAns noTok 4) (by simp [results, Tryd.results41, go_sem, tokAns, TokM.val, noTok, noW, q0, q1, q2, q3, q4, q5, q6, q7, q8, q9]) rfl (finT HF.out ?_)
        exact HRw.out.tok (Nat.le_refl _) hlt noTok
  · have HF : Hid (bracesR s k = (noTok, c, j)) := qhid (by rw [HBR'.out, if_pos hc0])
    clear hc0 HBR'
    go_enter Tryd.func41, Tryd.ntmps41
    go_wp2_with fail
    refine ST.out.mono ?_
    rintro e w2 ⟨rfl, hw2⟩
    have HR2 : Hid (Rd (w.alloc tokObj) w2 g s (k + 1)) := qhid ((Rd.refl HA.out).put (by rw [hw2]; rfl))
    clear hw2 r0 r1 rz rl
    go_wp2_with fail
    refine (NUM'.out _ HR2.out.1).mono ?_
    rintro e w3 ⟨rfl, hr3⟩
    have HR3 := qhid (HR2.out.trans hr3)
    clear hr3
    obtain ⟨⟨q0, q1, q2, q3, q4, q5, q6, q7, q8, q9⟩, ⟨f0, f1, f2, f3, f4, f5, f6, f7, f8, f9⟩, _hsz⟩ := tok_cells (kept_first HH.out HR3.out)
    have HRw : Hid (Rd w w3 g s j) := qhid ⟨HR3.out.1, only_first HR3.out.2⟩
    go_wp2_with fail
    refine bodyPost_ret (v := tokAns noTok c) (by simp [results, Tryd.results41, go_sem, tokAns, TokM.val, noTok, noW, q0, q1, q2, q3, q4, q5, q6, q7, q8, q9]) rfl (finT HF.out ?_)
    exact HRw.out.tok (Nat.le_refl _) hlt noTok
end Go.Proofs.YtcicdiooifjcbaaDoor
