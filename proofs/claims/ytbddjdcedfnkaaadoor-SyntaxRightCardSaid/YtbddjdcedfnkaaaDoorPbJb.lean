/- The statement on Right: the walk, of some kinds. -/
import Derived.Test.YtbddjdcedfnkaaaDoorPbJ
namespace Go.Proofs.YtbddjdcedfnkaaaDoor
open Go Go.RowKit
attribute [local go_sem ↓] Go.wp_at_zero Go.wp_at_succ
attribute [local go_sem] eq4
set_option maxRecDepth 100000 in
set_option maxHeartbeats 8000000 in
theorem rightlaw_b (kind lo hi : Int) (z : Bool) (p : Option Addr) (n cap : Nat) (ks : List Int) (s : W4) (w : World) (hk : ks.length = n) (hp : ∀ (i : Nat) (x : Int), ks[i]? = some x → ∃ g o, p = some ⟨g, o, none⟩ ∧ g < w.heap.size ∧ w.cell? ⟨g, o + i, none⟩ = some (.int .i64 x))
    (hT : ∀ w', Below w.heap.size w w' → Tab w') (hkd : kind = 4 ∨ kind = 5) :
    Calls Tryd.prog 3 #[.int .i64 kind, .int .i64 lo, .int .i64 hi, .bool z, .slice p n cap, .agg #[.int .u64 s.a, .int .u64 s.b, .int .u64 s.c, .int .u64 s.d]] w fun e w' => e = .returned (.bool true) ∧ Below w.heap.size w w' := by
  have HP := qhid hp
  have HT := qhid hT
  have HK := qhid hk
  have HKD0 := qhid hkd
  clear hp hT hk hkd
  by_cases hn : 20 < n
  · have AW := qhid (syn_awake (w.alloc (.cells #[.int .u64 s.a, .int .u64 s.b, .int .u64 s.c, .int .u64 s.d] 25)) (HT.out _ (below1 _ _)))
    have HB := qhid (below1 w (.cells #[.int .u64 s.a, .int .u64 s.b, .int .u64 s.c, .int .u64 s.d] 25))
    have hn2 : (20 : Int) < (n : Int) := by omega
    go_enter Tryd.func3, Tryd.ntmps3
    go_wp2_with fail
    refine AW.out.mono ?_
    rintro e w1 ⟨rfl, h1⟩
    have H1 := qhid (HB.out.trans (h1.mono HB.out.size))
    clear h1 AW HB
    go_wp2_with fail
    exact bodyPost_ret (v := .bool true) (by simp [results, Tryd.results3, go_sem]) rfl ⟨rfl, H1.out⟩
  · have hn2 : ¬ (20 : Int) < (n : Int) := by omega
    have HI := qhid (rt_start w ks s kind lo hi z)
    go_enter Tryd.func3, Tryd.ntmps3
    go_wp2_with fail
    obtain ⟨W0, hW0⟩ : ∃ X, X = (w.alloc (.cells #[.int .u64 s.a, .int .u64 s.b, .int .u64 s.c, .int .u64 s.d] 25)).alloc (ndOb kind s lo hi z (.slice none 0 0) 0 0) := ⟨_, rfl⟩
    change Code.wp _ _ _ _ ((w.alloc (.cells #[.int .u64 s.a, .int .u64 s.b, .int .u64 s.c, .int .u64 s.d] 25)).alloc (ndOb kind s lo hi z (.slice none 0 0) 0 0))
    rw [← hW0] at HI ⊢
    clear hW0
    go_loopw [14, 15, 16, 17, 18] (fun pa nn ca al i wr => ∃ j : Nat, j ≤ n ∧ pa = .int .i64 j ∧ i = .int .i64 j ∧ nn = .bool (noneB (ks.take j)) ∧ ca = .bool (catsB (ks.take j)) ∧ al = .bool (altsB (ks.take j)) ∧ Hid (RtInv w wr ks s kind lo hi z j)) (fun _ _ _ _ i _ => n - (intOf i).toNat)
    case atStart => exact ⟨0, by omega, rfl, rfl, rfl, rfl, rfl, HI⟩
    case round =>
      obtain ⟨j, hj, rfl, rfl, rfl, rfl, rfl, HR⟩ := hrel
      by_cases hlt : j < n
      · obtain ⟨x, hx⟩ : ∃ x, ks[j]? = some x := ⟨_, List.getElem?_eq_getElem (by rw [HK.out]; exact hlt)⟩
        obtain ⟨g, o, rfl, hg, hcx⟩ := HP.out j x hx
        have HX := qhid hx
        have HN1 : Hid (noneB (ks.take (j + 1)) = (noneB (ks.take j) || !(decide (x = 1) || (decide (x = 2 ∨ x = 3) || decide (x = 4 ∨ x = 5))))) := qhid (any_snoc _ ks j x hx)
        have HC1 : Hid (catsB (ks.take (j + 1)) = (catsB (ks.take j) || decide (x = 4))) := qhid (any_snoc _ ks j x hx)
        have HA1 : Hid (altsB (ks.take (j + 1)) = (altsB (ks.take j) || decide (x = 5))) := qhid (any_snoc _ ks j x hx)
        have HCX : Hid (wr.cell? ⟨g, o + j, none⟩ = some (.int .i64 x)) := qhid ((World.cell?_of_block (w := w) (a := ⟨g, o + j, none⟩) (HR.out.bel.block g hg)).trans hcx)
        have hgr : g < wr.heap.size := Nat.lt_of_lt_of_le hg HR.out.bel.size
        have kx := HCX.out
        have hS1 := Reg.size_of_get HR.out.set
        obtain ⟨y0, y1, y2, y3⟩ := set_cells4 HR.out.set
        clear hx hcx
        generalize noneB (ks.take j) = b1 at *
        generalize catsB (ks.take j) = b2 at *
        generalize altsB (ks.take j) = b3 at *
        go_upto_block 2 with fail
        go_cut [15, 16, 17, 19] (fun nn ca al xv wx => ∃ q, xv = ndPtr q ∧ nn = .bool (b1 || !(decide (x = 1) || (decide (x = 2 ∨ x = 3) || decide (x = 4 ∨ x = 5)))) ∧ ca = .bool (b2 || decide (x = 4)) ∧ al = .bool (b3 || decide (x = 5)) ∧ Hid (NdAt wx (fun b => wr.heap.size ≤ b) (childT s x) (ndPtr q)) ∧ Hid (Below wr.heap.size wr wx))
        case first =>
          clear HP HT HK HN1 HC1 HA1 HX HI
          by_cases h1 : x = 1
          · subst h1
            have HNL := qhid (nest_leaf wr (.cells #[.int .i64 0, .int .u64 0, .int .u64 0, .int .u64 0, .int .u64 0, .int .i64 0, .int .i64 0, .bool false, .slice none 0 0, .int .i64 0, .int .i64 0] 31) s)
            as_aux_lemma =>
              go_wp2_with fail
              go_meet
              exact ⟨_, rfl, by simp, by simp, by simp, qhid HNL.out.1, qhid HNL.out.2⟩
          · by_cases h2 : x = 2
            · subst h2
              have HNL := qhid (nest_group wr (.cells #[.int .i64 0, .int .u64 0, .int .u64 0, .int .u64 0, .int .u64 0, .int .i64 0, .int .i64 0, .bool false, .slice none 0 0, .int .i64 0, .int .i64 0] 31) 2)
              have kx2 := (World.cell?_of_block (w := wr) (a := ⟨g, o + j, none⟩) ((below1 wr (.cells #[.int .i64 0, .int .u64 0, .int .u64 0, .int .u64 0, .int .u64 0, .int .i64 0, .int .i64 0, .bool false, .slice none 0 0, .int .i64 0, .int .i64 0] 31)).block g hgr)).trans HCX.out
              as_aux_lemma =>
                go_wp2_with fail
                go_meet
                exact ⟨_, rfl, by simp, by simp, by simp, qhid HNL.out.1, qhid HNL.out.2⟩
            · by_cases h3 : x = 3
              · subst h3
                have HNL := qhid (nest_group wr (.cells #[.int .i64 0, .int .u64 0, .int .u64 0, .int .u64 0, .int .u64 0, .int .i64 0, .int .i64 0, .bool false, .slice none 0 0, .int .i64 0, .int .i64 0] 31) 3)
                as_aux_lemma =>
                  go_wp2_with fail
                  go_meet
                  exact ⟨_, rfl, by simp, by simp, by simp, qhid HNL.out.1, qhid HNL.out.2⟩
              · have q1 : (x == 1) = false := by simpa using h1
                have q2 : (x == 2) = false := by simpa using h2
                have q3 : (x == 3) = false := by simpa using h3
                by_cases h45 : x = 4 ∨ x = 5
                · have HCT : Hid (childT s x = .mk x noW 0 0 false 0 0 [leafT noW, leafT s]) := qhid (by unfold childT; rw [if_neg h1, if_neg (by omega), if_pos h45])
                  have hbe := below1 wr (.cells #[.int .i64 0, .int .u64 0, .int .u64 0, .int .u64 0, .int .u64 0, .int .i64 0, .int .i64 0, .bool false, .slice none 0 0, .int .i64 0, .int .i64 0] 31)
                  have hkd : decide (x = 1) = false ∧ decide (x = 2 ∨ x = 3) = false ∧ decide (x = 4 ∨ x = 5) = true := ⟨decide_eq_false h1, decide_eq_false (by omega), decide_eq_true h45⟩
                  have HKD := qhid hkd
                  have HW1 : Hid ((wr.alloc (.cells #[.int .i64 0, .int .u64 0, .int .u64 0, .int .u64 0, .int .u64 0, .int .i64 0, .int .i64 0, .bool false, .slice none 0 0, .int .i64 0, .int .i64 0] 31)).drew.heap[w.heap.size]? = some (.cells #[.int .u64 s.a, .int .u64 s.b, .int .u64 s.c, .int .u64 s.d] 25)) := qhid (below_kept hbe.drew HR.out.set)
                  have HC2 : Hid ((wr.alloc (.cells #[.int .i64 0, .int .u64 0, .int .u64 0, .int .u64 0, .int .u64 0, .int .i64 0, .int .i64 0, .bool false, .slice none 0 0, .int .i64 0, .int .i64 0] 31)).drew.cell? ⟨g, o + j, none⟩ = some (.int .i64 x)) := qhid ((World.cell?_of_block (w := wr) (a := ⟨g, o + j, none⟩) (hbe.drew.block g hgr)).trans HCX.out)
                  have HBE : Hid (Below wr.heap.size wr (wr.alloc (.cells #[.int .i64 0, .int .u64 0, .int .u64 0, .int .u64 0, .int .u64 0, .int .i64 0, .int .i64 0, .bool false, .slice none 0 0, .int .i64 0, .int .i64 0] 31)).drew) := qhid hbe.drew
                  have q45 : (x == 4) = true ∨ ((x == 4) = false ∧ (x == 5) = true) := by
                    rcases h45 with h | h
                    · exact .inl (by simp [h])
                    · exact .inr ⟨by simp [h], by simp [h]⟩
                  have HDX : Hid (decide (x = 4) = (x == 4) ∧ decide (x = 5) = (x == 5)) := qhid ⟨by by_cases h : x = 4 <;> simp [h], by by_cases h : x = 5 <;> simp [h]⟩
                  clear h1 h2 h3 h45 hkd hbe
                  rcases q45 with q4 | ⟨q4, q5⟩
                  · go_upto_region 19 with fail
                    obtain ⟨W, hW⟩ : ∃ X, X = (wr.alloc (.cells #[.int .i64 0, .int .u64 0, .int .u64 0, .int .u64 0, .int .u64 0, .int .i64 0, .int .i64 0, .bool false, .slice none 0 0, .int .i64 0, .int .i64 0] 31)).drew := ⟨_, rfl⟩
                    have hgW : g < W.heap.size := by rw [hW]; exact Nat.lt_of_lt_of_le hgr (below1 wr (.cells #[.int .i64 0, .int .u64 0, .int .u64 0, .int .u64 0, .int .u64 0, .int .i64 0, .int .i64 0, .bool false, .slice none 0 0, .int .i64 0, .int .i64 0] 31)).size
                    rw [← hW] at HW1 HC2 HBE
                    have HSB := HW1
                    have HCX := HC2
                    have HWE : Hid ((wr.alloc (.cells #[.int .i64 0, .int .u64 0, .int .u64 0, .int .u64 0, .int .u64 0, .int .i64 0, .int .i64 0, .bool false, .slice none 0 0, .int .i64 0, .int .i64 0] 31)).drew = W) := qhid hW.symm
                    clear hW kx y0 y1 y2 y3
                    refine Reg.wp_region_G (q19Told g o n cap j s x) (NdQ W s x) (0, 0, 0, 0) [0, 1, 2, 3, 4, 5, 6, 7, 8, 9, 10, 11, 12] (by rfl) (by kernel_rfl) (by kernel_rfl) ?_ ?_ ?_
                    · have e : (wr.alloc (.cells #[.int .i64 0, .int .u64 0, .int .u64 0, .int .u64 0, .int .u64 0, .int .i64 0, .int .i64 0, .bool false, .slice none 0 0, .int .i64 0, .int .i64 0] 31)).drew = W := HWE.out
                      exact e ▸ ⟨Below.refl _ _, (fun e => by simp at e), (fun e => by simp at e), (fun e => by simp at e), (fun e => by simp at e), (fun e => by simp at e), (fun e => by simp at e), (fun e => by simp at e), (fun e => by simp at e)⟩
                    · skip
                      refine ⟨fun gh listed A X hI hin hun hall => ⟨Reg.wanted_none rfl, ?_⟩, ?_⟩
                      · have e4 := hI.evo (d := 4) (by kernel_rfl) rfl
                        have HS := hI.st
                        clear hI hall
                        as_aux_lemma =>
                          unfold Reg.Yields
                          go_simp
                          exact Reg.goodG_same rfl (HS.up (by decide) (by decide) (by decide) (by decide) (fun e => absurd e (by decide)) (fun e => absurd e (by decide)) (Below.refl _ _))
                      refine ⟨fun gh listed A X hI hin hun hall => ⟨Reg.wanted_none rfl, ?_⟩, ?_⟩
                      · have e18 := hI.evo (d := 18) (by kernel_rfl) rfl
                        have HS := hI.st
                        clear hI hall
                        as_aux_lemma =>
                          unfold Reg.Yields
                          go_simp
                          exact Reg.goodG_same rfl (HS.up (by decide) (by decide) (by decide) (by decide) (fun e => absurd e (by decide)) (fun e => absurd e (by decide)) (Below.refl _ _))
                      refine ⟨fun gh listed A X hI hin hun hall => ⟨Reg.wanted_none rfl, ?_⟩, ?_⟩
                      · have e64 : A.tmps[64]? = some (.slice (some ⟨g, o, none⟩) n cap) := hI.ev (i := 0) (d := 64) (by rfl) (hall ⟨0, .data⟩ (by simp) rfl)
                        have e65 : A.tmps[65]? = some (.int .i64 (j : Int)) := hI.ev (i := 1) (d := 65) (by rfl) (hall ⟨1, .data⟩ (by simp) rfl)
                        have HS := hI.st
                        clear hI hall
                        as_aux_lemma =>
                          unfold Reg.Yields
                          go_simp
                          exact Reg.goodG_same rfl (HS.up (by decide) (by decide) (by decide) (by decide) (fun e => absurd e (by decide)) (fun e => absurd e (by decide)) (Below.refl _ _))
                      refine ⟨fun gh listed A X hI hin hun hall => ⟨Reg.wanted_none rfl, ?_⟩, ?_⟩
                      · have e66 : A.tmps[66]? = some (.pointer (some ⟨g, o + j, none⟩)) := hI.ev (i := 2) (d := 66) (by rfl) (hall ⟨2, .data⟩ (by simp) rfl)
                        have HS := hI.st
                        have k0 := (World.cell?_of_block (w := W) (a := ⟨g, o + j, none⟩) (HS.bel.block g hgW)).trans HCX.out
                        clear hI hall
                        as_aux_lemma =>
                          unfold Reg.Yields
                          go_simp
                          exact Reg.goodG_same rfl (HS.up (by decide) (by decide) (by decide) (by decide) (fun e => absurd e (by decide)) (fun e => absurd e (by decide)) (Below.refl _ _))
                      refine ⟨fun gh listed A X hI hin hun hall => ⟨Reg.wanted_none rfl, ?_⟩, ?_⟩
                      · skip
                        have HS := hI.st
                        clear hI hall
                        as_aux_lemma =>
                          unfold Reg.Yields
                          go_simp
                          exact Reg.goodG_same rfl (HS.up (by decide) (by decide) (by decide) (by decide) (fun e => absurd e (by decide)) (fun e => absurd e (by decide)) (Below.refl _ _))
                      refine ⟨fun gh listed A X hI hin hun hall => ⟨Reg.wanted_none rfl, ?_⟩, ?_⟩
                      · have e68 : A.tmps[68]? = some (.agg #[.int .i64 1, .int .u64 noW.a, .int .u64 noW.b, .int .u64 noW.c, .int .u64 noW.d, .int .i64 0, .int .i64 0, .bool false, .slice none 0 0, .int .i64 0, .int .i64 0]) := hI.ev (i := 4) (d := 68) (by rfl) (hall ⟨4, .data⟩ (by simp) rfl)
                        have HS := hI.st
                        clear hI hall
                        as_aux_lemma =>
                          unfold Reg.Yields
                          go_simp
                          exact HS.made5 (told := q19Told g o n cap j s x) hin (by simpa using hun) (fun q' i h => q19_5 q' i h) rfl
                      refine ⟨fun gh listed A X hI hin hun hall => ⟨Reg.wanted_none rfl, ?_⟩, ?_⟩
                      · have e11 := hI.evo (d := 11) (by kernel_rfl) rfl
                        have HS := hI.st
                        obtain ⟨y0, y1, y2, y3⟩ := set_cells4 (below_kept HS.bel HSB.out)
                        clear hI hall
                        as_aux_lemma =>
                          unfold Reg.Yields
                          go_simp
                          exact Reg.goodG_same rfl (HS.up (by decide) (by decide) (by decide) (by decide) (fun e => absurd e (by decide)) (fun e => absurd e (by decide)) (Below.refl _ _))
                      refine ⟨fun gh listed A X hI hin hun hall => ⟨Reg.wanted_none rfl, ?_⟩, ?_⟩
                      · have e70 : A.tmps[70]? = some (.agg #[.int .u64 s.a, .int .u64 s.b, .int .u64 s.c, .int .u64 s.d]) := hI.ev (i := 6) (d := 70) (by rfl) (hall ⟨6, .data⟩ (by simp) rfl)
                        have HS := hI.st
                        clear hI hall
                        as_aux_lemma =>
                          unfold Reg.Yields
                          go_simp
                          exact Reg.goodG_same rfl (HS.up (by decide) (by decide) (by decide) (by decide) (fun e => absurd e (by decide)) (fun e => absurd e (by decide)) (Below.refl _ _))
                      refine ⟨fun gh listed A X hI hin hun hall => ⟨Reg.wanted_none rfl, ?_⟩, ?_⟩
                      · have e71 : A.tmps[71]? = some (.agg #[.int .i64 1, .int .u64 s.a, .int .u64 s.b, .int .u64 s.c, .int .u64 s.d, .int .i64 0, .int .i64 0, .bool false, .slice none 0 0, .int .i64 0, .int .i64 0]) := hI.ev (i := 7) (d := 71) (by rfl) (hall ⟨7, .data⟩ (by simp) rfl)
                        have HS := hI.st
                        clear hI hall
                        as_aux_lemma =>
                          unfold Reg.Yields
                          go_simp
                          exact HS.made8 (told := q19Told g o n cap j s x) hin (by simpa using hun) (fun q' i h => q19_8 q' i h) rfl
                      refine ⟨fun gh listed A X hI hin hun hall => ⟨Reg.wanted_none rfl, ?_⟩, ?_⟩
                      · have e69 : A.tmps[69]? = some (ndPtr gh.1) := hI.ev (i := 5) (d := 69) (by rfl) (hall ⟨5, .data⟩ (by simp) rfl)
                        have e72 : A.tmps[72]? = some (ndPtr gh.2.1) := hI.ev (i := 8) (d := 72) (by rfl) (hall ⟨8, .data⟩ (by simp) rfl)
                        have h5 : listed.getD 5 false = true := hall ⟨5, .data⟩ (by simp) rfl
                        have h8 : listed.getD 8 false = true := hall ⟨8, .data⟩ (by simp) rfl
                        have HS := hI.st
                        clear hI hall
                        as_aux_lemma =>
                          unfold Reg.Yields
                          go_simp
                          exact HS.made9 (told := q19Told g o n cap j s x) hin (by simpa using hun) h5 h8 (fun q' i h h2 => q19_9 q' i h h2) rfl
                      refine ⟨fun gh listed A X hI hin hun hall => ⟨Reg.wanted_none rfl, ?_⟩, ?_⟩
                      · have e67 : A.tmps[67]? = some (.int .i64 x) := hI.ev (i := 3) (d := 67) (by rfl) (hall ⟨3, .data⟩ (by simp) rfl)
                        have e73 : A.tmps[73]? = some (.slice (some ⟨gh.2.2.1, 0, none⟩) 2 2) := hI.ev (i := 9) (d := 73) (by rfl) (hall ⟨9, .data⟩ (by simp) rfl)
                        have h9 : listed.getD 9 false = true := hall ⟨9, .data⟩ (by simp) rfl
                        have HS := hI.st
                        clear hI hall
                        as_aux_lemma =>
                          unfold Reg.Yields
                          go_simp
                          exact Reg.goodG_same rfl (HS.up (by decide) (by decide) (by decide) (by decide) (fun _ => h9) (fun e => absurd e (by decide)) (Below.refl _ _))
                      refine ⟨fun gh listed A X hI hin hun hall => ⟨Reg.wanted_none rfl, ?_⟩, ?_⟩
                      · have e74 : A.tmps[74]? = some (.agg #[.int .i64 x, .int .u64 noW.a, .int .u64 noW.b, .int .u64 noW.c, .int .u64 noW.d, .int .i64 0, .int .i64 0, .bool false, .slice (some ⟨gh.2.2.1, 0, none⟩) 2 2, .int .i64 0, .int .i64 0]) := hI.ev (i := 10) (d := 74) (by rfl) (hall ⟨10, .data⟩ (by simp) rfl)
                        have h10 : listed.getD 10 false = true := hall ⟨10, .data⟩ (by simp) rfl
                        have HS := hI.st
                        clear hI hall
                        as_aux_lemma =>
                          unfold Reg.Yields
                          go_simp
                          exact HS.made11 (told := q19Told g o n cap j s x) hin (by simpa using hun) h10 (fun q' i h h2 => q19_11 q' i h h2) rfl
                      refine ⟨fun gh listed A X hI hin hun hall => ⟨Reg.wanted_none rfl, ?_⟩, ?_⟩
                      · have e75 : A.tmps[75]? = some (ndPtr gh.2.2.2) := hI.ev (i := 11) (d := 75) (by rfl) (hall ⟨11, .data⟩ (by simp) rfl)
                        have h11 : listed.getD 11 false = true := hall ⟨11, .data⟩ (by simp) rfl
                        have HS := hI.st
                        clear hI hall
                        as_aux_lemma =>
                          unfold Reg.Yields
                          go_simp
                          exact Reg.goodG_same rfl (HS.up (by decide) (by decide) (by decide) (by decide) (fun e => absurd e (by decide)) (fun _ => h11) (Below.refl _ _))
                      trivial
                    · intro gh W9 hS
                      have HQ5 := hS.a5 (by rfl)
                      have HQ8 := hS.a8 (by rfl)
                      have HQ9 := hS.a9 (by rfl)
                      have HQ11 := hS.a11 (by rfl)
                      have HB9 := qhid hS.bel
                      have hsz9 := HBE.out.size
                      have HND : Hid (NdAt W9 (fun b => wr.heap.size ≤ b) (childT s x) (ndPtr gh.2.2.2)) := qhid (by
                        rw [HCT.out]
                        exact nd_two (by have := HQ11.2; omega) (by have := HQ9.2; omega) HQ11.1 HQ9.1 (nd_leaf (by have := HQ5.2; omega) HQ5.1) (nd_leaf (by have := HQ8.2; omega) HQ8.1))
                      have kx9 := (World.cell?_of_block (w := W) (a := ⟨g, o + j, none⟩) (HB9.out.block g hgW)).trans HCX.out
                      have HBX := qhid (HBE.out.trans (HB9.out.mono HBE.out.size))
                      clear hS HQ5 HQ8 HQ9 HQ11
                      simp [Reg.finalTmps, Reg.dstAt, Reg.valOf, q19Told]
                      cases b2 <;> cases b3 <;> (as_aux_lemma => go_wp2_with fail; go_meet; exact ⟨_, rfl, by rw [HKD.out.1, HKD.out.2.1, HKD.out.2.2]; simp, by rw [HDX.out.1]; simp [q4], by rw [HDX.out.2]; (have e : x = 4 := by simpa using q4); simp [e], HND, HBX⟩)
                  · go_upto_region 19 with fail
                    obtain ⟨W, hW⟩ : ∃ X, X = (wr.alloc (.cells #[.int .i64 0, .int .u64 0, .int .u64 0, .int .u64 0, .int .u64 0, .int .i64 0, .int .i64 0, .bool false, .slice none 0 0, .int .i64 0, .int .i64 0] 31)).drew := ⟨_, rfl⟩
                    have hgW : g < W.heap.size := by rw [hW]; exact Nat.lt_of_lt_of_le hgr (below1 wr (.cells #[.int .i64 0, .int .u64 0, .int .u64 0, .int .u64 0, .int .u64 0, .int .i64 0, .int .i64 0, .bool false, .slice none 0 0, .int .i64 0, .int .i64 0] 31)).size
                    rw [← hW] at HW1 HC2 HBE
                    have HSB := HW1
                    have HCX := HC2
                    have HWE : Hid ((wr.alloc (.cells #[.int .i64 0, .int .u64 0, .int .u64 0, .int .u64 0, .int .u64 0, .int .i64 0, .int .i64 0, .bool false, .slice none 0 0, .int .i64 0, .int .i64 0] 31)).drew = W) := qhid hW.symm
                    clear hW kx y0 y1 y2 y3
                    refine Reg.wp_region_G (q19Told g o n cap j s x) (NdQ W s x) (0, 0, 0, 0) [0, 1, 2, 3, 4, 5, 6, 7, 8, 9, 10, 11, 12] (by rfl) (by kernel_rfl) (by kernel_rfl) ?_ ?_ ?_
                    · have e : (wr.alloc (.cells #[.int .i64 0, .int .u64 0, .int .u64 0, .int .u64 0, .int .u64 0, .int .i64 0, .int .i64 0, .bool false, .slice none 0 0, .int .i64 0, .int .i64 0] 31)).drew = W := HWE.out
                      exact e ▸ ⟨Below.refl _ _, (fun e => by simp at e), (fun e => by simp at e), (fun e => by simp at e), (fun e => by simp at e), (fun e => by simp at e), (fun e => by simp at e), (fun e => by simp at e), (fun e => by simp at e)⟩
                    · skip
                      refine ⟨fun gh listed A X hI hin hun hall => ⟨Reg.wanted_none rfl, ?_⟩, ?_⟩
                      · have e4 := hI.evo (d := 4) (by kernel_rfl) rfl
                        have HS := hI.st
                        clear hI hall
                        as_aux_lemma =>
                          unfold Reg.Yields
                          go_simp
                          exact Reg.goodG_same rfl (HS.up (by decide) (by decide) (by decide) (by decide) (fun e => absurd e (by decide)) (fun e => absurd e (by decide)) (Below.refl _ _))
                      refine ⟨fun gh listed A X hI hin hun hall => ⟨Reg.wanted_none rfl, ?_⟩, ?_⟩
                      · have e18 := hI.evo (d := 18) (by kernel_rfl) rfl
                        have HS := hI.st
                        clear hI hall
                        as_aux_lemma =>
                          unfold Reg.Yields
                          go_simp
                          exact Reg.goodG_same rfl (HS.up (by decide) (by decide) (by decide) (by decide) (fun e => absurd e (by decide)) (fun e => absurd e (by decide)) (Below.refl _ _))
                      refine ⟨fun gh listed A X hI hin hun hall => ⟨Reg.wanted_none rfl, ?_⟩, ?_⟩
                      · have e64 : A.tmps[64]? = some (.slice (some ⟨g, o, none⟩) n cap) := hI.ev (i := 0) (d := 64) (by rfl) (hall ⟨0, .data⟩ (by simp) rfl)
                        have e65 : A.tmps[65]? = some (.int .i64 (j : Int)) := hI.ev (i := 1) (d := 65) (by rfl) (hall ⟨1, .data⟩ (by simp) rfl)
                        have HS := hI.st
                        clear hI hall
                        as_aux_lemma =>
                          unfold Reg.Yields
                          go_simp
                          exact Reg.goodG_same rfl (HS.up (by decide) (by decide) (by decide) (by decide) (fun e => absurd e (by decide)) (fun e => absurd e (by decide)) (Below.refl _ _))
                      refine ⟨fun gh listed A X hI hin hun hall => ⟨Reg.wanted_none rfl, ?_⟩, ?_⟩
                      · have e66 : A.tmps[66]? = some (.pointer (some ⟨g, o + j, none⟩)) := hI.ev (i := 2) (d := 66) (by rfl) (hall ⟨2, .data⟩ (by simp) rfl)
                        have HS := hI.st
                        have k0 := (World.cell?_of_block (w := W) (a := ⟨g, o + j, none⟩) (HS.bel.block g hgW)).trans HCX.out
                        clear hI hall
                        as_aux_lemma =>
                          unfold Reg.Yields
                          go_simp
                          exact Reg.goodG_same rfl (HS.up (by decide) (by decide) (by decide) (by decide) (fun e => absurd e (by decide)) (fun e => absurd e (by decide)) (Below.refl _ _))
                      refine ⟨fun gh listed A X hI hin hun hall => ⟨Reg.wanted_none rfl, ?_⟩, ?_⟩
                      · skip
                        have HS := hI.st
                        clear hI hall
                        as_aux_lemma =>
                          unfold Reg.Yields
                          go_simp
                          exact Reg.goodG_same rfl (HS.up (by decide) (by decide) (by decide) (by decide) (fun e => absurd e (by decide)) (fun e => absurd e (by decide)) (Below.refl _ _))
                      refine ⟨fun gh listed A X hI hin hun hall => ⟨Reg.wanted_none rfl, ?_⟩, ?_⟩
                      · have e68 : A.tmps[68]? = some (.agg #[.int .i64 1, .int .u64 noW.a, .int .u64 noW.b, .int .u64 noW.c, .int .u64 noW.d, .int .i64 0, .int .i64 0, .bool false, .slice none 0 0, .int .i64 0, .int .i64 0]) := hI.ev (i := 4) (d := 68) (by rfl) (hall ⟨4, .data⟩ (by simp) rfl)
                        have HS := hI.st
                        clear hI hall
                        as_aux_lemma =>
                          unfold Reg.Yields
                          go_simp
                          exact HS.made5 (told := q19Told g o n cap j s x) hin (by simpa using hun) (fun q' i h => q19_5 q' i h) rfl
                      refine ⟨fun gh listed A X hI hin hun hall => ⟨Reg.wanted_none rfl, ?_⟩, ?_⟩
                      · have e11 := hI.evo (d := 11) (by kernel_rfl) rfl
                        have HS := hI.st
                        obtain ⟨y0, y1, y2, y3⟩ := set_cells4 (below_kept HS.bel HSB.out)
                        clear hI hall
                        as_aux_lemma =>
                          unfold Reg.Yields
                          go_simp
                          exact Reg.goodG_same rfl (HS.up (by decide) (by decide) (by decide) (by decide) (fun e => absurd e (by decide)) (fun e => absurd e (by decide)) (Below.refl _ _))
                      refine ⟨fun gh listed A X hI hin hun hall => ⟨Reg.wanted_none rfl, ?_⟩, ?_⟩
                      · have e70 : A.tmps[70]? = some (.agg #[.int .u64 s.a, .int .u64 s.b, .int .u64 s.c, .int .u64 s.d]) := hI.ev (i := 6) (d := 70) (by rfl) (hall ⟨6, .data⟩ (by simp) rfl)
                        have HS := hI.st
                        clear hI hall
                        as_aux_lemma =>
                          unfold Reg.Yields
                          go_simp
                          exact Reg.goodG_same rfl (HS.up (by decide) (by decide) (by decide) (by decide) (fun e => absurd e (by decide)) (fun e => absurd e (by decide)) (Below.refl _ _))
                      refine ⟨fun gh listed A X hI hin hun hall => ⟨Reg.wanted_none rfl, ?_⟩, ?_⟩
                      · have e71 : A.tmps[71]? = some (.agg #[.int .i64 1, .int .u64 s.a, .int .u64 s.b, .int .u64 s.c, .int .u64 s.d, .int .i64 0, .int .i64 0, .bool false, .slice none 0 0, .int .i64 0, .int .i64 0]) := hI.ev (i := 7) (d := 71) (by rfl) (hall ⟨7, .data⟩ (by simp) rfl)
                        have HS := hI.st
                        clear hI hall
                        as_aux_lemma =>
                          unfold Reg.Yields
                          go_simp
                          exact HS.made8 (told := q19Told g o n cap j s x) hin (by simpa using hun) (fun q' i h => q19_8 q' i h) rfl
                      refine ⟨fun gh listed A X hI hin hun hall => ⟨Reg.wanted_none rfl, ?_⟩, ?_⟩
                      · have e69 : A.tmps[69]? = some (ndPtr gh.1) := hI.ev (i := 5) (d := 69) (by rfl) (hall ⟨5, .data⟩ (by simp) rfl)
                        have e72 : A.tmps[72]? = some (ndPtr gh.2.1) := hI.ev (i := 8) (d := 72) (by rfl) (hall ⟨8, .data⟩ (by simp) rfl)
                        have h5 : listed.getD 5 false = true := hall ⟨5, .data⟩ (by simp) rfl
                        have h8 : listed.getD 8 false = true := hall ⟨8, .data⟩ (by simp) rfl
                        have HS := hI.st
                        clear hI hall
                        as_aux_lemma =>
                          unfold Reg.Yields
                          go_simp
                          exact HS.made9 (told := q19Told g o n cap j s x) hin (by simpa using hun) h5 h8 (fun q' i h h2 => q19_9 q' i h h2) rfl
                      refine ⟨fun gh listed A X hI hin hun hall => ⟨Reg.wanted_none rfl, ?_⟩, ?_⟩
                      · have e67 : A.tmps[67]? = some (.int .i64 x) := hI.ev (i := 3) (d := 67) (by rfl) (hall ⟨3, .data⟩ (by simp) rfl)
                        have e73 : A.tmps[73]? = some (.slice (some ⟨gh.2.2.1, 0, none⟩) 2 2) := hI.ev (i := 9) (d := 73) (by rfl) (hall ⟨9, .data⟩ (by simp) rfl)
                        have h9 : listed.getD 9 false = true := hall ⟨9, .data⟩ (by simp) rfl
                        have HS := hI.st
                        clear hI hall
                        as_aux_lemma =>
                          unfold Reg.Yields
                          go_simp
                          exact Reg.goodG_same rfl (HS.up (by decide) (by decide) (by decide) (by decide) (fun _ => h9) (fun e => absurd e (by decide)) (Below.refl _ _))
                      refine ⟨fun gh listed A X hI hin hun hall => ⟨Reg.wanted_none rfl, ?_⟩, ?_⟩
                      · have e74 : A.tmps[74]? = some (.agg #[.int .i64 x, .int .u64 noW.a, .int .u64 noW.b, .int .u64 noW.c, .int .u64 noW.d, .int .i64 0, .int .i64 0, .bool false, .slice (some ⟨gh.2.2.1, 0, none⟩) 2 2, .int .i64 0, .int .i64 0]) := hI.ev (i := 10) (d := 74) (by rfl) (hall ⟨10, .data⟩ (by simp) rfl)
                        have h10 : listed.getD 10 false = true := hall ⟨10, .data⟩ (by simp) rfl
                        have HS := hI.st
                        clear hI hall
                        as_aux_lemma =>
                          unfold Reg.Yields
                          go_simp
                          exact HS.made11 (told := q19Told g o n cap j s x) hin (by simpa using hun) h10 (fun q' i h h2 => q19_11 q' i h h2) rfl
                      refine ⟨fun gh listed A X hI hin hun hall => ⟨Reg.wanted_none rfl, ?_⟩, ?_⟩
                      · have e75 : A.tmps[75]? = some (ndPtr gh.2.2.2) := hI.ev (i := 11) (d := 75) (by rfl) (hall ⟨11, .data⟩ (by simp) rfl)
                        have h11 : listed.getD 11 false = true := hall ⟨11, .data⟩ (by simp) rfl
                        have HS := hI.st
                        clear hI hall
                        as_aux_lemma =>
                          unfold Reg.Yields
                          go_simp
                          exact Reg.goodG_same rfl (HS.up (by decide) (by decide) (by decide) (by decide) (fun e => absurd e (by decide)) (fun _ => h11) (Below.refl _ _))
                      trivial
                    · intro gh W9 hS
                      have HQ5 := hS.a5 (by rfl)
                      have HQ8 := hS.a8 (by rfl)
                      have HQ9 := hS.a9 (by rfl)
                      have HQ11 := hS.a11 (by rfl)
                      have HB9 := qhid hS.bel
                      have hsz9 := HBE.out.size
                      have HND : Hid (NdAt W9 (fun b => wr.heap.size ≤ b) (childT s x) (ndPtr gh.2.2.2)) := qhid (by
                        rw [HCT.out]
                        exact nd_two (by have := HQ11.2; omega) (by have := HQ9.2; omega) HQ11.1 HQ9.1 (nd_leaf (by have := HQ5.2; omega) HQ5.1) (nd_leaf (by have := HQ8.2; omega) HQ8.1))
                      have kx9 := (World.cell?_of_block (w := W) (a := ⟨g, o + j, none⟩) (HB9.out.block g hgW)).trans HCX.out
                      have HBX := qhid (HBE.out.trans (HB9.out.mono HBE.out.size))
                      clear hS HQ5 HQ8 HQ9 HQ11
                      simp [Reg.finalTmps, Reg.dstAt, Reg.valOf, q19Told]
                      cases b2 <;> cases b3 <;> (as_aux_lemma => go_wp2_with fail; go_meet; exact ⟨_, rfl, by rw [HKD.out.1, HKD.out.2.1, HKD.out.2.2]; simp, by rw [HDX.out.1]; simp [q4], by rw [HDX.out.2]; simp [q5], HND, HBX⟩)
                · have h4 : x ≠ 4 := by omega
                  have h5 : x ≠ 5 := by omega
                  have q4 : (x == 4) = false := by simpa using h4
                  have q5 : (x == 5) = false := by simpa using h5
                  have HCT : Hid (childT s x = emptyT) := qhid (by unfold childT; rw [if_neg h1, if_neg (by omega), if_neg (by omega)])
                  have HFL : Hid (((true : Bool) = (b1 || !(decide (x = 1) || (decide (x = 2 ∨ x = 3) || decide (x = 4 ∨ x = 5))))) ∧ b2 = (b2 || decide (x = 4)) ∧ b3 = (b3 || decide (x = 5))) := qhid (by simp [h1, h2, h3, h4, h5])
                  have HE := qhid (heap_new wr (.cells #[.int .i64 0, .int .u64 0, .int .u64 0, .int .u64 0, .int .u64 0, .int .i64 0, .int .i64 0, .bool false, .slice none 0 0, .int .i64 0, .int .i64 0] 31))
                  clear h1 h2 h3 h4 h5 h45
                  as_aux_lemma =>
                    go_wp2_with fail
                    go_meet
                    exact ⟨_, rfl, by rw [← HFL.out.1], by rw [← HFL.out.2.1], by rw [← HFL.out.2.2], qhid (by rw [HCT.out]; exact nd_leaf (Nat.le_refl _) HE.out), qhid (below1 _ _)⟩
        case rest =>
          obtain ⟨q, rfl, rfl, rfl, rfl, HND, HBX⟩ := hcut
          obtain ⟨i0, hif, hy0, hy1, hy2⟩ := info_parts Tryd.infoNd
          obtain ⟨us, v, hG, hN⟩ := HR.out.nd
          have hlen : ((ks.take j).map (childT s)).length = j := by have := HK.out; simp; omega
          have hGx := hG.keep (grown_below (some w.heap.size) HBX.out) (by omega)
          have hown : wc.ownsRow (w.heap.size + 2) 27 1 v j us := by have := hGx.own; rwa [hlen] at this
          have HG := qhid hG
          have HN := qhid hN
          have HLEN := qhid hlen
          have hNx := below_kept HBX.out hN
          have k8 := Joins.cell_of_block hNx 8
          simp only [List.getElem?_toArray, List.getElem?_cons_zero, List.getElem?_cons_succ] at k8
          have hszx : w.heap.size + 2 ≤ wc.heap.size := by have := Reg.size_of_get hNx; omega
          clear hG hN hlen hGx hNx kx y0 y1 y2 y3 HCX
          have hj20 : j ≤ 20 := by omega
          go_wp2_with (at_builtin; go_must (refine wpList_append_own_at _ rfl (.tmp 96) (.tmp 98) 28 rfl (w.heap.size + 2) 27 i0 (.pointer none) 1 8 Tryd.underlying28 hif hy0 hy1 hy2 rfl (by decide) v j us rfl (ownsAlloc hown _) ⟨_, 0, none⟩ 1 1 _ rfl rfl (cell_one_new _ _ _) (one_ptr _) (by unfold maxLen; omega) (by omega) (by simp; omega) ?_; intro v4 w4 ho hg4 _ hat; have HADD := qhid (HR.out.add HX.out HBX.out HND.out HG.out HN.out (by rw [HLEN.out]; exact ho) hg4 hat); have hb4 := rt_old HBX.out HG.out HN.out hg4; have hz4 : w4.frozen? ⟨w.heap.size + 1, 8, none⟩ = false := Joins.unfrozen_of_block hb4 _; have hv4 := Joins.cell_of_block hb4 8; simp only [List.getElem?_toArray, List.getElem?_cons_zero, List.getElem?_cons_succ] at hv4; obtain ⟨b4, c4, hs4⟩ : ∃ b c, v4 = .slice b (j + 1) c := row_slice ho; subst hs4; clear hb4 ho hg4 hat))
          go_roundw
          case rel => exact ⟨j + 1, by omega, by go_num, by go_num, by rw [HN1.out]; simp, by rw [HC1.out], by rw [HA1.out], HADD⟩
          case measure => simp [intOf]; omega
      · obtain rfl : j = n := by omega
        have HTK : Hid (ks.take j = ks) := qhid (List.take_of_length_le (by rw [HK.out]; exact Nat.le_refl _))
        rw [HTK.out]
        have HR1 : Hid (RtInv w wr ks s kind lo hi z j) := HR
        obtain ⟨y0, y1, y2, y3⟩ := set_cells4 HR.out.set
        have HNS : Hid ((s.a == 0 && s.b == 0 && s.c == 0 && s.d == 0) = noSet s) := qhid rfl
        obtain ⟨w1, hw1⟩ : ∃ w1, w1 = (decide (kind = 1) || noSet s) := ⟨_, rfl⟩
        obtain ⟨w2, hw2⟩ : ∃ w2, w2 = (!soundS kind s && !soundN kind lo hi z) := ⟨_, rfl⟩
        have HW1 : Hid (w1 = !soundS kind s) := qhid (by rw [hw1]; unfold soundS; cases decide (kind = 1) <;> cases noSet s <;> rfl)
        have HW1A := qhid hw1
        have HW2 := qhid hw2
        obtain ⟨res, hres⟩ : ∃ res, res = wantR kind s lo hi z ks := ⟨_, rfl⟩
        have HRES : Hid (res = (w2 && if kind = 0 ∨ kind = 1 then decide (ks.length = 0) else if kind = 2 ∨ kind = 3 then decide (ks.length = 1)
          else if kind = 4 then decide (1 < ks.length) && (!noneB ks && (!catsB ks && !altsB ks)) else if kind = 5 then decide (1 < ks.length) && !altsB ks
          else if kind = 6 then decide (ks.length = 1) && (!noneB ks && (!catsB ks && (!altsB ks && countedR lo hi))) else false)) := qhid (by rw [hres, hw2]; rfl)
        have HWR := qhid hres
        rw [HK.out] at HRES
        clear hw1 hw2 hres
        obtain ⟨e0, he0⟩ : ∃ e0, e0 = noSet s := ⟨_, rfl⟩
        rw [← he0] at HNS HW1A
        clear he0
        generalize noneB ks = b1 at *
        generalize catsB ks = b2 at *
        generalize altsB ks = b3 at *
        go_upto_region 24 with fail
        go_cut [20] (fun v wx => v = .bool w1 ∧ wx = wr)
        case first =>
          by_cases h1 : kind = 1
          · subst h1
            have HF : Hid (w1 = true) := qhid (by rw [HW1A.out]; simp)
            as_aux_lemma =>
              go_wp2_with fail
              go_meet
              exact ⟨by rw [HF.out], rfl⟩
          · have q1 : (kind == 1) = false := by simpa using h1
            have HF : Hid (w1 = e0) := qhid (by rw [HW1A.out, decide_eq_false h1]; rfl)
            have hns := HNS.out
            clear h1
            as_aux_lemma =>
              go_wp2_with fail
              go_meet
              exact ⟨by rw [HF.out] <;> rfl, rfl⟩
        case rest =>
          obtain ⟨rfl, hwc⟩ := hcut
          obtain rfl : wr = wc := hwc.symm
          clear y0 y1 y2 y3 HW1A HNS
          have HN1 : Hid (soundN kind lo hi z = (!decide (kind = 6) && (!decide (lo = 0) || (!decide (hi = 0) || z)))) := qhid rfl
          rw [← HW1.out] at HW2
          generalize soundN kind lo hi z = b6 at *
          go_upto_if 112 with fail
          go_cut [20] (fun v wx => v = .bool w2 ∧ wx = wr)
          case first =>
            by_cases h6 : kind = 6
            · subst h6
              have HF : Hid (w2 = w1) := qhid (by rw [HW2.out, HN1.out]; simp)
              as_aux_lemma =>
                go_wp2_with fail
                go_meet
                exact ⟨by rw [HF.out], rfl⟩
            · have q6 : (kind == 6) = false := by simpa using h6
              have q6n : (kind != 6) = true := by simpa using h6
              have HF : Hid (w2 = (w1 && (decide (lo = 0) && (decide (hi = 0) && !z)))) := qhid (by rw [HW2.out, HN1.out, decide_eq_false h6]; cases decide (lo = 0) <;> cases decide (hi = 0) <;> cases z <;> cases w1 <;> rfl)
              clear h6 HW2 HN1
              cases w1 with
              | false =>
                have HF2 : Hid (w2 = false) := qhid (by rw [HF.out]; rfl)
                clear HF
                as_aux_lemma =>
                  go_wp2_with fail
                  go_meet
                  exact ⟨by rw [HF2.out], rfl⟩
              | true =>
                by_cases h0 : lo = 0
                · subst h0
                  by_cases h2 : hi = 0
                  · subst h2
                    have HF2 : Hid (w2 = !z) := qhid (by rw [HF.out]; simp)
                    clear HF
                    as_aux_lemma =>
                      go_wp2_with fail
                      go_meet
                      exact ⟨by rw [HF2.out], rfl⟩
                  · have hh : (hi == 0) = false := by simpa using h2
                    have HF2 : Hid (w2 = false) := qhid (by rw [HF.out, decide_eq_false h2]; simp)
                    clear HF h2
                    as_aux_lemma =>
                      go_wp2_with fail
                      go_meet
                      exact ⟨by rw [HF2.out], rfl⟩
                · have hh : (lo == 0) = false := by simpa using h0
                  have HF2 : Hid (w2 = false) := qhid (by rw [HF.out, decide_eq_false h0]; simp)
                  clear HF h0
                  as_aux_lemma =>
                    go_wp2_with fail
                    go_meet
                    exact ⟨by rw [HF2.out], rfl⟩
          case rest =>
            obtain ⟨rfl, hwc⟩ := hcut
            obtain rfl : wr = wc := hwc.symm
            clear HN1 HW1
            go_upto_block 3 with fail
            go_cut [20] (fun v wx => v = .bool res ∧ wx = wr)
            case first =>
              by_cases h0 : kind = 0
              · subst h0
                (exfalso; have := HKD0.out; omega)
              · skip
                by_cases h1 : kind = 1
                · subst h1
                  (exfalso; have := HKD0.out; omega)
                · skip
                  by_cases h2 : kind = 2
                  · subst h2
                    (exfalso; have := HKD0.out; omega)
                  · skip
                    by_cases h3 : kind = 3
                    · subst h3
                      (exfalso; have := HKD0.out; omega)
                    · skip
                      by_cases h4 : kind = 4
                      · subst h4
                        cases w2 with
                        | false =>
                          have HF : Hid (res = false) := qhid (by rw [HRES.out]; simp)
                          clear HRES HWR
                          (try clear hj)
                          (try clear hm)
                          as_aux_lemma =>
                            go_wp2_with fail
                            go_meet
                            exact ⟨by rw [HF.out], rfl⟩
                        | true =>
                          by_cases hj : 1 < j
                          · have hji : (1 : Int) < (j : Int) := by omega
                            cases b1 with
                            | true =>
                              have HF : Hid (res = false) := qhid (by rw [HRES.out]; simp [hj])
                              clear HRES HWR
                              (try clear hj)
                              (try clear hm)
                              as_aux_lemma =>
                                go_wp2_with fail
                                go_meet
                                exact ⟨by rw [HF.out], rfl⟩
                            | false =>
                              cases b2 with
                              | true =>
                                have HF : Hid (res = false) := qhid (by rw [HRES.out]; simp [hj])
                                clear HRES HWR
                                (try clear hj)
                                (try clear hm)
                                as_aux_lemma =>
                                  go_wp2_with fail
                                  go_meet
                                  exact ⟨by rw [HF.out], rfl⟩
                              | false =>
                                cases b3 with
                                | true =>
                                  have HF : Hid (res = false) := qhid (by rw [HRES.out]; simp [hj])
                                  clear HRES HWR
                                  (try clear hj)
                                  (try clear hm)
                                  as_aux_lemma =>
                                    go_wp2_with fail
                                    go_meet
                                    exact ⟨by rw [HF.out], rfl⟩
                                | false =>
                                  have HF : Hid (res = true) := qhid (by rw [HRES.out]; simp [hj])
                                  clear HRES HWR
                                  (try clear hj)
                                  (try clear hm)
                                  as_aux_lemma =>
                                    go_wp2_with fail
                                    go_meet
                                    exact ⟨by rw [HF.out], rfl⟩
                          · have hji : ¬ (1 : Int) < (j : Int) := by omega
                            have HF : Hid (res = false) := qhid (by rw [HRES.out]; simp [hj])
                            clear HRES HWR
                            (try clear hj)
                            (try clear hm)
                            as_aux_lemma =>
                              go_wp2_with fail
                              go_meet
                              exact ⟨by rw [HF.out], rfl⟩
                      · skip
                        by_cases h5 : kind = 5
                        · subst h5
                          cases w2 with
                          | false =>
                            have HF : Hid (res = false) := qhid (by rw [HRES.out]; simp)
                            clear HRES HWR
                            (try clear hj)
                            (try clear hm)
                            as_aux_lemma =>
                              go_wp2_with fail
                              go_meet
                              exact ⟨by rw [HF.out], rfl⟩
                          | true =>
                            by_cases hj : 1 < j
                            · have hji : (1 : Int) < (j : Int) := by omega
                              cases b3 with
                              | true =>
                                have HF : Hid (res = false) := qhid (by rw [HRES.out]; simp [hj])
                                clear HRES HWR
                                (try clear hj)
                                (try clear hm)
                                as_aux_lemma =>
                                  go_wp2_with fail
                                  go_meet
                                  exact ⟨by rw [HF.out], rfl⟩
                              | false =>
                                have HF : Hid (res = true) := qhid (by rw [HRES.out]; simp [hj])
                                clear HRES HWR
                                (try clear hj)
                                (try clear hm)
                                as_aux_lemma =>
                                  go_wp2_with fail
                                  go_meet
                                  exact ⟨by rw [HF.out], rfl⟩
                            · have hji : ¬ (1 : Int) < (j : Int) := by omega
                              have HF : Hid (res = false) := qhid (by rw [HRES.out]; simp [hj])
                              clear HRES HWR
                              (try clear hj)
                              (try clear hm)
                              as_aux_lemma =>
                                go_wp2_with fail
                                go_meet
                                exact ⟨by rw [HF.out], rfl⟩
                        · skip
                          by_cases h6 : kind = 6
                          · subst h6
                            (exfalso; have := HKD0.out; omega)
                          · skip
                            (exfalso; have := HKD0.out; omega)
            case rest =>
              obtain ⟨rfl, hwc⟩ := hcut
              obtain rfl : wr = wc := hwc.symm
              have HRT := qhid (rt_right HR1.out HTK.out (by rw [HK.out]; omega))
              rw [want_right, ← HWR.out] at HRT
              have HBW := qhid HR1.out.bel
              clear HWR HRES HR1 HR HI HW2
              go_wp2_with fail
              refine HRT.out.mono ?_
              rintro e w3 ⟨rfl, h3⟩
              have H3 := qhid (HBW.out.trans (h3.mono HBW.out.size))
              have AW := qhid (syn_awake w3 (HT.out _ H3.out))
              clear h3 HRT HBW
              go_wp2_with fail
              refine AW.out.mono ?_
              rintro e w4 ⟨rfl, h4⟩
              have H4 := qhid (H3.out.trans (h4.mono H3.out.size))
              clear h4 AW H3
              go_wp2_with fail
              exact bodyPost_ret (v := .bool true) (by simp [results, Tryd.results3, go_sem]) rfl ⟨rfl, H4.out⟩
end Go.Proofs.YtbddjdcedfnkaaaDoor
