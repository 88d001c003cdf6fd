/- graph: walk told. -/
import Derived.Test.YtghfodjefjijdaaGrO
namespace Go.Proofs.Ytghfodjefjijdaa
section
open Go Go.RowKit Go.Shelf
attribute [local go_sem ↓] Go.wp_at_zero Go.wp_at_succ
/-- How much is left to go. -/
def SkM (n D : Nat) (F : List Fr) (s : Sk) : Nat := (n - s.times) * (D + 2) + (F.map (fun f => f.left.length + 1)).sum
theorem SkM_pop {n D : Nat} {F : List Fr} {f : Fr} {s s' : Sk} (h : s'.times = s.times) : SkM n D F s' + 1 ≤ SkM n D (F ++ [f]) s := by
  unfold SkM
  rw [h]
  simp
  omega
theorem SkM_drop {n D : Nat} {F : List Fr} {v : Nat} {t : Nat} {r : List Nat} {a b : Value} {s s' : Sk} (h : s'.times = s.times) : SkM n D (F ++ [Fr.mk v r a]) s' + 1 ≤ SkM n D (F ++ [Fr.mk v (t :: r) b]) s := by
  unfold SkM
  rw [h]
  simp
  omega
theorem SkM_enter {n D : Nat} {F : List Fr} {v u : Nat} {r L : List Nat} {a c : Value} {s s' : Sk} (h : s'.times = s.times + 1) (hl : s.times < n) (hD : L.length ≤ D) : SkM n D (F ++ [Fr.mk v r a] ++ [Fr.mk u L c]) s' + 1 ≤ SkM n D (F ++ [Fr.mk v r a]) s := by
  unfold SkM
  rw [h, show n - s.times = (n - (s.times + 1)) + 1 by omega, Nat.succ_mul]
  simp
  omega
/-- What walk leaves. -/
structure WalkTo (w w' : World) (B sb mb lb kb n : Nat) (gv : Value) (E : Nat → Nat → Prop) (m0 : Nat → Nat) : Prop where
  ex : ∃ s pv ov dv, SkAt w' B sb mb lb kb n gv pv ov dv [] s ∧ Inv E n NoX s ∧ s.path = [] ∧ ∀ v, m0 v ≠ 0 → s.met v ≠ 0
  be : Below B w w'
/-- The first of what is left. -/
theorem LeftAt.head {w : World} {P : Nat → Prop} {v : Value} {t : Nat} {r : List Nat} (h : LeftAt w P v (t :: r)) : ∃ g off cap, v = .slice (some ⟨g, off, none⟩) (r.length + 1) (cap + 1) ∧ r.length ≤ cap ∧ w.cell? ⟨g, off, none⟩ = some (.int .i64 (t : Int)) ∧ ∀ p, (p = some ⟨g, off + 1, none⟩ ∨ (r = [] ∧ ∃ o, p = some ⟨g, o, none⟩) ∨ (r = [] ∧ p = none)) → LeftAt w P (.slice p r.length cap) r := by
  obtain ⟨p, cap, hv, hc, hz, h1⟩ := h
  obtain ⟨g, off, hp, hP, ⟨cs, fr, hb⟩, h2⟩ := h1 0 t rfl
  subst hp
  rw [List.length_cons] at hc
  obtain ⟨c, rfl⟩ : ∃ c, cap = c + 1 := ⟨cap - 1, by omega⟩
  refine ⟨g, off, c, by rw [hv, List.length_cons], by omega, h2, fun p hp => ⟨p, c, rfl, by omega, fun a ha => ?_, fun j x hx => ?_⟩⟩
  · have := hz ⟨g, off, none⟩ rfl
    rcases hp with rfl | ⟨_, o, rfl⟩ | ⟨_, rfl⟩
    · cases ha; exact this
    · cases ha; exact this
    · cases ha
  · rcases hp with rfl | ⟨rfl, _⟩ | ⟨rfl, _⟩
    · obtain ⟨g', off', e, hP', hb', h3⟩ := h1 (j + 1) x (by simpa using hx)
      injection e with e
      injection e with e1 e2
      subst e1 e2
      exact ⟨g, off + 1, rfl, hP', hb', by rw [show off + 1 + j = off + (j + 1) by omega]; exact h3⟩
    · simp at hx
    · simp at hx
theorem fr_snoc (F : List Fr) : F = [] ∨ ∃ G f, F = G ++ [f] := by
  rcases List.eq_nil_or_concat F with h | ⟨G, f, h⟩
  · exact .inl h
  · exact .inr ⟨G, f, by rw [h, List.concat_eq_append]⟩
set_option maxRecDepth 100000 in
set_option maxHeartbeats 8000000 in
theorem gwalk_any {w : World} {B sb mb lb kb n : Nat} {pv ov dv : Value} {F : List Fr} {s : Sk} (gp gc : Nat) (gs : List G0) (h : SkAt w B sb mb lb kb n (.slice (some ⟨gp, 0, none⟩) gs.length gc) pv ov dv F s) (hI : Inv (Es gs) n NoX s) (hG : GrsAt w B n gp gs) (hn : n ≤ 1000) (hgs : gs.length ≤ 1000) (hE : ∀ u v, Es gs u v → v < n) :
    Calls Try.prog 28 #[.pointer (some ⟨sb, 0, none⟩)] w fun e w' => e = .returned (.tuple #[]) ∧ WalkTo w w' B sb mb lb kb n (.slice (some ⟨gp, 0, none⟩) gs.length gc) (Es gs) s.met := by
  have H0 := qhid h
  have HI0 := qhid hI
  have HG := qhid hG
  have HBS := qhid h.bs
  have HE := qhid hE
  obtain ⟨m0, hm0⟩ : ∃ m0, m0 = s.met := ⟨_, rfl⟩
  rw [← hm0]
  have HM0 := qhid hm0
  clear h hI hG hm0 hE
  go_enter Try.func28, Try.ntmps28
  go_wp2_with fail
  go_loopg [] (SkM n (gs.length * n) F s) (fun gk wr => ∃ (F : List Fr) (s : Sk) (pv ov dv : Value), SkM n (gs.length * n) F s ≤ gk ∧ Hid (SkAt wr B sb mb lb kb n (.slice (some ⟨gp, 0, none⟩) gs.length gc) pv ov dv F s) ∧ Hid (Inv (Es gs) n NoX s) ∧ Hid (∀ v, m0 v ≠ 0 → s.met v ≠ 0) ∧ Hid (Below B w wr))
  case atStart => exact ⟨F, s, pv, ov, dv, Nat.le_refl _, H0, HI0, qhid (by rw [HM0.out]; exact fun v h => h), qhid (Below.refl _ _)⟩
  case round =>
    clear H0 HI0 HM0
    obtain ⟨F, s, pv, ov, dv, hgk, HS, HI, HM, HB⟩ := hrel
    rcases fr_snoc F with rfl | ⟨G, f, rfl⟩
    · obtain ⟨p, c, hpv⟩ := any_slice HS.out.pr
      subst hpv
      obtain ⟨_, _, _, _, c4, _⟩ := HS.out.cells
      have c4' : wr.cell? ⟨sb, 4, none⟩ = some (.slice p 0 c) := c4
      clear c4
      go_wp2_with fail
      go_end0
      exact ⟨rfl, ⟨s, _, ov, dv, HS.out, HI.out, HS.out.fp, HM.out⟩, HB.out⟩
    · obtain ⟨k, hk⟩ : ∃ k, k = G.length := ⟨_, rfl⟩
      have hpr := HS.out.pr
      rw [show (G ++ [f]).length = k + 1 by rw [List.length_append, hk]; rfl] at hpr
      obtain ⟨g, cap, hpv, hBg, hgs0, hkc, x0, x1, fx1, _⟩ := step_form hpr hk
      subst hpv
      have hkn : k + 1 ≤ n := by
        have h1 := HI.out.path_len
        rw [HS.out.fp, List.length_map, List.length_append, ← hk] at h1
        exact h1
      have HK := qhid hk
      obtain ⟨_, _, c2, _, c4, _, _, c7, _⟩ := HS.out.cells
      clear hk hpr
      rcases hfl : f.left with _ | ⟨t, r⟩
      · obtain ⟨lp, lc, hv, _⟩ := HS.out.lf f (by simp)
        rw [hfl] at hv
        have x1' : wr.cell? ⟨g, k * 2 + 1, none⟩ = some (.slice lp 0 lc) := by rw [x1, hv]; rfl
        have HFL := qhid hfl
        have HLV : Hid (∀ w1 : World, Below wr.heap.size wr w1 → Calls Try.prog 34 #[.pointer (some ⟨sb, 0, none⟩)] w1 fun e w' => e = .returned (.tuple #[]) ∧ ∃ F2 s2, SkTo w1 w' B sb mb lb kb n (.slice (some ⟨gp, 0, none⟩) gs.length gc) F2 s2 ∧ Inv (Es gs) n NoX s2 ∧ s2.met = s.met ∧ SkM n (gs.length * n) F2 s2 + 1 ≤ SkM n (gs.length * n) (G ++ [f]) s) := qhid (fun w1 hb1 => by
          have h := HS.out.up hb1
          have hI := HI.out
          have hfo : f.at_ ∈ s.opn := hI.pin f.pair (by rw [h.fp]; simp)
          have hpath : s.path = G.map Fr.pair ++ [(f.at_, [])] := by rw [h.fp, List.map_append]; show _ ++ [(f.at_, f.left)] = _; rw [HFL.out]
          have htl := hI.times_le
          have htm := hI.tm
          have hks := hI.ks
          have hfk := (hI.on f.at_).1 hfo
          have hfn := hI.mn f.at_ hfk.1
          have hk2 := HK.out
          by_cases hlow : s.low f.at_ = s.met f.at_
          · obtain ⟨A, Z, ho⟩ := List.append_of_mem hfo
            have hoe := congrArg List.length ho
            rw [List.length_append, List.length_cons] at hoe
            refine (gleave_tie h A Z hlow ho hfk.2 (fun v hv => hI.mn v ((hI.on v).1 (by rw [ho]; exact List.mem_append_right _ hv)).1) (fun hz => ?_) (by rw [List.length_cons]; omega) (by rw [List.length_cons]; omega) (by omega) (by omega)).mono ?_
            · have := hI.opn_nodup
              rw [ho, List.nodup_append] at this
              exact (List.nodup_cons.1 this.2.1).1 hz
            · rintro e w2 ⟨he, hs⟩
              exact ⟨he, G, _, hs, hI.tie hpath hlow ho (fun v hv => if_pos hv) (fun v hv => if_neg hv), rfl, SkM_pop rfl⟩
          · rcases fr_snoc G with rfl | ⟨G2, u, rfl⟩
            · exact absurd (hI.root_low hpath) hlow
            · have huo : u.at_ ∈ s.opn := hI.pin u.pair (by rw [h.fp]; simp)
              rw [List.length_append] at hk2
              refine (gleave_back h hlow hfn (hI.mn u.at_ ((hI.on u.at_).1 huo).1) (by omega)).mono ?_
              rintro e w2 ⟨he, hs⟩
              exact ⟨he, G2 ++ [u], _, hs, by
                have := hI.back (u := u.at_) (r := u.left) (P := G2.map Fr.pair) (by rw [hpath, List.map_append]; rfl) hlow
                rw [List.map_append]
                exact this, rfl, SkM_pop rfl⟩)
        clear x1 hv hfl c2 c7
        go_upto_region 1 with fail
        go_region
        go_upto_region 3 with fail
        go_wp2_with fail
        refine (HLV.out _ (Below.drew (Below.refl _ _))).mono ?_
        rintro e w2 ⟨rfl, F2, s2, ⟨⟨pv2, ov2, dv2, h2⟩, hb2⟩, hI2, hm2, hM2⟩
        go_wp2_with fail
        go_roundg (SkM n (gs.length * n) F2 s2)
        case rel => exact ⟨F2, s2, pv2, ov2, dv2, Nat.le_refl _, qhid h2, qhid hI2, qhid (by rw [hm2]; exact HM.out), qhid (HB.out.drew.trans hb2)⟩
        case measure => omega
      · clear x0 x1 fx1 c2 c7
        go_upto_region 1 with fail
        go_region
        clear c4
        obtain ⟨W1, hW1⟩ : ∃ X, X = wr.drew := ⟨_, rfl⟩
        rw [← hW1]
        have HS1 : Hid (SkAt W1 B sb mb lb kb n (.slice (some ⟨gp, 0, none⟩) gs.length gc) (.slice (some ⟨g, 0, none⟩) (k + 1) cap) ov dv (G ++ [f]) s) := qhid (by rw [hW1]; exact HS.out.up (Below.drew (Below.refl _ _)))
        have HB1 : Hid (Below B w W1) := qhid (by rw [hW1]; exact HB.out.drew)
        clear hW1 HS HB
        obtain ⟨_, _, c2, _, c4, _, _, c7, _⟩ := HS1.out.cells
        obtain ⟨g', cap', e2, _, _, _, x0, x1, fx1, _⟩ := step_form (F := G) (f := f) (by have := HS1.out.pr; rw [show (G ++ [f]).length = k + 1 by rw [List.length_append, ← HK.out]; rfl] at this; exact this) HK.out
        injection e2 with e2 _ e3
        injection e2 with e2
        injection e2 with e2
        subst e2 e3
        have hlf := HS1.out.lf f (by simp)
        rw [hfl] at hlf
        obtain ⟨lg, off, lc, hv, hlc, y0, hnew⟩ := hlf.head
        rw [hv] at x1
        have HFL := qhid hfl
        have HV := qhid hv
        have HNEW := qhid hnew
        clear hfl hv hnew hlf
        go_upto_region 5 with fail
        go_upto_region 6 with fail
        obtain ⟨v', hv'⟩ : ∃ v', v' = Value.slice (if lc = 0 then some ⟨lg, off, none⟩ else some ⟨lg, off + 1, none⟩) r.length lc := ⟨_, rfl⟩
        rw [← hv']
        have hfe : f = Fr.mk f.at_ (t :: r) f.v := by
          have h1 := HFL.out
          cases f
          simp at h1 ⊢
          exact h1
        have hl' : LeftAt W1 (SkB mb lb kb ov dv) v' r := by
          rw [hv']
          refine HNEW.out _ ?_
          by_cases hc0 : lc = 0
          · refine .inr (.inl ⟨List.eq_nil_of_length_eq_zero (by omega), off, ?_⟩)
            rw [if_pos hc0]
          · exact .inl (by rw [if_neg hc0])
        have HS2 : Hid (SkAt (W1.setCell ⟨g, k * 2 + 1, none⟩ v') B sb mb lb kb n (.slice (some ⟨gp, 0, none⟩) gs.length gc) (.slice (some ⟨g, 0, none⟩) (k + 1) cap) ov dv (G ++ [Fr.mk f.at_ r v']) { s with path := (G ++ [Fr.mk f.at_ r v']).map Fr.pair }) := qhid (HS1.out.setLeft HK.out hl')
        have HB2 : Hid (Below B w (W1.setCell ⟨g, k * 2 + 1, none⟩ v')) := qhid (HB1.out.setCell (p := ⟨g, k * 2 + 1, none⟩) hBg v')
        have hpath : s.path = G.map Fr.pair ++ [(f.at_, t :: r)] := by
          rw [HS1.out.fp, List.map_append, hfe]
          rfl
        have hpath2 : (G ++ [Fr.mk f.at_ r v']).map Fr.pair = G.map Fr.pair ++ [(f.at_, r)] := by
          rw [List.map_append]
          rfl
        have HP2 := qhid hpath2
        have HI2 : Hid (Inv (Es gs) n (OneX f.at_ t) { s with path := (G ++ [Fr.mk f.at_ r v']).map Fr.pair }) := qhid (by rw [hpath2]; exact HI.out.drop hpath)
        have hfo : f.at_ ∈ s.opn := HI.out.pin (f.at_, t :: r) (by rw [hpath]; simp)
        have hft : Es gs f.at_ t := HI.out.pe (f.at_, t :: r) (by rw [hpath]; simp) t (by simp)
        have htn : t < n := HE.out _ _ hft
        have hfn : f.at_ < n := HI.out.mn _ ((HI.out.on _).1 hfo).1
        have HFO := qhid hfo
        have HFT := qhid hft
        have HDR : Hid (∀ s2 : Sk, s2.times = s.times → SkM n (gs.length * n) (G ++ [Fr.mk f.at_ r v']) s2 + 1 ≤ SkM n (gs.length * n) (G ++ [f]) s) := qhid (fun s2 e => by
          rw [hfe]
          exact SkM_drop e)
        obtain ⟨W2, hW2⟩ : ∃ X, X = W1.setCell ⟨g, k * 2 + 1, none⟩ v' := ⟨_, rfl⟩
        rw [← hW2] at HS2 HB2 ⊢
        clear hW2 hv' hfe hl' hpath hpath2 hfo hft c2 c4 c7 x0 x1 fx1 y0 HNEW HV HFL HS1 HB1 hBg hlc HI
        obtain ⟨_, _, c2, _, _, _, _, c7, _⟩ := HS2.out.cells
        obtain ⟨_, _, _, _, _, _, x0, _⟩ := step_form (F := G) (f := Fr.mk f.at_ r v') (by have := HS2.out.pr; rw [show (G ++ [Fr.mk f.at_ r v']).length = k + 1 by rw [List.length_append, ← HK.out]; rfl] at this; exact this) HK.out
        obtain ⟨_, cm⟩ := HS2.out.lowc htn
        have cm : W2.cell? ⟨mb, t, none⟩ = some (.int .i64 (s.met t : Int)) := cm
        by_cases hm : s.met t = 0
        · have cm' : W2.cell? ⟨mb, t, none⟩ = some (.int .i64 0) := by rw [cm, hm]; rfl
          have HEN : Hid (Calls Try.prog 27 #[.pointer (some ⟨sb, 0, none⟩), .int .i64 (t : Int)] W2 fun e w' => e = .returned (.tuple #[]) ∧ ∃ F2 s2, SkTo W2 w' B sb mb lb kb n (.slice (some ⟨gp, 0, none⟩) gs.length gc) F2 s2 ∧ Inv (Es gs) n NoX s2 ∧ (∀ v, s.met v ≠ 0 → s2.met v ≠ 0) ∧ SkM n (gs.length * n) F2 s2 + 2 ≤ SkM n (gs.length * n) (G ++ [f]) s) := qhid (by
            have hI := HI2.out
            have htl := hI.times_lt htn hm
            have htm := hI.tm
            have hk2 := HK.out
            have e1 : s.times < n := htl
            have e2 : s.times = s.opn.length + s.done.length := htm
            refine (genter_any gp gc gs HS2.out (HG.out.low HB2.out) t htn hn hgs (by show s.times ≤ _; omega) (by show s.opn.length ≤ _; omega) (by rw [List.length_append, ← hk2]; simp; omega)).mono ?_
            rintro e w2 ⟨he, L, lv, hL, hLl, hs⟩
            refine ⟨he, _, _, hs, ?_, fun v hv => ?_, ?_⟩
            · have h3 := hI.enter htn hm (fun v w hx => hx.2) (fun x hx => ?_) hL
              · have e9 : (G ++ [Fr.mk f.at_ r v'] ++ [Fr.mk t L lv]).map Fr.pair = (G ++ [Fr.mk f.at_ r v']).map Fr.pair ++ [(t, L)] := List.map_append ..
                rw [e9]
                exact h3
              · have hfo2 : f.at_ ∈ s.opn := HFO.out
                have h4 : s.met x.1 ≤ s.met f.at_ := by
                  have h5 : x ∈ (G ++ [Fr.mk f.at_ r v']).map Fr.pair := hx
                  rw [HP2.out] at h5
                  rcases List.mem_append.1 h5 with h5 | h5
                  · exact Nat.le_of_lt (hI.top_lt HP2.out x h5)
                  · rw [List.mem_singleton.1 h5]
                    exact Nat.le_refl _
                exact .tail (hI.rp x hx f.at_ hfo2 h4) HFT.out
            · show upd s.met t (s.times + 1) v ≠ 0
              by_cases hvt : v = t
              · rw [hvt, upd_same]; omega
              · rw [upd_other _ _ hvt]; exact hv
            · have h6 := HDR.out { s with path := (G ++ [Fr.mk f.at_ r v']).map Fr.pair } rfl
              have h7 := SkM_enter (n := n) (D := gs.length * n) (F := G) (v := f.at_) (u := t) (r := r) (L := L) (a := v') (c := lv) (s := { s with path := (G ++ [Fr.mk f.at_ r v']).map Fr.pair }) (s' := { s with times := s.times + 1, met := upd s.met t (s.times + 1), low := upd s.low t (s.times + 1), opn := s.opn ++ [t], path := (G ++ [Fr.mk f.at_ r v'] ++ [Fr.mk t L lv]).map Fr.pair }) rfl htl hLl
              exact Nat.le_trans (Nat.add_le_add_right h7 1) h6)
          clear cm c7 x0
          go_wp2_with fail
          refine HEN.out.mono ?_
          rintro e w3 ⟨rfl, F2, s2, ⟨⟨pv2, ov2, dv2, h2⟩, hb2⟩, hI2, hm2, hM2⟩
          go_wp2_with fail
          go_roundg (SkM n (gs.length * n) F2 s2)
          case rel => exact ⟨F2, s2, pv2, ov2, dv2, Nat.le_refl _, qhid h2, qhid hI2, qhid (fun v hv => hm2 v (HM.out v hv)), qhid (HB2.out.trans hb2)⟩
          case measure => omega
        · have hmf : ((s.met t : Int) == 0) = false := by simpa using hm
          have ck : W2.cell? ⟨kb, t, none⟩ = some (.int .i64 (s.kn t)) := HS2.out.kn.cell htn
          by_cases hk : s.kn t = -1
          · have ck' : W2.cell? ⟨kb, t, none⟩ = some (.int .i64 (-1)) := by rw [ck, hk]
            have HLW := qhid (glower_any (HS2.out.up (Below.drew (Below.refl _ _))) f.at_ (s.met t) hfn)
            have HI3 := qhid (HI2.out.lower (P := G.map Fr.pair) (r := r) HP2.out hk hm HFT.out)
            clear ck
            go_upto_region 9 with fail
            go_region_with (refine HLW.out.mono ?_; rintro e w3 ⟨rfl, h3, hb3⟩)
            all_goals
              have hM3 := HDR.out { s with low := upd s.low f.at_ (min (s.low f.at_) (s.met t)), path := (G ++ [Fr.mk f.at_ r v']).map Fr.pair } rfl
              go_wp2_with fail
              go_roundg (SkM n (gs.length * n) (G ++ [Fr.mk f.at_ r v']) { s with low := upd s.low f.at_ (min (s.low f.at_) (s.met t)), path := (G ++ [Fr.mk f.at_ r v']).map Fr.pair })
              case rel => exact ⟨_, _, _, _, _, Nat.le_refl _, qhid h3, HI3, HM, qhid (HB2.out.drew.trans hb3)⟩
              case measure => omega
          · have hkf : (s.kn t == -1) = false := by simpa using hk
            have HI3 := qhid (HI2.out.known hk)
            have hM3 := HDR.out { s with path := (G ++ [Fr.mk f.at_ r v']).map Fr.pair } rfl
            go_wp2_with fail
            go_roundg (SkM n (gs.length * n) (G ++ [Fr.mk f.at_ r v']) { s with path := (G ++ [Fr.mk f.at_ r v']).map Fr.pair })
            case rel => exact ⟨_, _, _, _, _, Nat.le_refl _, HS2, HI3, HM, HB2⟩
            case measure => omega
end
end Go.Proofs.Ytghfodjefjijdaa
