/- graph: the seeker's way in memory; leave told. -/
import Derived.Test.YtghfodjefjijdaaGrK
namespace Go.Proofs.Ytghfodjefjijdaa
section
open Go Go.RowKit Go.Shelf
attribute [local go_sem ↓] Go.wp_at_zero Go.wp_at_succ
theorem frV_snoc (F : List Fr) (f : Fr) : frV (F ++ [f]) = frV F ++ [.int .i64 (f.at_ : Int), f.v] := by simp [frV]
/-- A row of steps that is not empty. -/
theorem step_form {w : World} {B k : Nat} {v : Value} {F : List Fr} {f : Fr} (h : w.ownsRow B 78 2 v (k + 1) (frV (F ++ [f]))) (hk : k = F.length) : ∃ g cap, v = .slice (some ⟨g, 0, none⟩) (k + 1) cap ∧ B ≤ g ∧ g < w.heap.size ∧ k + 1 ≤ cap ∧ w.cell? ⟨g, k * 2, none⟩ = some (.int .i64 (f.at_ : Int)) ∧ w.cell? ⟨g, k * 2 + 1, none⟩ = some f.v ∧ w.frozen? ⟨g, k * 2 + 1, none⟩ = false ∧ ∃ cs, w.heap[g]? = some (.cells cs 78 (0, 0)) := by
  rcases h.2 with ⟨_, h0⟩ | ⟨g, cap, cur, hv, hb, hh, hn', hm, hs, ht⟩
  · omega
  · subst hv
    have hl : (frV F).length = k * 2 := by rw [frV_len, hk]
    refine ⟨g, cap, rfl, hb, Reg.size_of_get hh, hn', ?_, ?_, Joins.unfrozen_of_block hh _, _, hh⟩
    · rw [h.cellAt (k * 2) (by omega), frV_snoc, List.getElem?_append_right (by omega), hl]
      simp
    · rw [h.cellAt (k * 2 + 1) (by omega), frV_snoc, List.getElem?_append_right (by omega), hl]
      simp
section
variable {w w' : World} {B sb mb lb kb n : Nat} {gv pv ov dv pv' ov' dv' : Value} {F : List Fr} {s : Sk}
theorem SkAt.popPath {f : Fr} {p : Option Addr} {k cap : Nat} (h : SkAt w B sb mb lb kb n gv (.slice p (k + 1) cap) ov dv (F ++ [f]) s) (hk : k = F.length) :
    ∃ g, p = some ⟨g, 0, none⟩ ∧ k + 1 ≤ cap ∧ w.cell? ⟨g, k * 2, none⟩ = some (.int .i64 (f.at_ : Int)) ∧ w.cell? ⟨g, k * 2 + 1, none⟩ = some f.v ∧ SkAt (w.setCell ⟨sb, 4, none⟩ (.slice (some ⟨g, 0, none⟩) k cap)) B sb mb lb kb n gv (.slice (some ⟨g, 0, none⟩) k cap) ov dv F { s with path := F.map Fr.pair } := by
  have hr := h.pr
  have e1 : (F ++ [f]).length = k + 1 := by rw [List.length_append, hk]; rfl
  rw [e1] at hr
  obtain ⟨g, cap', e2, _, _, _, c0, c1, _, _⟩ := step_form hr hk
  injection e2 with e2 _ e3
  subst e2 e3
  have hr2 := hr
  rw [frV_snoc] at hr2
  obtain ⟨g2, e4, hcap, hrow⟩ := row_pop hr2 (by rw [frV_len, hk])
  injection e4 with e4
  injection e4 with e4
  subst e4
  refine ⟨g, rfl, hcap, c0, c1, ?_⟩
  refine SkC.field (s' := { s with path := F.map Fr.pair }) h.core 4 _ ?_ rfl (by rw [hk] at hrow ⊢; exact hrow) h.opr h.dr (fun f hf => h.lf f (List.mem_append_left _ hf)) h.a2 h.a3
  refine (Joins.block_setCell h.sk _).trans ?_
  simp [skOb]
/-- What is left at the top is stored. -/
theorem SkAt.setLeft {f : Fr} {g k cap : Nat} {v : Value} {l : List Nat} (h : SkAt w B sb mb lb kb n gv (.slice (some ⟨g, 0, none⟩) (k + 1) cap) ov dv (F ++ [f]) s) (hk : k = F.length) (hl : LeftAt w (SkB mb lb kb ov dv) v l) :
    SkAt (w.setCell ⟨g, k * 2 + 1, none⟩ v) B sb mb lb kb n gv (.slice (some ⟨g, 0, none⟩) (k + 1) cap) ov dv (F ++ [Fr.mk f.at_ l v]) { s with path := (F ++ [Fr.mk f.at_ l v]).map Fr.pair } := by
  have sg := set_grown w g (k * 2 + 1) v
  have hr := h.pr
  have e1 : (F ++ [f]).length = k + 1 := by rw [List.length_append, hk]; rfl
  rw [e1] at hr
  obtain ⟨g', cap', e2, _, _, _, _, _, _, cs, hg⟩ := step_form hr hk
  injection e2 with e2 _ e3
  injection e2 with e2
  injection e2 with e2
  subst e2 e3
  have nes : g ≠ sb := ne_of_types hg h.sk (by decide)
  have nem : mb ≠ g := ne_of_types h.me hg (by decide)
  have nel : lb ≠ g := ne_of_types h.lo hg (by decide)
  have nek : kb ≠ g := ne_of_types h.kn hg (by decide)
  refine { sk := heap_set_other _ h.sk (Ne.symm nes), me := heap_set_other _ h.me nem, lo := heap_set_other _ h.lo nel, kn := heap_set_other _ h.kn nek, fp := rfl, pr := ?_, opr := ownsKeep h.opr sg (fun g e e2 => row_ne h.opr hg (by decide) (by rw [e]; exact e2.symm)), dr := ownsKeep h.dr sg (fun g e e2 => row_ne h.dr hg (by decide) (by rw [e]; exact e2.symm)), lf := fun f' hf => ?_, a1 := h.a1, a2 := h.a2, a3 := h.a3, bs := ⟨h.bs.1, h.bs.2.1, h.bs.2.2.1, h.bs.2.2.2.1, by simpa [World.setCell] using h.bs.2.2.2.2⟩ }
  · have h1 := (hr.stored (k * 2 + 1) v).1
    have e3 : (frV (F ++ [f])).set (k * 2 + 1) v = frV (F ++ [Fr.mk f.at_ l v]) := by
      have hl2 : (frV F).length = k * 2 := by rw [frV_len, hk]
      rw [frV_snoc, frV_snoc, List.set_append_right _ _ (by omega), hl2]
      simp
    rw [e3] at h1
    rw [show (F ++ [Fr.mk f.at_ l v]).length = k + 1 by rw [List.length_append, hk]; rfl]
    exact h1
  · have hm : ∀ g', ¬ SkB mb lb kb ov dv g' → (∃ cs fr, w.heap[g']? = some (.cells cs 3 fr)) → some g' ≠ some g ∧ ¬ SkB mb lb kb ov dv g' := fun g' hP hb => by
      obtain ⟨cs', fr', hb⟩ := hb
      exact ⟨fun e => ne_of_types hb hg (by decide) (Option.some.inj e), hP⟩
    rcases List.mem_append.1 hf with hf | hf
    · exact (h.lf f' (List.mem_append_left _ hf)).kept sg hm
    · rw [List.mem_singleton.1 hf]
      exact hl.kept sg hm
end
theorem SkAt.lowc {w : World} {B sb mb lb kb n : Nat} {gv pv ov dv : Value} {F : List Fr} {s : Sk} (h : SkAt w B sb mb lb kb n gv pv ov dv F s) {t : Nat} (ht : t < n) : w.cell? ⟨lb, t, none⟩ = some (.int .i64 (s.low t : Int)) ∧ w.cell? ⟨mb, t, none⟩ = some (.int .i64 (s.met t : Int)) := ⟨h.lo.cell ht, h.me.cell ht⟩
set_option maxRecDepth 100000 in
set_option maxHeartbeats 4000000 in
theorem gleave_tie {w : World} {B sb mb lb kb n : Nat} {gv pv ov dv : Value} {F : List Fr} {f : Fr} {s : Sk} (h : SkAt w B sb mb lb kb n gv pv ov dv (F ++ [f]) s) (A Z : List Nat) (hlow : s.low f.at_ = s.met f.at_) (ho : s.opn = A ++ f.at_ :: Z) (hk : s.kn f.at_ = -1) (hlt : ∀ v ∈ f.at_ :: Z, v < n) (ht : f.at_ ∉ Z) (hn : s.done.length + (f.at_ :: Z).length ≤ 1048576) (hA : A.length + (f.at_ :: Z).length ≤ 1048576) (hks : s.knots ≤ 1048576) (hF : F.length ≤ 1048576) :
    Calls Try.prog 34 #[.pointer (some ⟨sb, 0, none⟩)] w fun e w' => e = .returned (.tuple #[]) ∧ SkTo w w' B sb mb lb kb n gv F (Sk.tied { s with path := F.map Fr.pair } A (f.at_ :: Z)) := by
  obtain ⟨k, hkl⟩ : ∃ k, k = F.length := ⟨_, rfl⟩
  obtain ⟨p, cap, hpv⟩ : ∃ p c, pv = .slice p (k + 1) c := by
    have := h.pr
    rw [show (F ++ [f]).length = k + 1 by rw [List.length_append, hkl]; rfl] at this
    exact row_slice this
  subst hpv
  obtain ⟨g, hp, hcap, c0, _, HS⟩ := h.popPath hkl
  subst hp
  obtain ⟨_, _, c2, c3, c4, _⟩ := h.cells
  have f4 := Joins.unfrozen_of_block h.sk 4
  have htn := hlt f.at_ (by simp)
  have hkle : k ≤ 1048576 := by omega
  obtain ⟨t, hte⟩ : ∃ t, t = f.at_ := ⟨_, rfl⟩
  rw [← hte] at hlow ho hk hlt ht hn hA htn c0 ⊢
  have HB0 := qhid ((Below.refl B w).setCell (p := ⟨sb, 4, none⟩) h.bs.1 (.slice (some ⟨g, 0, none⟩) k cap))
  have HS := qhid HS
  have HO := qhid ho
  have HK := qhid hk
  have HLT := qhid hlt
  have HT := qhid ht
  have HKL := qhid hkl
  have HLO := qhid hlow
  clear h ho hk hlt ht hkl hte hlow hF
  go_enter Try.func34, Try.ntmps34
  go_upto_region 3 with fail
  obtain ⟨W1, hW1⟩ : ∃ X, X = w.setCell ⟨sb, 4, none⟩ (.slice (some ⟨g, 0, none⟩) k cap) := ⟨_, rfl⟩
  change Code.wp _ _ _ _ (w.setCell ⟨sb, 4, none⟩ (.slice (some ⟨g, 0, none⟩) k cap))
  rw [← hW1] at HS HB0 ⊢
  clear hW1 c0 c2 c3 c4 f4
  obtain ⟨_, _, c2, c3, _⟩ := HS.out.cells
  obtain ⟨l0, m0⟩ := HS.out.lowc htn
  have l1 : W1.cell? ⟨lb, t, none⟩ = some (.int .i64 (s.met t : Int)) := by rw [l0]; show some (Value.int .i64 (s.low t : Int)) = _; rw [HLO.out]
  have m1 : W1.cell? ⟨mb, t, none⟩ = some (.int .i64 (s.met t : Int)) := m0
  clear l0 m0
  go_region
  have HTI := qhid (gtie_any (HS.out.up (Below.drew (Below.refl _ _))) A Z t HO.out HK.out HLT.out HT.out hn hA hks)
  clear c2 c3 l1 m1
  go_wp2_with fail
  refine HTI.out.mono ?_
  rintro e w2 ⟨rfl, ⟨pv2, ov2, dv2, h2⟩, hb2⟩
  have H2 := qhid h2
  have HB2 := qhid hb2
  clear h2 hb2
  go_wp2_with fail
  refine bodyPost_ret (results_none rfl _ _ _) rfl ?_
  exact ⟨rfl, ⟨pv2, ov2, dv2, H2.out⟩, HB0.out.drew.trans HB2.out⟩
set_option maxRecDepth 100000 in
set_option maxHeartbeats 4000000 in
theorem gleave_back {w : World} {B sb mb lb kb n : Nat} {gv pv ov dv : Value} {F : List Fr} {f u : Fr} {s : Sk} (h : SkAt w B sb mb lb kb n gv pv ov dv (F ++ [u] ++ [f]) s) (hlow : s.low f.at_ ≠ s.met f.at_) (ht : f.at_ < n) (hu : u.at_ < n) (hF : F.length ≤ 1048576) :
    Calls Try.prog 34 #[.pointer (some ⟨sb, 0, none⟩)] w fun e w' => e = .returned (.tuple #[]) ∧ SkTo w w' B sb mb lb kb n gv (F ++ [u]) { s with path := (F ++ [u]).map Fr.pair, low := upd s.low u.at_ (min (s.low u.at_) (s.low f.at_)) } := by
  obtain ⟨k, hkl⟩ : ∃ k, k = F.length := ⟨_, rfl⟩
  have hkl2 : k + 1 = (F ++ [u]).length := by rw [List.length_append, hkl]; rfl
  obtain ⟨p, cap, hpv⟩ : ∃ p c, pv = .slice p (k + 1 + 1) c := by
    have := h.pr
    rw [show (F ++ [u] ++ [f]).length = k + 1 + 1 by rw [List.length_append, ← hkl2]; rfl] at this
    exact row_slice this
  subst hpv
  obtain ⟨g, hp, hcap, c0, _, HS⟩ := h.popPath hkl2
  subst hp
  obtain ⟨_, _, c2, c3, c4, _⟩ := h.cells
  have f4 := Joins.unfrozen_of_block h.sk 4
  have hkle : k ≤ 1048576 := by omega
  obtain ⟨t, hte⟩ : ∃ t, t = f.at_ := ⟨_, rfl⟩
  obtain ⟨x, hxe⟩ : ∃ x, x = u.at_ := ⟨_, rfl⟩
  rw [← hte] at hlow ht c0 ⊢
  rw [← hxe] at hu ⊢
  have HB0 := qhid ((Below.refl B w).setCell (p := ⟨sb, 4, none⟩) h.bs.1 (.slice (some ⟨g, 0, none⟩) (k + 1) cap))
  have HS := qhid HS
  have HKL := qhid hkl
  have HXE := qhid hxe
  have HLO := qhid hlow
  clear h hkl hkl2 hte hlow hF hxe
  go_enter Try.func34, Try.ntmps34
  go_upto_region 3 with fail
  obtain ⟨W1, hW1⟩ : ∃ X, X = w.setCell ⟨sb, 4, none⟩ (.slice (some ⟨g, 0, none⟩) (k + 1) cap) := ⟨_, rfl⟩
  change Code.wp _ _ _ _ (w.setCell ⟨sb, 4, none⟩ (.slice (some ⟨g, 0, none⟩) (k + 1) cap))
  rw [← hW1] at HS HB0 ⊢
  clear hW1 c0 c2 c3 c4 f4
  obtain ⟨_, _, c2, c3, c4, _⟩ := HS.out.cells
  obtain ⟨l0, m0⟩ := HS.out.lowc ht
  have l1 : W1.cell? ⟨lb, t, none⟩ = some (.int .i64 (s.low t : Int)) := l0
  have m1 : W1.cell? ⟨mb, t, none⟩ = some (.int .i64 (s.met t : Int)) := m0
  have hne : ((s.low t : Int) == (s.met t : Int)) = false := by have := HLO.out; simp; omega
  clear l0 m0
  go_region
  clear hne
  obtain ⟨W2, hW2⟩ : ∃ X, X = W1.drew := ⟨_, rfl⟩
  rw [← hW2]
  have HS2 : Hid (SkAt W2 B sb mb lb kb n gv (.slice (some ⟨g, 0, none⟩) (k + 1) cap) ov dv (F ++ [u]) { s with path := (F ++ [u]).map Fr.pair }) := qhid (by rw [hW2]; exact HS.out.up (Below.drew (Below.refl _ _)))
  have HB2 : Hid (Below B w W2) := qhid (by rw [hW2]; exact HB0.out.drew)
  clear hW2 c2 c3 c4 l1 m1 HS HB0
  obtain ⟨_, _, c2, c3, c4, _⟩ := HS2.out.cells
  obtain ⟨l0, m0⟩ := HS2.out.lowc ht
  have l1 : W2.cell? ⟨lb, t, none⟩ = some (.int .i64 (s.low t : Int)) := l0
  obtain ⟨g', cap', e2, _, _, _, c5, _, _⟩ := step_form (F := F) (f := u) (by have := HS2.out.pr; rw [show (F ++ [u]).length = k + 1 by rw [List.length_append, ← HKL.out]; rfl] at this; exact this) HKL.out
  injection e2 with e2 _ e3
  injection e2 with e2
  injection e2 with e2
  subst e2 e3
  rw [← HXE.out] at c5
  have HLW := qhid (glower_any (HS2.out.up (Below.drew (Below.refl _ _))) x (s.low t) hu)
  clear l0 m0
  go_upto_region 6 with fail
  have hwr : IntKind.i64.wrap (k : Int) = (k : Int) := by rw [IntKind.wrap_i64]; omega
  go_region_with (refine HLW.out.mono ?_; rintro e w3 ⟨rfl, h3, hb3⟩)
  all_goals
    go_end0
    exact ⟨rfl, ⟨_, _, _, h3⟩, HB2.out.drew.trans hb3⟩
end
end Go.Proofs.Ytghfodjefjijdaa
