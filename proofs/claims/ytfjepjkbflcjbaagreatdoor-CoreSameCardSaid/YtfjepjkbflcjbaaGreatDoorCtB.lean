/- core.tell told. -/
import Derived.Test.YtfjepjkbflcjbaaGreatDoorCtA
import Derived.Test.YtfjepjkbflcjbaaGreatDoorRegionM
namespace Go.Proofs.YtfjepjkbflcjbaaGreatDoor
section
open Go Go.RowKit
attribute [local go_sem ↓] Go.wp_at_zero Go.wp_at_succ
attribute [local go_sem] eq4
theorem Tryz.infoPc : (Tryz.prog.info? 87).map (fun i => (i.zero, i.size, i.bytes)) = some (some (.agg #[.pointer none, .string ⟨#[]⟩]), 2, 24) := by kernel_rfl
theorem cells_at {w : World} {g : Nat} {xs : List Value} {t : TypeId} (h : w.heap[g]? = some (.cells xs.toArray t (0, 0))) : ∀ j u, xs[j]? = some u → w.cell? ((⟨g, 0, none⟩ : Addr).add j) = some u := by
  intro j u hj
  have ha : (⟨g, 0, none⟩ : Addr).add j = ⟨g, j, none⟩ := by unfold Addr.add; split <;> simp_all
  rw [ha, Joins.cell_of_block h j, List.getElem?_toArray, hj]
theorem SbAt.kept {B b n : Nat} {l : List UInt8} {w w' : World} {t : TypeId} {v : Value} {xs : List Value} {m : Nat} (h : SbAt B b l w) (hr : w.ownsRow B t m v n xs) (hg : w.grownBy w' v.ownBlock) (h1 : t ≠ 5) (h2 : t ≠ 60) : SbAt B b l w' := by
  have key : ∀ p, Lib.BuilderAt 60 5 B b p (Lib.byteCells l) w → Lib.BuilderAt 60 5 B b p (Lib.byteCells l) w' := by
    intro p ⟨g1, u, g2, g3, g4⟩
    refine ⟨g1, u, (hg.block b (Reg.size_of_get g2) (fun e => ?_)).trans g2, ownsKeep g3 hg (fun g e e' => ?_), g4⟩
    · obtain ⟨o, ho, hc⟩ := row_isCells hr b e.symm
      rcases hr.2 with ⟨rfl, _⟩ | ⟨g', cap, cur, rfl, _, hh, _⟩
      · cases e
      · injection e with e
        subst e
        rw [hh] at g2
        injection g2 with g2
        injection g2 with _ g2
        exact h2 g2
    · rcases hr.2 with ⟨rfl, _⟩ | ⟨g', cap, cur, rfl, _, hh, _⟩
      · cases e'
      · injection e' with e'
        subst e'
        rcases g3.2 with ⟨rfl, _⟩ | ⟨g'', cap', cur', rfl, _, hh', _⟩
        · cases e
        · injection e with e
          subst e
          rw [hh] at hh'
          injection hh' with hh'
          injection hh' with _ hh'
          exact h1 hh'
  exact h.imp (key _) (key _)
def te8 (g : Nat) (n : Nat) (cap : Nat) (s1 : ByteArray) (s2 : ByteArray) (fb : Nat) (xb : Nat) (q : Nat) (pa : Option Addr) (pb : Option Addr) (gh : Nat × Value) : Nat → Value
  | 0 => .slice (some ⟨g, 0, none⟩) n cap
  | 1 => .pointer (some ⟨fb, 2, none⟩)
  | 2 => .string s2
  | 3 => .agg #[.pointer none, .string s2]
  | 4 => .pointer (some ⟨xb, 0, none⟩)
  | 5 => .pointer (some ⟨q, 0, none⟩)
  | 6 => .pointer (some ⟨q, 0, none⟩)
  | 7 => .pointer (some ⟨q, 7, none⟩)
  | 8 => .pointer pb
  | 9 => .agg #[.pointer pb, .string ⟨#[]⟩]
  | 10 => .pointer (some ⟨fb, 1, none⟩)
  | 11 => .string s1
  | 12 => .agg #[.pointer none, .string s1]
  | 13 => .pointer (some ⟨xb, 0, none⟩)
  | 14 => .pointer (some ⟨q, 0, none⟩)
  | 15 => .pointer (some ⟨q, 0, none⟩)
  | 16 => .pointer (some ⟨q, 6, none⟩)
  | 17 => .pointer pa
  | 18 => .agg #[.pointer pa, .string ⟨#[]⟩]
  | 19 => .slice (some ⟨gh.1, 0, none⟩) 4 4
  | 20 => gh.2
  | 21 => gh.2
  | _ => undef
theorem te8_a {g : Nat} {n : Nat} {cap : Nat} {s1 : ByteArray} {s2 : ByteArray} {fb : Nat} {xb : Nat} {q : Nat} {pa : Option Addr} {pb : Option Addr} {gh : Nat × Value} {gx} {j : Nat} (h19 : j ≠ 19) : te8 g n cap s1 s2 fb xb q pa pb (gx, gh.2) j = te8 g n cap s1 s2 fb xb q pa pb gh j := by
  unfold te8
  split <;> first | rfl | exact absurd rfl ‹_›
theorem te8_b {g : Nat} {n : Nat} {cap : Nat} {s1 : ByteArray} {s2 : ByteArray} {fb : Nat} {xb : Nat} {q : Nat} {pa : Option Addr} {pb : Option Addr} {gh : Nat × Value} {gx} {j : Nat} (h20 : j ≠ 20) (h21 : j ≠ 21) : te8 g n cap s1 s2 fb xb q pa pb (gh.1, gx) j = te8 g n cap s1 s2 fb xb q pa pb gh j := by
  unfold te8
  split <;> first | rfl | exact absurd rfl ‹_›
set_option maxRecDepth 100000 in
set_option maxHeartbeats 8000000 in
theorem ctell_any (w0 w : World) (b : Nat) (c0 : Co) (p0 : Option Addr) (hc : CoAt w0 c0 (.pointer p0)) (hF : CoFit c0) (hT : Tab w0) (hb : SbAt w0.heap.size b [] w) (hB : Below w0.heap.size w0 w) (hz : 4 * coSize c0 + 1 ≤ 100000000) (hl : (coN c0).length ≤ 1000000000000) :
    Calls Tryz.prog 21 #[.pointer (some ⟨b, 0, none⟩), .pointer p0] w fun e w' => e = .returned (.tuple #[]) ∧ SbAt w0.heap.size b (byN (coN c0)) w' ∧ Below w0.heap.size w0 w' := by
  have H0 : Hid (TelC w0 b (w.alloc (.cells #[.pointer p0, .string ⟨#[]⟩] 87)) [] [⟨c0, p0, []⟩] (.slice (some ⟨w.heap.size, 0, none⟩) 1 1)) := qhid ⟨hb.up (below1 _ _), ⟨rfl, .inr ⟨_, 1, _, rfl, hB.size, heap_new _ _, by simp, by decide, rfl, rfl⟩⟩, hB.trans ((below1 _ _).mono hB.size)⟩
  have HP0 : Hid (∀ x ∈ [(⟨c0, p0, []⟩ : Pc)], PcAt w0 x) := qhid (fun x hx => by
    have e : x = ⟨c0, p0, []⟩ := (by simpa using hx)
    rw [e]
    exact ⟨hc, .inr rfl, hF⟩)
  have HL0 : Hid (([] : List UInt8) ++ byN (outS [(⟨c0, p0, []⟩ : Pc)]) = byN (coN c0)) := qhid (by simp [outS, Pc.out])
  have HLL := qhid hl
  have HT := qhid hT
  have hm0 : measP [(⟨c0, p0, []⟩ : Pc)] ≤ 4 * coSize c0 + 1 := by simp [measP]
  clear hc hF hT hb hB hl
  go_enter Tryz.func21, Tryz.ntmps21
  go_wp2_with fail
  go_loopg [4] (4 * coSize c0 + 1) (fun gk v wr => ∃ (P : List Pc) (l : List UInt8), measP P ≤ gk ∧ gk ≤ 100000000 ∧ Hid (∀ x ∈ P, PcAt w0 x) ∧ Hid (l ++ byN (outS P) = byN (coN c0)) ∧ Hid (TelC w0 b wr l P v))
  case atStart => exact ⟨[⟨c0, p0, []⟩], [], hm0, hz, HP0, HL0, H0⟩
  case round =>
    clear H0 HP0 HL0 hm0
    obtain ⟨P, l, hme, hgk, HP, HL, HM⟩ := hrel
    rcases List.eq_nil_or_concat P with rfl | ⟨P, x, rfl⟩
    · have HD : Hid (l = byN (coN c0)) := qhid (by rw [← HL.out]; simp [outS, byN])
      obtain ⟨bb, cc, rfl⟩ : ∃ b c, u4 = .slice b 0 c := by rcases HM.out.row.2 with ⟨h, _⟩ | ⟨g, cap, cur, h, _⟩ <;> exact ⟨_, _, h⟩
      go_wp2_with fail
      go_end0
      exact ⟨rfl, by rw [← HD.out]; exact HM.out.bd, HM.out.be⟩
    · rw [List.concat_eq_append] at hme HP HL HM
      obtain ⟨g, cap, rfl, hcap, k0, k1, hgl, hpop⟩ := HM.out.pop
      obtain ⟨n, hn⟩ : ∃ n, n = P.length := ⟨_, rfl⟩
      rw [← hn] at hcap k0 k1 hpop ⊢
      have hlen := measP_len (P ++ [x])
      have hln : n + 1 ≤ 100000000 := by rw [List.length_append, List.length_singleton] at hlen; omega
      have HN := qhid hn
      have hX := HP.out x (by simp)
      obtain ⟨c, p, lx⟩ := x
      have HX := qhid hX
      have HLEN : Hid (l.length + (coN c).length + lx.length ≤ 1000000000000) := qhid (by
        have := congrArg List.length HL.out
        rw [outS_snoc, List.length_append, byN_length, byN_length, List.length_append] at this
        have h2 := HLL.out
        simp only [Pc.out, List.length_append] at this
        omega)
      have HPOP := qhid hpop
      clear hX hpop hlen hn
      go_upto_region 4 with fail
      obtain ⟨W1, hW1⟩ : ∃ X, X = wr.alloc (.cells #[.pointer p, .string (baN lx)] 87) := ⟨_, rfl⟩
      change Code.wp _ _ _ _ (wr.alloc (.cells #[.pointer p, .string (baN lx)] 87))
      rw [← hW1]
      have hb1 : Below wr.heap.size wr W1 := by rw [hW1]; exact below1 _ _
      have HM1 := qhid (HPOP.out.up hb1)
      have HXB : Hid (W1.heap[wr.heap.size]? = some (.cells #[.pointer p, .string (baN lx)] 87)) := qhid (by rw [hW1]; exact heap_new _ _)
      obtain ⟨xb, hxb⟩ : ∃ b, b = wr.heap.size := ⟨_, rfl⟩
      rw [← hxb] at HXB ⊢
      clear hW1 hb1 hxb k0 k1 hcap hgl HM HPOP
      have k0 := Joins.cell_of_block HXB.out 0
      have k1 := Joins.cell_of_block HXB.out 1
      have hxl := Reg.size_of_get HXB.out
      simp only [List.getElem?_toArray, List.getElem?_cons_zero, List.getElem?_cons_succ] at k0 k1
      cases c with
      | nil =>
        have hp : p = none := by have := HX.out.at_; cases this; rfl
        subst hp
        have HW := qhid (sw_writeK lx HM1.out.bd (by have := HLEN.out; omega))
        have HL2 : Hid (l ++ byN lx ++ byN (outS P) = byN (coN c0)) := qhid (by rw [← HL.out, outS_snoc, byN_append, List.append_assoc]; rfl)
        have HPP : Hid (∀ x ∈ P, PcAt w0 x) := qhid (fun x hx => HP.out x (List.mem_append_left _ hx))
        have hm2 : measP P + 1 ≤ gk := by rw [measP_append] at hme; simp [measP, coSize] at hme ⊢; omega
        go_wp2_with fail
        refine HW.out.mono ?_
        rintro e W2 ⟨rfl, h1, h2, h3⟩
        have HM2 := qhid (HM1.out.wrote h1 h2 h3)
        clear h1 h2 h3 HW k0 k1
        go_wp2_with fail
        go_roundg (measP P)
        case rel => exact ⟨P, _, Nat.le_refl _, by omega, HPP, HL2, HM2⟩
        case measure => omega
      | node k s z ca cb =>
        obtain rfl : lx = [] := HX.out.one.resolve_left (by simp)
        obtain ⟨q, va, vb, hp, hq, ha, hb⟩ := HX.out.at_.head
        have hp : p = some ⟨q, 0, none⟩ := by injection hp
        subst hp
        obtain ⟨pa, rfl⟩ := ha.ptr
        obtain ⟨pb, rfl⟩ := hb.ptr
        have HF4 := qhid (four_at ha hb HX.out.fit)
        have HQ1 := qhid ((HM1.out.be.block q (Reg.size_of_get hq)).trans hq)
        obtain ⟨sa, hsa⟩ : ∃ x, x = baN (frL k s z).1 := ⟨_, rfl⟩
        obtain ⟨s1, hs1⟩ : ∃ x, x = baN (frL k s z).2.1 := ⟨_, rfl⟩
        obtain ⟨s2, hs2⟩ : ∃ x, x = baN (frL k s z).2.2 := ⟨_, rfl⟩
        have HFR : Hid (Calls Tryz.prog 18 #[.pointer (some ⟨q, 0, none⟩)] W1 fun e w' => e = .returned (.agg #[.string sa, .string s1, .string s2]) ∧ Below W1.heap.size W1 w') := qhid (by
          have := cframe_any k s z _ _ q W1 HQ1.out HX.out.fit.1 (HT.out.below HM1.out.be HT.out.lt)
          unfold frV at this
          rw [← hsa, ← hs1, ← hs2] at this
          exact this)
        have HSA := qhid hsa
        have HS1 := qhid hs1
        have HS2 := qhid hs2
        clear hq ha hb hsa hs1 hs2
        go_wp2_with fail
        refine HFR.out.mono ?_
        rintro e W2 ⟨rfl, hb2⟩
        have HM2 := qhid (HM1.out.up hb2)
        have HXB2 := qhid (below_kept hb2 HXB.out)
        have HQ2 := qhid (below_kept hb2 HQ1.out)
        clear hb2 k0 k1 hxl HFR HM1 HXB HQ1
        obtain ⟨W3, hW3⟩ : ∃ X, X = W2.alloc (.cells #[.string sa, .string s1, .string s2] 53) := ⟨_, rfl⟩
        have b3 : Below W2.heap.size W2 W3 := by rw [hW3]; exact below1 _ _
        have HM3 := qhid (HM2.out.up b3)
        have HW : Hid (Calls Tryz.prog 38 #[.pointer (some ⟨b, 0, none⟩), .string sa] W3 fun e w' => e = .returned (.tuple #[.int .i64 ((frL k s z).1.length : Int), .nilIface]) ∧ SbAt w0.heap.size b (l ++ byN (frL k s z).1) w' ∧ Below w0.heap.size W3 w' ∧ KeepT W3 w') := qhid (by
          rw [HSA.out]
          exact sw_writeK (frL k s z).1 HM3.out.bd (by have := HLEN.out; simp only [coN, List.length_append] at this; omega))
        obtain ⟨fb, hfb⟩ : ∃ b, b = W2.heap.size := ⟨_, rfl⟩
        have HFB3 : Hid (W3.heap[fb]? = some (.cells #[.string sa, .string s1, .string s2] 53)) := qhid (by rw [hW3, hfb]; exact heap_new _ _)
        have HXB3 := qhid (below_kept b3 HXB2.out)
        have HQ3 := qhid (below_kept b3 HQ2.out)
        have HW3 := qhid hW3
        have HFE := qhid hfb
        clear b3 hW3 hfb
        go_wp2_with fail
        rw [← HW3.out]
        refine HW.out.mono ?_
        rintro e w5 ⟨rfl, h1, h2, h3⟩
        have HM5 := qhid (HM3.out.wrote h1 h2 h3)
        have HFB := qhid (h3.row _ _ _ _ HFB3.out (by decide) (by decide))
        have HXB := qhid (h3.row _ _ _ _ HXB3.out (by decide) (by decide))
        have HQ := qhid (h3.row _ _ _ _ HQ3.out (by decide) (by decide))
        clear h1 h2 h3 HW HM3 HFB3 HXB3 HQ3 HM2 HXB2 HQ2
        rw [← HFE.out]
        obtain ⟨xs, hxs⟩ : ∃ xs, xs = P.flatMap Pc.vals := ⟨_, rfl⟩
        have HXSE := qhid hxs
        have HROW : Hid (w5.ownsRow w0.heap.size 87 2 (.slice (some ⟨g, 0, none⟩) n cap) n xs) := qhid (by rw [hxs]; have := HM5.out.row; rwa [← HN.out] at this)
        have HBS := qhid HM5.out.be.size
        have HLN := qhid hln
        clear hxs
        go_upto_region 8 with fail
        refine Reg.wp_region_H (te8 g n cap s1 s2 fb xb q pa pb) (Reg.AppS w5 19 20 (fun gg X => X.heap[gg.1]? = some (.cells ([.pointer none, .string s2, .pointer pb, .string ⟨#[]⟩, .pointer none, .string s1, .pointer pa, .string ⟨#[]⟩] : List Value).toArray 87)) (fun gg X => X.ownsRow w0.heap.size 87 2 gg.2 (n + 4) (xs ++ [.pointer none, .string s2, .pointer pb, .string ⟨#[]⟩, .pointer none, .string s1, .pointer pa, .string ⟨#[]⟩]) ∧ ∃ Y, Below w5.heap.size w5 Y ∧ Y.grownBy X (.slice (some ⟨g, 0, none⟩) n cap : Value).ownBlock)) (0, undef) [0, 1, 2, 3, 4, 5, 6, 7, 8, 9, 10, 11, 12, 13, 14, 15, 16, 17, 18, 19, 20, 21] (by rfl) (by kernel_rfl) (by kernel_rfl) ?_ ?_ ?_
        · exact Reg.AppS.start _ _
        · skip
          refine ⟨fun gh listed A X hI hcl hin hun hall => ⟨Reg.wanted_none rfl, ?_⟩, ?_⟩
          · have e4 := hI.evn (d := 4) (j := 21) (by kernel_rfl) (Reg.un_of_reach hcl (n := 21) (i := 0) (by kernel_rfl) (by simpa using hun)) rfl
            have HS := hI.st
            have hX := HS.bel (Reg.un_of_reach hcl (n := 20) (i := 0) (by kernel_rfl) (by simpa using hun))
            have HX := qhid hX
            clear hX
            clear hI
            unfold Reg.Yields
            go_simp
            exact ⟨gh, fun _ _ => rfl, rfl, HS.same (by decide) (by decide)⟩
          refine ⟨fun gh listed A X hI hcl hin hun hall => ⟨Reg.wanted_none rfl, ?_⟩, ?_⟩
          · have e6 := hI.evo (d := 6) (by kernel_rfl) rfl
            have HS := hI.st
            have hX := HS.bel (Reg.un_of_reach hcl (n := 20) (i := 1) (by kernel_rfl) (by simpa using hun))
            have HX := qhid hX
            clear hX
            clear hI
            unfold Reg.Yields
            go_simp
            exact ⟨gh, fun _ _ => rfl, rfl, HS.same (by decide) (by decide)⟩
          refine ⟨fun gh listed A X hI hcl hin hun hall => ⟨Reg.wanted_none rfl, ?_⟩, ?_⟩
          · have e39 : A.tmps[39]? = some (.pointer (some ⟨fb, 2, none⟩)) := hI.ev (i := 1) (d := 39) (by rfl) (hall ⟨1, .data⟩ (by simp) rfl)
            have HS := hI.st
            have hX := HS.bel (Reg.un_of_reach hcl (n := 20) (i := 2) (by kernel_rfl) (by simpa using hun))
            have hb := (hX.block _ (Reg.size_of_get HFB.out)).trans HFB.out
            have y2 := Joins.cell_of_block hb 2
            have hyl := Reg.size_of_get hb
            simp only [List.getElem?_toArray, List.getElem?_cons_zero, List.getElem?_cons_succ] at y2
            clear hb
            have HX := qhid hX
            clear hX
            clear hI
            unfold Reg.Yields
            go_simp
            exact ⟨gh, fun _ _ => rfl, rfl, HS.same (by decide) (by decide)⟩
          refine ⟨fun gh listed A X hI hcl hin hun hall => ⟨Reg.wanted_none rfl, ?_⟩, ?_⟩
          · have e40 : A.tmps[40]? = some (.string s2) := hI.ev (i := 2) (d := 40) (by rfl) (hall ⟨2, .data⟩ (by simp) rfl)
            have HS := hI.st
            have hX := HS.bel (Reg.un_of_reach hcl (n := 20) (i := 3) (by kernel_rfl) (by simpa using hun))
            have HX := qhid hX
            clear hX
            clear hI
            unfold Reg.Yields
            go_simp
            exact ⟨gh, fun _ _ => rfl, rfl, HS.same (by decide) (by decide)⟩
          refine ⟨fun gh listed A X hI hcl hin hun hall => ⟨Reg.wanted_none rfl, ?_⟩, ?_⟩
          · have e5 := hI.evo (d := 5) (by kernel_rfl) rfl
            have HS := hI.st
            have hX := HS.bel (Reg.un_of_reach hcl (n := 20) (i := 4) (by kernel_rfl) (by simpa using hun))
            have HX := qhid hX
            clear hX
            clear hI
            unfold Reg.Yields
            go_simp
            exact ⟨gh, fun _ _ => rfl, rfl, HS.same (by decide) (by decide)⟩
          refine ⟨fun gh listed A X hI hcl hin hun hall => ⟨Reg.wanted_none rfl, ?_⟩, ?_⟩
          · have e42 : A.tmps[42]? = some (.pointer (some ⟨xb, 0, none⟩)) := hI.ev (i := 4) (d := 42) (by rfl) (hall ⟨4, .data⟩ (by simp) rfl)
            have HS := hI.st
            have hX := HS.bel (Reg.un_of_reach hcl (n := 20) (i := 5) (by kernel_rfl) (by simpa using hun))
            have hb := (hX.block _ (Reg.size_of_get HXB.out)).trans HXB.out
            have y0 := Joins.cell_of_block hb 0
            have hyl := Reg.size_of_get hb
            simp only [List.getElem?_toArray, List.getElem?_cons_zero] at y0
            clear hb
            have HX := qhid hX
            clear hX
            clear hI
            unfold Reg.Yields
            go_simp
            exact ⟨gh, fun _ _ => rfl, rfl, HS.same (by decide) (by decide)⟩
          refine ⟨fun gh listed A X hI hcl hin hun hall => ⟨Reg.wanted_none rfl, ?_⟩, ?_⟩
          · have e43 : A.tmps[43]? = some (.pointer (some ⟨q, 0, none⟩)) := hI.ev (i := 5) (d := 43) (by rfl) (hall ⟨5, .data⟩ (by simp) rfl)
            have HS := hI.st
            have hX := HS.bel (Reg.un_of_reach hcl (n := 20) (i := 6) (by kernel_rfl) (by simpa using hun))
            have hb := (hX.block _ (Reg.size_of_get HQ.out)).trans HQ.out
            have y7 := Joins.cell_of_block hb 7
            have hyl := Reg.size_of_get hb
            simp only [List.getElem?_toArray, List.getElem?_cons_zero, List.getElem?_cons_succ] at y7
            clear hb
            have HX := qhid hX
            clear hX
            clear hI
            unfold Reg.Yields
            go_simp
            exact ⟨gh, fun _ _ => rfl, rfl, HS.same (by decide) (by decide)⟩
          refine ⟨fun gh listed A X hI hcl hin hun hall => ⟨Reg.wanted_none rfl, ?_⟩, ?_⟩
          · have e44 : A.tmps[44]? = some (.pointer (some ⟨q, 0, none⟩)) := hI.ev (i := 6) (d := 44) (by rfl) (hall ⟨6, .data⟩ (by simp) rfl)
            have HS := hI.st
            have hX := HS.bel (Reg.un_of_reach hcl (n := 20) (i := 7) (by kernel_rfl) (by simpa using hun))
            have hb := (hX.block _ (Reg.size_of_get HQ.out)).trans HQ.out
            have y7 := Joins.cell_of_block hb 7
            have hyl := Reg.size_of_get hb
            simp only [List.getElem?_toArray, List.getElem?_cons_zero, List.getElem?_cons_succ] at y7
            clear hb
            have HX := qhid hX
            clear hX
            clear hI
            unfold Reg.Yields
            go_simp
            exact ⟨gh, fun _ _ => rfl, rfl, HS.same (by decide) (by decide)⟩
          refine ⟨fun gh listed A X hI hcl hin hun hall => ⟨Reg.wanted_none rfl, ?_⟩, ?_⟩
          · have e45 : A.tmps[45]? = some (.pointer (some ⟨q, 7, none⟩)) := hI.ev (i := 7) (d := 45) (by rfl) (hall ⟨7, .data⟩ (by simp) rfl)
            have HS := hI.st
            have hX := HS.bel (Reg.un_of_reach hcl (n := 20) (i := 8) (by kernel_rfl) (by simpa using hun))
            have hb := (hX.block _ (Reg.size_of_get HQ.out)).trans HQ.out
            have y7 := Joins.cell_of_block hb 7
            have hyl := Reg.size_of_get hb
            simp only [List.getElem?_toArray, List.getElem?_cons_zero, List.getElem?_cons_succ] at y7
            clear hb
            have HX := qhid hX
            clear hX
            clear hI
            unfold Reg.Yields
            go_simp
            exact ⟨gh, fun _ _ => rfl, rfl, HS.same (by decide) (by decide)⟩
          refine ⟨fun gh listed A X hI hcl hin hun hall => ⟨Reg.wanted_none rfl, ?_⟩, ?_⟩
          · have e46 : A.tmps[46]? = some (.pointer pb) := hI.ev (i := 8) (d := 46) (by rfl) (hall ⟨8, .data⟩ (by simp) rfl)
            have HS := hI.st
            have hX := HS.bel (Reg.un_of_reach hcl (n := 20) (i := 9) (by kernel_rfl) (by simpa using hun))
            have HX := qhid hX
            clear hX
            clear hI
            unfold Reg.Yields
            go_simp
            exact ⟨gh, fun _ _ => rfl, rfl, HS.same (by decide) (by decide)⟩
          refine ⟨fun gh listed A X hI hcl hin hun hall => ⟨Reg.wanted_none rfl, ?_⟩, ?_⟩
          · have e6 := hI.evo (d := 6) (by kernel_rfl) rfl
            have HS := hI.st
            have hX := HS.bel (Reg.un_of_reach hcl (n := 20) (i := 10) (by kernel_rfl) (by simpa using hun))
            have HX := qhid hX
            clear hX
            clear hI
            unfold Reg.Yields
            go_simp
            exact ⟨gh, fun _ _ => rfl, rfl, HS.same (by decide) (by decide)⟩
          refine ⟨fun gh listed A X hI hcl hin hun hall => ⟨Reg.wanted_none rfl, ?_⟩, ?_⟩
          · have e48 : A.tmps[48]? = some (.pointer (some ⟨fb, 1, none⟩)) := hI.ev (i := 10) (d := 48) (by rfl) (hall ⟨10, .data⟩ (by simp) rfl)
            have HS := hI.st
            have hX := HS.bel (Reg.un_of_reach hcl (n := 20) (i := 11) (by kernel_rfl) (by simpa using hun))
            have hb := (hX.block _ (Reg.size_of_get HFB.out)).trans HFB.out
            have y1 := Joins.cell_of_block hb 1
            have hyl := Reg.size_of_get hb
            simp only [List.getElem?_toArray, List.getElem?_cons_zero, List.getElem?_cons_succ] at y1
            clear hb
            have HX := qhid hX
            clear hX
            clear hI
            unfold Reg.Yields
            go_simp
            exact ⟨gh, fun _ _ => rfl, rfl, HS.same (by decide) (by decide)⟩
          refine ⟨fun gh listed A X hI hcl hin hun hall => ⟨Reg.wanted_none rfl, ?_⟩, ?_⟩
          · have e49 : A.tmps[49]? = some (.string s1) := hI.ev (i := 11) (d := 49) (by rfl) (hall ⟨11, .data⟩ (by simp) rfl)
            have HS := hI.st
            have hX := HS.bel (Reg.un_of_reach hcl (n := 20) (i := 12) (by kernel_rfl) (by simpa using hun))
            have HX := qhid hX
            clear hX
            clear hI
            unfold Reg.Yields
            go_simp
            exact ⟨gh, fun _ _ => rfl, rfl, HS.same (by decide) (by decide)⟩
          refine ⟨fun gh listed A X hI hcl hin hun hall => ⟨Reg.wanted_none rfl, ?_⟩, ?_⟩
          · have e5 := hI.evo (d := 5) (by kernel_rfl) rfl
            have HS := hI.st
            have hX := HS.bel (Reg.un_of_reach hcl (n := 20) (i := 13) (by kernel_rfl) (by simpa using hun))
            have HX := qhid hX
            clear hX
            clear hI
            unfold Reg.Yields
            go_simp
            exact ⟨gh, fun _ _ => rfl, rfl, HS.same (by decide) (by decide)⟩
          refine ⟨fun gh listed A X hI hcl hin hun hall => ⟨Reg.wanted_none rfl, ?_⟩, ?_⟩
          · have e51 : A.tmps[51]? = some (.pointer (some ⟨xb, 0, none⟩)) := hI.ev (i := 13) (d := 51) (by rfl) (hall ⟨13, .data⟩ (by simp) rfl)
            have HS := hI.st
            have hX := HS.bel (Reg.un_of_reach hcl (n := 20) (i := 14) (by kernel_rfl) (by simpa using hun))
            have hb := (hX.block _ (Reg.size_of_get HXB.out)).trans HXB.out
            have y0 := Joins.cell_of_block hb 0
            have hyl := Reg.size_of_get hb
            simp only [List.getElem?_toArray, List.getElem?_cons_zero] at y0
            clear hb
            have HX := qhid hX
            clear hX
            clear hI
            unfold Reg.Yields
            go_simp
            exact ⟨gh, fun _ _ => rfl, rfl, HS.same (by decide) (by decide)⟩
          refine ⟨fun gh listed A X hI hcl hin hun hall => ⟨Reg.wanted_none rfl, ?_⟩, ?_⟩
          · have e52 : A.tmps[52]? = some (.pointer (some ⟨q, 0, none⟩)) := hI.ev (i := 14) (d := 52) (by rfl) (hall ⟨14, .data⟩ (by simp) rfl)
            have HS := hI.st
            have hX := HS.bel (Reg.un_of_reach hcl (n := 20) (i := 15) (by kernel_rfl) (by simpa using hun))
            have hb := (hX.block _ (Reg.size_of_get HQ.out)).trans HQ.out
            have y6 := Joins.cell_of_block hb 6
            have hyl := Reg.size_of_get hb
            simp only [List.getElem?_toArray, List.getElem?_cons_zero, List.getElem?_cons_succ] at y6
            clear hb
            have HX := qhid hX
            clear hX
            clear hI
            unfold Reg.Yields
            go_simp
            exact ⟨gh, fun _ _ => rfl, rfl, HS.same (by decide) (by decide)⟩
          refine ⟨fun gh listed A X hI hcl hin hun hall => ⟨Reg.wanted_none rfl, ?_⟩, ?_⟩
          · have e53 : A.tmps[53]? = some (.pointer (some ⟨q, 0, none⟩)) := hI.ev (i := 15) (d := 53) (by rfl) (hall ⟨15, .data⟩ (by simp) rfl)
            have HS := hI.st
            have hX := HS.bel (Reg.un_of_reach hcl (n := 20) (i := 16) (by kernel_rfl) (by simpa using hun))
            have hb := (hX.block _ (Reg.size_of_get HQ.out)).trans HQ.out
            have y6 := Joins.cell_of_block hb 6
            have hyl := Reg.size_of_get hb
            simp only [List.getElem?_toArray, List.getElem?_cons_zero, List.getElem?_cons_succ] at y6
            clear hb
            have HX := qhid hX
            clear hX
            clear hI
            unfold Reg.Yields
            go_simp
            exact ⟨gh, fun _ _ => rfl, rfl, HS.same (by decide) (by decide)⟩
          refine ⟨fun gh listed A X hI hcl hin hun hall => ⟨Reg.wanted_none rfl, ?_⟩, ?_⟩
          · have e54 : A.tmps[54]? = some (.pointer (some ⟨q, 6, none⟩)) := hI.ev (i := 16) (d := 54) (by rfl) (hall ⟨16, .data⟩ (by simp) rfl)
            have HS := hI.st
            have hX := HS.bel (Reg.un_of_reach hcl (n := 20) (i := 17) (by kernel_rfl) (by simpa using hun))
            have hb := (hX.block _ (Reg.size_of_get HQ.out)).trans HQ.out
            have y6 := Joins.cell_of_block hb 6
            have hyl := Reg.size_of_get hb
            simp only [List.getElem?_toArray, List.getElem?_cons_zero, List.getElem?_cons_succ] at y6
            clear hb
            have HX := qhid hX
            clear hX
            clear hI
            unfold Reg.Yields
            go_simp
            exact ⟨gh, fun _ _ => rfl, rfl, HS.same (by decide) (by decide)⟩
          refine ⟨fun gh listed A X hI hcl hin hun hall => ⟨Reg.wanted_none rfl, ?_⟩, ?_⟩
          · have e55 : A.tmps[55]? = some (.pointer pa) := hI.ev (i := 17) (d := 55) (by rfl) (hall ⟨17, .data⟩ (by simp) rfl)
            have HS := hI.st
            have hX := HS.bel (Reg.un_of_reach hcl (n := 20) (i := 18) (by kernel_rfl) (by simpa using hun))
            have HX := qhid hX
            clear hX
            clear hI
            unfold Reg.Yields
            go_simp
            exact ⟨gh, fun _ _ => rfl, rfl, HS.same (by decide) (by decide)⟩
          refine ⟨fun gh listed A X hI hcl hin hun hall => ⟨Reg.wanted_none rfl, ?_⟩, ?_⟩
          · have e41 : A.tmps[41]? = some (.agg #[.pointer none, .string s2]) := hI.ev (i := 3) (d := 41) (by rfl) (hall ⟨3, .data⟩ (by simp) rfl)
            have e47 : A.tmps[47]? = some (.agg #[.pointer pb, .string ⟨#[]⟩]) := hI.ev (i := 9) (d := 47) (by rfl) (hall ⟨9, .data⟩ (by simp) rfl)
            have e50 : A.tmps[50]? = some (.agg #[.pointer none, .string s1]) := hI.ev (i := 12) (d := 50) (by rfl) (hall ⟨12, .data⟩ (by simp) rfl)
            have e56 : A.tmps[56]? = some (.agg #[.pointer pa, .string ⟨#[]⟩]) := hI.ev (i := 18) (d := 56) (by rfl) (hall ⟨18, .data⟩ (by simp) rfl)
            have HS := hI.st
            have hX := HS.bel (Reg.un_of_reach hcl (n := 20) (i := 19) (by kernel_rfl) (by simpa using hun))
            have HX := qhid hX
            clear hX
            clear hI
            unfold Reg.Yields
            go_simp
            exact ⟨(X.heap.size, gh.2), fun j hj => te8_a (j := j) (fun e => by rw [e] at hj; rw [hj] at hun; cases hun), rfl, HS.first (by decide) (Reg.un_of_reach hcl (n := 20) (i := 19) (by kernel_rfl) (by simpa using hun)) (below1 _ _) (heap_new _ _)⟩
          refine ⟨fun gh listed A X hI hcl hin hun hall => ⟨Reg.wanted_none rfl, ?_⟩, ?_⟩
          · have e38 : A.tmps[38]? = some (.slice (some ⟨g, 0, none⟩) n cap) := hI.ev (i := 0) (d := 38) (by rfl) (hall ⟨0, .data⟩ (by simp) rfl)
            have e57 : A.tmps[57]? = some (.slice (some ⟨gh.1, 0, none⟩) 4 4) := hI.ev (i := 19) (d := 57) (by rfl) (hall ⟨19, .data⟩ (by simp) rfl)
            have HS := hI.st
            have hX := HS.bel (by simpa using hun)
            have hP := HS.one (hall ⟨19, .data⟩ (by simp) rfl) (by simpa using hun)
            have HX := qhid hX
            clear hI hX
            obtain ⟨i0, hif, hy0, hy1, hy2⟩ := info_parts Tryz.infoPc
            have hrow := ownsBelow HROW.out HX.out
            have hbs := HBS.out
            have hln := HLN.out
            have hsz := HX.out.size
            refine Reg.yields_append_own (.tmp 38) (.tmp 57) 88 rfl w0.heap.size 87 i0 (.agg #[.pointer none, .string ⟨#[]⟩]) 2 24 Tryz.underlying88 hif hy0 hy1 hy2 rfl (by decide) (.slice (some ⟨g, 0, none⟩) n cap) n xs (by simp [Act.eval, e38]) hrow ⟨gh.1, 0, none⟩ 4 4 [.pointer none, .string s2, .pointer pb, .string ⟨#[]⟩, .pointer none, .string s1, .pointer pa, .string ⟨#[]⟩] (by simp [Act.eval, e57]) rfl (cells_at hP) (by intro u hu; simp only [List.mem_cons, List.not_mem_nil, or_false] at hu; rcases hu with rfl | rfl | rfl | rfl | rfl | rfl | rfl | rfl <;> rfl) (by unfold maxLen; omega) (by omega) (by omega) ?_
            intro v' w' ho hg _
            exact ⟨(gh.1, v'), fun j hj => te8_b (j := j) (fun e => by rw [e] at hj; rw [hj] at hun; cases hun) (fun e => by rw [e] at hj; rw [Reg.closed_reach hcl 60 21 20 (by kernel_rfl) hj] at hun; cases hun), rfl, HS.last (by simpa using hin) ⟨ho, X, HX.out, hg⟩⟩
          refine ⟨fun gh listed A X hI hcl hin hun hall => ⟨Reg.wanted_none rfl, ?_⟩, ?_⟩
          · have e58 : A.tmps[58]? = some (gh.2) := hI.ev (i := 20) (d := 58) (by rfl) (hall ⟨20, .data⟩ (by simp) rfl)
            have HS := hI.st
            clear hI
            unfold Reg.Yields
            go_simp
            exact ⟨gh, fun _ _ => rfl, rfl, HS.same (by decide) (by decide)⟩
          trivial
        · intro gh X hS
          have HR := qhid (hS.done (by rfl))
          clear hS
          simp [Reg.finalTmps, Reg.dstAt, Reg.valOf, te8]
          have HXS := qhid (show xs = P.flatMap Pc.vals from HXSE.out)
          obtain ⟨ho, Y, hY, hg⟩ := HR.out
          have hT5 := HM5.out.up hY
          have hTX : TelC w0 b X (l ++ byN (frL k s z).1) (P ++ fourP k s z ca cb pa pb) gh.2 := by
            refine ⟨hT5.bd.kept hT5.row hg (by decide) (by decide), ?_, hT5.be.grown hg hT5.be.size (fun k e => (ownsLt hT5.row e).1)⟩
            rw [HXS.out, HN.out] at ho
            rw [List.flatMap_append, List.length_append]
            rw [HS1.out, HS2.out] at ho
            exact ho
          have HTX := qhid hTX
          have HO8 : Hid (l ++ byN (frL k s z).1 ++ byN (outS (P ++ fourP k s z ca cb pa pb)) = byN (coN c0)) := qhid (by
            rw [← HL.out, four_out k s z ca cb (some ⟨q, 0, none⟩) pa pb P, byN_append, List.append_assoc])
          have hm8 := four_meas k s z ca cb (some ⟨q, 0, none⟩) pa pb P
          have HA8 : Hid (∀ x ∈ P ++ fourP k s z ca cb pa pb, PcAt w0 x) := qhid (fun x hx => by
            rcases List.mem_append.1 hx with hx | hx
            · exact HP.out x (List.mem_append_left _ hx)
            · exact HF4.out x hx)
          clear ho hg hY hT5 hTX HR
          go_wp2_with fail
          go_roundg (measP (P ++ fourP k s z ca cb pa pb))
          case rel => exact ⟨P ++ fourP k s z ca cb pa pb, _, Nat.le_refl _, by omega, HA8, HO8, HTX⟩
          case measure => omega
end
end Go.Proofs.YtfjepjkbflcjbaaGreatDoor
