/- core.tally: its memory, its function enter. -/
import Derived.Test.YtfjepjkbflcjbaaGreatDoorCoK
import Derived.Maps.AppendAt
namespace Go.Proofs.YtfjepjkbflcjbaaGreatDoor
section
open Go Go.RowKit
attribute [local go_sem ↓] Go.wp_at_zero Go.wp_at_succ
attribute [local go_sem] eq4
/-- tally's memory: the box of the map, the box of the path, the map, the path. -/
structure TalC (w0 w : World) (kB pB mb : Nat) (D : List (Option Nat × Int)) (P : List Nat) (pv : Value) : Prop where
  lk : w0.heap.size ≤ kB
  lp : w0.heap.size ≤ pB
  lm : w0.heap.size ≤ mb
  kb : Boxed w kB 79 (.map (some mb))
  pb : Boxed w pB 80 pv
  mp : kPtrMap w mb D
  row : w.ownsRow w0.heap.size 23 1 pv P.length (P.map fun q => kPtr (some q))
  be : Below w0.heap.size w0 w
theorem box_not_map {w : World} {B mb : Nat} {t : TypeId} {v : Value} {D : List (Option Nat × Int)} (h : Boxed w B t v) (hm : kPtrMap w mb D) : B ≠ mb := by
  rintro rfl
  obtain ⟨es, c, h1, _⟩ := hm
  have := (show w.heap[B]? = _ from h).symm.trans h1
  cases this
theorem row_not_map {w : World} {b e s k mb : Nat} {v : Value} {xs : List Value} {D : List (Option Nat × Int)} (h : w.ownsRow b e s v k xs) (hm : kPtrMap w mb D) : ∀ g, v.ownBlock = some g → g ≠ mb := by
  rintro g e rfl
  obtain ⟨es, c, h1, _⟩ := hm
  obtain ⟨o, ho, hc⟩ := row_isCells h g e
  rw [h1] at ho
  cases ho
  cases hc
theorem kPtrMap.keep {w w' : World} {mb : Nat} {row : Option Nat} {D : List (Option Nat × Int)} (h : kPtrMap w mb D) (hg : w.grownBy w' row) (hr : row ≠ some mb) : kPtrMap w' mb D := by
  obtain ⟨es, c, h1, h2⟩ := h
  exact ⟨es, c, (hg.block mb (Reg.size_of_get h1) (fun e => hr e.symm)).trans h1, h2⟩
theorem TalC.map {w0 w w' : World} {kB pB mb : Nat} {D D' : List (Option Nat × Int)} {P : List Nat} {pv : Value} (h : TalC w0 w kB pB mb D P pv) (hg : w.grownBy w' (some mb)) (hm : kPtrMap w' mb D') : TalC w0 w' kB pB mb D' P pv :=
  ⟨h.lk, h.lp, h.lm, h.kb.kept hg (fun e => box_not_map h.kb h.mp (Option.some.inj e)), h.pb.kept hg (fun e => box_not_map h.pb h.mp (Option.some.inj e)), hm, ownsKeep h.row hg (fun g e e' => row_not_map h.row h.mp g e (Option.some.inj e').symm), h.be.grown hg h.be.size (fun k e => by cases e; exact h.lm)⟩
theorem TalC.up {w0 w w' : World} {kB pB mb : Nat} {D : List (Option Nat × Int)} {P : List Nat} {pv : Value} (h : TalC w0 w kB pB mb D P pv) (hb : Below w.heap.size w w') : TalC w0 w' kB pB mb D P pv := by
  have hg := grown_below none hb
  exact ⟨h.lk, h.lp, h.lm, h.kb.kept hg (by simp), h.pb.kept hg (by simp), h.mp.keep hg (by simp), ownsBelow h.row hb, h.be.trans (hb.mono h.be.size)⟩
/-- The path's box gets a slice of its own. -/
theorem TalC.path {w0 w w4 : World} {kB pB mb : Nat} {D : List (Option Nat × Int)} {P P' : List Nat} {pv pv' : Value} {o : Obj} (h : TalC w0 w kB pB mb D P pv) (hg : (w.alloc o).grownBy w4 pv.ownBlock) (hr : w4.ownsRow w0.heap.size 23 1 pv' P'.length (P'.map fun q => kPtr (some q))) :
    Boxed w4 pB 80 pv ∧ TalC w0 (w4.setCell ⟨pB, 0, none⟩ pv') kB pB mb D P' pv' := by
  have h1 := h.up (below1 w o)
  have kb4 := h1.kb.kept hg (h1.kb.not_row (by decide) h1.row)
  have pb4 := h1.pb.kept hg (h1.pb.not_row (by decide) h1.row)
  have mp4 := h1.mp.keep hg (fun e => row_not_map h1.row h1.mp _ e rfl)
  have be4 : Below w0.heap.size w0 w4 := h1.be.grown hg h1.be.size (fun k e => (ownsLt h1.row e).1)
  have s := grownBy_setCell' w4 pB pv'
  exact ⟨pb4, h.lk, h.lp, h.lm, kb4.kept s (fun e => ne_box kb4 pb4 (by decide) (Option.some.inj e)), pb4.set _, mp4.keep s (fun e => box_not_map pb4 mp4 (Option.some.inj e)), hr.kept s (.inr (pb4.not_row (by decide) hr).symm), be4.setCell (p := ⟨pB, 0, none⟩) h.lp _⟩
/-- .. and a shorter one. -/
theorem TalC.pop {w0 w : World} {kB pB mb : Nat} {D : List (Option Nat × Int)} {P : List Nat} {q : Nat} {pv : Value} (h : TalC w0 w kB pB mb D (P ++ [q]) pv) :
    ∃ g cap, pv = .slice (some ⟨g, 0, none⟩) (P.length + 1) cap ∧ P.length + 1 ≤ cap ∧ w.cell? ⟨g, P.length, none⟩ = some (kPtr (some q)) ∧ g < w.heap.size ∧ TalC w0 (w.setCell ⟨pB, 0, none⟩ (.slice (some ⟨g, 0, none⟩) P.length cap)) kB pB mb D P (.slice (some ⟨g, 0, none⟩) P.length cap) := by
  have hl : (P ++ [q]).length = P.length + 1 := by simp
  rcases h.row.2 with ⟨_, h0⟩ | ⟨g, cap, cur, rfl, hb, hh, hn, hm, hs, ht⟩
  · rw [hl] at h0; omega
  · rw [hl] at hn ht
    have key : ∀ j u, ((P ++ [q]).map fun q => kPtr (some q))[j]? = some u → w.cell? ((⟨g, 0, none⟩ : Addr).add j) = some u := h.row.cells (g := g) rfl
    have ha : ∀ j, (⟨g, 0, none⟩ : Addr).add j = ⟨g, j, none⟩ := fun j => by unfold Addr.add; split <;> simp_all
    have k0 := key P.length (kPtr (some q)) (by simp)
    rw [ha] at k0
    have hr : w.ownsRow w0.heap.size 23 1 (.slice (some ⟨g, 0, none⟩) P.length cap) P.length (P.map fun q => kPtr (some q)) := by
      refine ⟨by simp, .inr ⟨g, cap, cur, rfl, hb, hh, by omega, hm, hs, ?_⟩⟩
      have : (cur.toList.take ((P.length + 1) * 1)).take (P.length * 1) = ((P ++ [q]).map fun q => kPtr (some q)).take (P.length * 1) := by rw [ht]
      rw [List.take_take, Nat.min_eq_left (by omega)] at this
      rw [this]
      simp
    have s := grownBy_setCell' w pB (.slice (some ⟨g, 0, none⟩) P.length cap)
    refine ⟨g, cap, by rw [hl], hn, k0, (Array.getElem?_eq_some_iff.1 hh).1, h.lk, h.lp, h.lm, h.kb.kept s (fun e => ne_box h.kb h.pb (by decide) (Option.some.inj e)), h.pb.set _, h.mp.keep s (fun e => box_not_map h.pb h.mp (Option.some.inj e)), hr.kept s (.inr (h.pb.not_row (by decide) hr).symm), h.be.setCell (p := ⟨pB, 0, none⟩) h.lp _⟩
set_option maxRecDepth 100000 in
set_option maxHeartbeats 4000000 in
theorem tal_enter (w0 w : World) (kB pB mb q : Nat) (D : List (Option Nat × Int)) (P : List Nat) (pv : Value) (h : TalC w0 w kB pB mb D P pv) (hq : IsK w (some q)) (hD : ∀ p ∈ D, IsK w p.1) (hP : P.length ≤ 1000000000) :
    Calls Tryz.prog 32 #[.pointer (some ⟨q, 0, none⟩), .pointer (some ⟨kB, 0, none⟩), .pointer (some ⟨pB, 0, none⟩)] w fun e w' => e = .returned (.tuple #[]) ∧ ∃ pv', TalC w0 w' kB pB mb (kputD D (some q) (-1)) (P ++ [q]) pv' := by
  obtain ⟨w2, hup, hm2, hg2⟩ := kupdate_ptr (-1) h.mp hq hD
  have hup : (Instr.mapUpdate 79 (.map (some mb)) (.pointer (some ⟨q, 0, none⟩)) (.int .i64 (-1))).run Tryz.prog w = .ok () w2 := hup
  have h2 := h.map hg2 hm2
  have hkb := h.kb.cell
  have hpb2 := h2.pb.cell
  have H2 := qhid h2
  have hsz := h2.be.size
  obtain ⟨i0, hif, hy0, hy1, hy2⟩ := info_parts Tryz.infoCoP
  clear hm2 hg2 h2 h hq hD
  go_enter Tryz.func32, Tryz.ntmps32
  go_wp2_with (at_builtin; go_must (refine wpList_append_own_at _ rfl (.tmp 6) (.tmp 8) 80 rfl w0.heap.size 23 i0 (.pointer none) 1 8 Tryz.underlying80 hif hy0 hy1 hy2 rfl (by decide) pv _ _ rfl (ownsAlloc H2.out.row _) ⟨_, 0, none⟩ 1 1 [.pointer (some ⟨q, 0, none⟩)] rfl rfl (cell_one_new _ _ _) (by simp [Value.oneCell']) (by unfold maxLen; omega) (by omega) (by simp; omega) ?_; intro v4 w4 ho hg4 _ _; obtain ⟨b4, c4, hs4⟩ : ∃ b c, v4 = .slice b (P.length + 1) c := row_slice ho; subst hs4; have hpt := H2.out.path (P' := P ++ [q]) hg4 (by rw [List.length_append, List.map_append]; exact ho); have HPT := qhid hpt.2; have hc4 := hpt.1.cell; have hf4 := hpt.1.frozen; clear hpt ho hg4))
  go_end0
  exact ⟨rfl, _, HPT.out⟩
end
end Go.Proofs.YtfjepjkbflcjbaaGreatDoor
