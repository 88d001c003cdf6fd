/- strings.Builder's WriteString, and what it leaves as it was. core.tell: its stack of pieces. -/
import Derived.Test.YtlmcgbieobklhaaGreatDoorCsB
namespace Go.Proofs.YtlmcgbieobklhaaGreatDoor
section
section
open Go Go.RowKit
attribute [local go_sem ↓] Go.wp_at_zero Go.wp_at_succ
/-- Blocks of cells of other types than a builder's are as they were. -/
structure KeepT (w w' : World) : Prop where
  size : w.heap.size ≤ w'.heap.size
  row : ∀ (g : Nat) (cs : Array Value) (t : TypeId) (fr : Nat × Nat), w.heap[g]? = some (.cells cs t fr) → t ≠ 5 → t ≠ 101 → w'.heap[g]? = some (.cells cs t fr)
theorem KeepT.refl (w : World) : KeepT w w := ⟨Nat.le_refl _, fun _ _ _ _ h _ _ => h⟩
theorem KeepT.trans {w w1 w2 : World} (h : KeepT w w1) (k : KeepT w1 w2) : KeepT w w2 := ⟨Nat.le_trans h.size k.size, fun g cs t fr e h1 h2 => k.row g cs t fr (h.row g cs t fr e h1 h2) h1 h2⟩
theorem KeepT.setB {w : World} {b : Nat} {cs : Array Value} {fr : Nat × Nat} (hb : w.heap[b]? = some (.cells cs 101 fr)) (i : Nat) (v : Value) : KeepT w (w.setCell ⟨b, i, none⟩ v) := by
  have s := grownBy_setCell' w b v
  refine ⟨by simp only [World.setCell, Array.size_modify]; exact Nat.le_refl _, fun g cs' t fr' e h1 h2 => ?_⟩
  have hne : b ≠ g := by
    rintro rfl
    rw [hb] at e
    injection e with e
    injection e with _ e
    exact h2 e.symm
  simp only [World.setCell, Array.getElem?_modify]
  rw [if_neg hne]
  exact e
theorem KeepT.grown {w w' : World} {B n : Nat} {v : Value} {xs : List Value} (h : w.ownsRow B 5 1 v n xs) (hg : w.grownBy w' v.ownBlock) : KeepT w w' := by
  refine ⟨hg.size, fun g cs t fr e h1 h2 => ?_⟩
  have hl := Reg.size_of_get e
  refine (hg.block g hl (fun e' => ?_)).trans e
  rcases h.2 with ⟨rfl, _⟩ | ⟨g', cap, cur, rfl, _, hh, _⟩
  · cases e'
  · injection e' with e'
    subst e'
    rw [hh] at e
    injection e with e
    injection e with _ e
    exact h1 e.symm
theorem KeepT.owns {w w' : World} {B m n : Nat} {t : TypeId} {v : Value} {xs : List Value} (h : w.ownsRow B t m v n xs) (hk : KeepT w w') (h1 : t ≠ 5) (h2 : t ≠ 101) : w'.ownsRow B t m v n xs := by
  refine ⟨h.1, ?_⟩
  rcases h.2 with h3 | ⟨g, cap, cur, e, hb, hh, r⟩
  · exact .inl h3
  · exact .inr ⟨g, cap, cur, e, hb, hk.row _ _ _ _ hh h1 h2, r⟩
theorem sb_checkK (B b : Nat) (bs : List Value) (w : World) (h : Lib.IsBuilder 101 5 B b bs w) :
    Calls Tryz.prog 77 #[.pointer (some ⟨b, 0, none⟩)] w fun e w' => e = .returned (.tuple #[]) ∧ (Lib.BuilderAt 101 5 B b (.pointer (some ⟨b, 0, none⟩)) bs w' ∧ Below B w w' ∧ KeepT w w') := by
  rcases h with h | h
  · obtain ⟨_, v, hbk, _⟩ := id h
    refine (sb_check_fresh b w h.cell0 h.shape h.frozen0).mono ?_
    rintro e w' ⟨rfl, rfl⟩
    exact ⟨rfl, h.used _, (Below.refl B w).setCell (p := ⟨b, 0, none⟩) h.1 _, KeepT.setB hbk _ _⟩
  · refine (sb_check_used b w h.cell0).mono ?_
    rintro e w' ⟨rfl, rfl⟩
    exact ⟨rfl, h, Below.refl B _, KeepT.refl _⟩
set_option maxHeartbeats 2000000 in
set_option maxRecDepth 100000 in
theorem sb_writeK (B b : Nat) (bs : List Value) (s : ByteArray) (w : World) (h : Lib.IsBuilder 101 5 B b bs w) (hlen : bs.length + s.size ≤ 140737488355328) (hBw : B ≤ w.heap.size) :
    Calls Tryz.prog 79 #[.pointer (some ⟨b, 0, none⟩), .string s] w fun e w' => e = .returned (.tuple #[.int .i64 s.size, .nilIface]) ∧ (Lib.BuilderAt 101 5 B b (.pointer (some ⟨b, 0, none⟩)) (bs ++ Lib.strCells s) w' ∧ Below B w w' ∧ KeepT w w') := by
  obtain ⟨i0, hi, hz0, hz1, hz2⟩ := info_parts Tryz.infoBd
  have CK := qhid (sb_checkK B b bs w h)
  clear h
  go_enter Tryz.func79, Tryz.ntmps79
  go_wp2_with fail
  refine CK.out.mono ?_
  rintro e w1 ⟨rfl, h1, hb1, hk1⟩
  obtain ⟨hB, v, hbk, hown, hne⟩ := h1
  have c0 : w1.cell? ⟨b, 0, none⟩ = some (.pointer (some ⟨b, 0, none⟩)) := by rw [Lib.cell_of_heap hbk]; rfl
  have c1 : w1.cell? ⟨b, 1, none⟩ = some v := by rw [Lib.cell_of_heap hbk]; rfl
  go_wp2_with (at_builtin; refine Lib.wpList_append_own_string _ rfl _ _ 99 9 rfl B 5 i0 Tryz.bytBd Tryz.strBd hi hz0 hz1 hz2 _ _ _ rfl hown s rfl ?c3 ?c4 ?c5 ?_)
  case c3 => unfold maxLen; omega
  case c4 => omega
  case c5 => have := hb1.size; omega
  intro v' w2 hown' hgrow _
  have hlt : b < w1.heap.size := by
    rcases Nat.lt_or_ge b w1.heap.size with h' | h'
    · exact h'
    · simp [Array.getElem?_eq_none h'] at hbk
  have hb2 : w2.heap[b]? = some (.cells #[.pointer (some ⟨b, 0, none⟩), v] 101 (0, 0)) := by
    rw [hgrow.block b hlt (fun e => hne e.symm)]
    exact hbk
  have d0 : w2.cell? ⟨b, 0, none⟩ = some (.pointer (some ⟨b, 0, none⟩)) := by rw [Lib.cell_of_heap hb2]; rfl
  have d1 : w2.cell? ⟨b, 1, none⟩ = some v := by rw [Lib.cell_of_heap hb2]; rfl
  have f1 : w2.frozen? ⟨b, 1, none⟩ = false := Lib.frozen_of_heap hb2 1
  obtain ⟨ao, n', cap, rfl⟩ : ∃ ao n' cap, v' = .slice ao n' cap := by
    rcases hown'.2 with ⟨hv, _⟩ | ⟨g, cap, cur, hv, _⟩
    · exact ⟨_, _, _, hv⟩
    · exact ⟨_, _, _, hv⟩
  go_wp2
  go_ret2
  refine ⟨rfl, ?_, ?_, ?_⟩
  · exact Lib.BuilderAt.put (T := 101) (e := 5) hB hb2 (bs' := bs ++ Lib.strCells s) (by simpa [Lib.strCells_length] using hown') Tryz.neSb
  · exact (hb1.grown hgrow (by have := hb1.size; omega) (fun k hk => (hown.lt k hk).1)).setCell (p := ⟨b, 1, none⟩) hB _
  · exact hk1.trans ((KeepT.grown hown hgrow).trans (KeepT.setB hb2 _ _))
/-- .. a text of numbers. -/
theorem sw_writeK {B b : Nat} {l : List UInt8} {w : World} (x : List Nat) (h : SbAt B b l w) (hlen : l.length + x.length ≤ 1099511627776) :
    Calls Tryz.prog 79 #[.pointer (some ⟨b, 0, none⟩), .string (baN x)] w fun e w' => e = .returned (.tuple #[.int .i64 (x.length : Int), .nilIface]) ∧ SbAt B b (l ++ byN x) w' ∧ Below B w w' ∧ KeepT w w' := by
  refine (sb_writeK B b _ (baN x) w h (by rw [Lib.byteCells_length, baN_size]; omega) (by have := h.le; omega)).mono fun e w' ⟨he, hW, hb, hk⟩ => ⟨by rw [he, baN_size], .inr ?_, hb, hk⟩
  rw [Lib.byteCells_append, ← strCells_baN]
  exact hW
end
end
section
section
open Go Go.RowKit
/-- A piece: a core's node, or a text. -/
structure Pc where
  c : Co
  p : Option Addr
  l : List Nat
def Pc.vals (x : Pc) : List Value := [.pointer x.p, .string (baN x.l)]
def Pc.out (x : Pc) : List Nat := coN x.c ++ x.l
structure PcAt (w : World) (x : Pc) : Prop where
  at_ : CoAt w x.c (.pointer x.p)
  one : x.c = .nil ∨ x.l = []
  fit : CoFit x.c
/-- What the pieces tell, the last first. -/
def outS : List Pc → List Nat
  | [] => []
  | x :: r => outS r ++ x.out
theorem outS_snoc (P : List Pc) (x : Pc) : outS (P ++ [x]) = x.out ++ outS P := by
  induction P with
  | nil => simp [outS]
  | cons y r ih => simp [outS, ih]
theorem outS_append (P Q : List Pc) : outS (P ++ Q) = outS Q ++ outS P := by
  induction P with
  | nil => simp [outS]
  | cons y r ih => simp [outS, ih]
def measP (P : List Pc) : Nat := (P.map fun x => 4 * coSize x.c + 1).sum
theorem measP_append (P Q : List Pc) : measP (P ++ Q) = measP P + measP Q := by simp [measP]
theorem measP_len (P : List Pc) : P.length ≤ measP P := by
  unfold measP
  induction P with
  | nil => exact Nat.le_refl _
  | cons x r ih =>
    simp only [List.map_cons, List.sum_cons, List.length_cons]
    omega
/-- A node's four pieces, as they are laid. -/
def fourP (k : Int) (s : W4) (z : Bool) (a b : Co) (pa pb : Option Addr) : List Pc := [⟨.nil, none, (frL k s z).2.2⟩, ⟨b, pb, []⟩, ⟨.nil, none, (frL k s z).2.1⟩, ⟨a, pa, []⟩]
theorem four_out (k : Int) (s : W4) (z : Bool) (a b : Co) (p pa pb : Option Addr) (P : List Pc) : outS (P ++ [⟨.node k s z a b, p, []⟩]) = (frL k s z).1 ++ outS (P ++ fourP k s z a b pa pb) := by
  rw [outS_snoc, outS_append]
  simp [fourP, outS, Pc.out, coN]
theorem four_meas (k : Int) (s : W4) (z : Bool) (a b : Co) (p pa pb : Option Addr) (P : List Pc) : measP (P ++ fourP k s z a b pa pb) + 1 = measP (P ++ [⟨.node k s z a b, p, []⟩]) := by
  rw [measP_append, measP_append]
  simp only [measP, fourP, List.map_cons, List.map_nil, List.sum_cons, List.sum_nil, coSize]
  omega
theorem four_at {w : World} {k : Int} {s : W4} {z : Bool} {a b : Co} {pa pb : Option Addr} (ha : CoAt w a (.pointer pa)) (hb : CoAt w b (.pointer pb)) (hf : CoFit (.node k s z a b)) : ∀ x ∈ fourP k s z a b pa pb, PcAt w x := by
  intro x hx
  simp only [fourP, List.mem_cons, List.not_mem_nil, or_false] at hx
  rcases hx with rfl | rfl | rfl | rfl
  · exact ⟨.nil, .inl rfl, trivial⟩
  · exact ⟨hb, .inr rfl, hf.2.2⟩
  · exact ⟨.nil, .inl rfl, trivial⟩
  · exact ⟨ha, .inr rfl, hf.2.1⟩
theorem vals_len (P : List Pc) : (P.flatMap Pc.vals).length = P.length * 2 := by
  induction P with
  | nil => rfl
  | cons s S ih => simp [Pc.vals, ih]; omega
/-- tell's memory: the builder, the stack. -/
structure TelC (w0 : World) (b : Nat) (w : World) (l : List UInt8) (P : List Pc) (v : Value) : Prop where
  bd : SbAt w0.heap.size b l w
  row : w.ownsRow w0.heap.size 144 2 v P.length (P.flatMap Pc.vals)
  be : Below w0.heap.size w0 w
theorem TelC.up {w0 w w' : World} {b : Nat} {l : List UInt8} {P : List Pc} {v : Value} (h : TelC w0 b w l P v) (hb : Below w.heap.size w w') : TelC w0 b w' l P v :=
  ⟨h.bd.up hb, ownsBelow h.row hb, h.be.trans (hb.mono h.be.size)⟩
theorem TelC.wrote {w0 w w' : World} {b : Nat} {l l' : List UInt8} {P : List Pc} {v : Value} (h : TelC w0 b w l P v) (hs : SbAt w0.heap.size b l' w') (hb : Below w0.heap.size w w') (hk : KeepT w w') : TelC w0 b w' l' P v :=
  ⟨hs, hk.owns h.row (by decide) (by decide), h.be.trans hb⟩
/-- The last piece. -/
theorem TelC.pop {w0 w : World} {b : Nat} {l : List UInt8} {P : List Pc} {x : Pc} {v : Value} (h : TelC w0 b w l (P ++ [x]) v) :
    ∃ g cap, v = .slice (some ⟨g, 0, none⟩) (P.length + 1) cap ∧ P.length + 1 ≤ cap ∧ w.cell? ⟨g, P.length * 2, none⟩ = some (.pointer x.p) ∧ w.cell? ⟨g, P.length * 2 + 1, none⟩ = some (.string (baN x.l)) ∧ g < w.heap.size ∧ TelC w0 b w l P (.slice (some ⟨g, 0, none⟩) P.length cap) := by
  have hl : (P ++ [x]).length = P.length + 1 := by simp
  rcases h.row.2 with ⟨_, h0⟩ | ⟨g, cap, cur, rfl, hb, hh, hn, hm, hs, ht⟩
  · rw [hl] at h0; omega
  · rw [hl] at hn ht
    have key : ∀ j u, ((P ++ [x]).flatMap Pc.vals)[j]? = some u → w.cell? ((⟨g, 0, none⟩ : Addr).add j) = some u := h.row.cells (g := g) rfl
    have ha : ∀ j, (⟨g, 0, none⟩ : Addr).add j = ⟨g, j, none⟩ := fun j => by unfold Addr.add; split <;> simp_all
    have e1 : (P ++ [x]).flatMap Pc.vals = P.flatMap Pc.vals ++ x.vals := by simp
    have k0 := key (P.length * 2) (.pointer x.p) (by rw [e1, List.getElem?_append_right (by rw [vals_len]; omega), vals_len, Nat.sub_self]; rfl)
    have k1 := key (P.length * 2 + 1) (.string (baN x.l)) (by rw [e1, List.getElem?_append_right (by rw [vals_len]; omega), vals_len, show P.length * 2 + 1 - P.length * 2 = 1 by omega]; rfl)
    rw [ha] at k0 k1
    refine ⟨g, cap, by rw [hl], hn, k0, k1, (Array.getElem?_eq_some_iff.1 hh).1, h.bd, ⟨vals_len P, .inr ⟨g, cap, cur, rfl, hb, hh, by omega, hm, hs, ?_⟩⟩, h.be⟩
    have : (cur.toList.take ((P.length + 1) * 2)).take (P.length * 2) = ((P ++ [x]).flatMap Pc.vals).take (P.length * 2) := by rw [ht]
    rw [List.take_take, Nat.min_eq_left (by omega)] at this
    rw [this, e1, List.take_left' (vals_len P)]
end
end
end Go.Proofs.YtlmcgbieobklhaaGreatDoor
