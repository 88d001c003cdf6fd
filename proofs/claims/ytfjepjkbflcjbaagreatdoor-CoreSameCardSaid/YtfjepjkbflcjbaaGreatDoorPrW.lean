/- The ranges of a set, in a seat that holds the tokens: a range's end, ranges as a list, the contract of Ranges. What is printed of bytes, sets and counts, told plainly: plain mathematics; the scanner reads it back. A byte, told: printer.Byte; a byte looked for in a text. A set, told: printer.class, printer.Set. The builder that a writer bears, in the writer's block: its methods, told. A count, told: printer.times, printer.Count. A tree, printed: the writer's group, nodes. A tree, printed: the writer's node. Print and Normal told; layer 7's example. -/
import Derived.Test.YtfjepjkbflcjbaaGreatDoorTb
import Derived.Test.YtfjepjkbflcjbaaGreatDoorRegionY
import Derived.LoopTactic
import Derived.Test.YtfjepjkbflcjbaaGreatDoorRa
import Derived.Deep.QuietTactic
import Derived.BigQuiet
import Derived.Test.YtfjepjkbflcjbaaGreatDoorTa
import Derived.Lib.Strings
import Derived.Lib.Slices
import Derived.Lib.Builder
import Derived.Lib.AppendStr
import Derived.Lib.UnsafeStr
import Derived.Laws.Externs
import Derived.Laws.IdiomCopy
import Derived.Laws.BitsLemmas
import Derived.Shelf.Strconv.Itoa3
import Derived.Lib.ItoaNum
import Derived.Lib.ItoaMem
import Derived.Lib.ItoaLen
import Derived.Test.YtfjepjkbflcjbaaGreatDoorRegionC
import Derived.Test.YtfjepjkbflcjbaaGreatDoorPbH
import Derived.Test.YtfjepjkbflcjbaaGreatDoorPbO
namespace Go.Proofs.YtfjepjkbflcjbaaGreatDoor.Reg
open Go Go.RowKit
section
variable {ops : Array Oper}
/-- Ahead of operation n R0 holds of the world, behind it R1. -/
structure GenC (n : Nat) (R0 R1 : World → Prop) (l : Array Bool) (X : World) : Prop where
  ahead : l.getD n false = false → R0 X
  done : l.getD n false = true → R1 X
theorem GenC.not {n i : Nat} {R0 R1 : World → Prop} {l : Array Bool} {X : World} (_h : GenC n R0 R1 l X) (hcl : ClosedL ops l) (hr : reach ops 30 n i = true) (hun : l.getD i false = false) : l.getD n false = false := by
  cases e : l.getD n false with
  | false => rfl
  | true => rw [closed_reach hcl _ _ _ hr e] at hun; cases hun
theorem GenC.at {n i : Nat} {R0 R1 : World → Prop} {l : Array Bool} {X : World} (h : GenC n R0 R1 l X) (hcl : ClosedL ops l) (hr : reach ops 30 n i = true) (hun : l.getD i false = false) : R0 X :=
  h.ahead (h.not hcl hr hun)
theorem GenC.up {n i : Nat} {R0 R1 : World → Prop} {l : Array Bool} {X : World} (h : GenC n R0 R1 l X) (hi : i ≠ n) : GenC n R0 R1 (l.setIfInBounds i true) X := by
  refine ⟨fun e => ?_, fun e => ?_⟩
  · rw [getD_set_ne false hi] at e; exact h.ahead e
  · rw [getD_set_ne false hi] at e; exact h.done e
theorem GenC.step {n i : Nat} {R0 R1 : World → Prop} {l : Array Bool} {X Y : World} (h : GenC n R0 R1 l X) (hcl : ClosedL ops l) (hr : reach ops 30 n i = true) (hun : l.getD i false = false) (hi : i ≠ n) (hY : R0 Y) : GenC n R0 R1 (l.setIfInBounds i true) Y := by
  refine ⟨fun _ => hY, fun e => ?_⟩
  rw [getD_set_ne false hi, h.not hcl hr hun] at e
  cases e
theorem GenC.put {n : Nat} {R0 R1 : World → Prop} {l : Array Bool} {Y : World} (hin : n < l.size) (hR : R1 Y) : GenC n R0 R1 (l.setIfInBounds n true) Y := by
  refine ⟨fun e => ?_, fun _ => hR⟩
  rw [set_self hin] at e; cases e
theorem GenC.start {n k : Nat} {X : World} (R0 R1 : World → Prop) (h : R0 X) : GenC n R0 R1 (Array.replicate k false) X :=
  ⟨fun _ => h, fun e => by simp [Array.getD_eq_getD_getElem?, Array.getElem?_replicate] at e; split at e <;> simp_all⟩
end
end Go.Proofs.YtfjepjkbflcjbaaGreatDoor.Reg
namespace Go.Proofs.YtfjepjkbflcjbaaGreatDoor
section
section
open Go Go.RowKit
/-- A set lies in a block, and memory is as it was as far as it went. -/
abbrev HeldZ (W : World) (gs : Nat) (a b c d : Int) (w' : World) : Prop :=
  (w'.cell? ⟨gs, 0, none⟩ = some (.int .u64 a) ∧ w'.cell? ⟨gs, 1, none⟩ = some (.int .u64 b) ∧ w'.cell? ⟨gs, 2, none⟩ = some (.int .u64 c) ∧ w'.cell? ⟨gs, 3, none⟩ = some (.int .u64 d)) ∧ gs < w'.heap.size ∧ Below W.heap.size W w'
theorem heldZ_below {W : World} {gs : Nat} {a b c d : Int} {X Y : World} (hb : Below X.heap.size X Y) (h : HeldZ W gs a b c d X) : HeldZ W gs a b c d Y := by
  obtain ⟨⟨h0, h1, h2, h3⟩, hg, hB⟩ := h
  exact ⟨⟨(hb.cell (p := ⟨gs, 0, none⟩) hg).trans h0, (hb.cell (p := ⟨gs, 1, none⟩) hg).trans h1, (hb.cell (p := ⟨gs, 2, none⟩) hg).trans h2, (hb.cell (p := ⟨gs, 3, none⟩) hg).trans h3⟩, Nat.lt_of_lt_of_le hg hb.size, hB.trans (hb.mono hB.size)⟩
theorem size_setZ (w : World) (a : Addr) (v : Value) : (w.setCell a v).heap.size = w.heap.size := by simp only [World.setCell, Array.size_modify]
end
section
open Go Go.RowKit
attribute [local go_sem ↓] Go.wp_at_zero Go.wp_at_succ
attribute [local go_sem] eq4
theorem firstIs_one {f : Nat → Bool} {v v' : Value} (h : FirstIs f v) (h' : FirstIs f v') : v = v' := by
  rcases h with ⟨h, rfl⟩ | ⟨n, hn, hf, hl, rfl⟩
  · rcases h' with ⟨_, rfl⟩ | ⟨m, hm, hg, _, _⟩
    · rfl
    · rw [h m hm] at hg; cases hg
  · rcases h' with ⟨h', _⟩ | ⟨m, hm, hg, hk, rfl⟩
    · rw [h' n hn] at hf; cases hf
    · rcases Nat.lt_trichotomy n m with e | e | e
      · rw [hk n e] at hf; cases hf
      · subst e; rfl
      · rw [hl m e] at hg; cases hg
theorem first_at {a b c d : Int} {w : World} {v : Value} (fa : Fit a) (fb : Fit b) (fc : Fit c) (fd : Fit d) (hT : Tab w) (hv : FirstIs (memb a b c d) v) :
    Calls Tryz.prog 58 #[.agg #[.int .u64 a, .int .u64 b, .int .u64 c, .int .u64 d]] w fun e w' => e = .returned v ∧ Below w.heap.size w w' :=
  (first_any a b c d w fa fb fc fd hT).mono fun e w' ⟨v', he, h', hb⟩ => ⟨by rw [he, firstIs_one h' hv], hb⟩
def endTold (lo : Nat) (a b c d g : Int) (okb : Bool) : Nat → Reg.Told
  | 0 => .inl (.int .u8 ((lo : Int)))
  | 1 => .inl (.agg #[.int .u64 (frw lo 0), .int .u64 (frw lo 1), .int .u64 (frw lo 2), .int .u64 (frw lo 3)])
  | 2 => .inl (.agg #[.int .u64 a, .int .u64 b, .int .u64 c, .int .u64 d])
  | 3 => .inl (.agg #[.int .u64 (an (frw lo 0) (nt a)), .int .u64 (an (frw lo 1) (nt b)), .int .u64 (an (frw lo 2) (nt c)), .int .u64 (an (frw lo 3) (nt d))])
  | 4 => .inl (.tuple #[.int .u8 g, .bool okb])
  | 5 => .inl (.tuple #[.int .u8 g, .bool okb])
  | 6 => .inl (.int .u8 g)
  | 7 => .inl (.bool okb)
  | 8 => .inl (.int .u8 g)
  | 9 => .inl (.bool okb)
  | _ => .inl undef
set_option maxRecDepth 100000 in
set_option maxHeartbeats 8000000 in
theorem end_at (lo : Nat) (a b c d g : Int) (okb : Bool) (r : Int) (w : World) (hlo : lo < 256) (hT : Tab w) (hF : FirstIs (memb (an (frw lo 0) (nt a)) (an (frw lo 1) (nt b)) (an (frw lo 2) (nt c)) (an (frw lo 3) (nt d))) (.tuple #[.int .u8 g, .bool okb])) (hr : (okb = false ∧ r = 255) ∨ (okb = true ∧ 1 ≤ g ∧ g ≤ 255 ∧ r = g - 1)) :
    Calls Tryz.prog 99 #[.agg #[.int .u64 a, .int .u64 b, .int .u64 c, .int .u64 d], .int .u8 lo] w fun e w' => e = .returned (.int .u8 r) ∧ Below w.heap.size w w' := by
  have HF := hid hF
  clear hF
  go_enter Tryz.func99, Tryz.ntmps99
  go_wp2_with fail
  generalize hws : w.alloc _ = ws
  have HS : HeldZ ws w.heap.size a b c d ws := by
    subst hws
    exact ⟨⟨by simp [go_sem], by simp [go_sem], by simp [go_sem], by simp [go_sem]⟩, by simp, Below.refl _ _⟩
  have hba : Below w.heap.size w ws := by subst hws; exact below1 _ _
  clear hws
  have HT := hid (hT.up hba)
  have HB := hid hba
  have hs := hba.size
  have HW := heldZ_below (Below.refl _ ws).drew HS
  clear hT hba HS
  generalize w.heap.size = gs at HW ⊢
  refine Reg.wp_region_told (endTold lo a b c d g okb) [] [0, 1, 2, 3, 4, 5, 6, 7, 8, 9] (by kernel_rfl) (by kernel_rfl) (by kernel_rfl) (by intro f hf; cases hf) (by intro f hf; cases hf) ?_ ?_
  focus
    refine ⟨Reg.opOK_plain (by rfl) fun G listed A wv hI hall => .inl ⟨Reg.wanted_none rfl, ?_⟩, ?_⟩
    focus
      have e1 := hI.evo (d := 1) (by kernel_rfl) rfl
      clear hI hall HW
      unfold Reg.Yields
      go_simp
      exact Reg.good_val (by rfl) (by rfl) (Below.refl _ _)
    refine ⟨Reg.opOK_plain (by rfl) fun G listed A wv hI hall => .inl ⟨Reg.wanted_none rfl, ?_⟩, ?_⟩
    focus
      have e8 := hI.ev (i := 0) (d := 8) (by rfl) (by rfl) (hall ⟨0, .data⟩ (by simp) rfl)
      clear hI hall HW
      unfold Reg.Yields
      go_simp
      exact (from_any lo hlo _).mono fun e w'' ⟨he, hb⟩ => ⟨_, he, Reg.good_val (by rfl) (by rfl) hb⟩
    refine ⟨Reg.opOK_plain (by rfl) fun G listed A wv hI hall => .inl ⟨Reg.wanted_none rfl, ?_⟩, ?_⟩
    focus
      have H := heldZ_below hI.base HW
      have e2 := hI.evo (d := 2) (by kernel_rfl) rfl
      clear hI hall HW
      unfold Reg.Yields
      go_simp
      exact Reg.good_val (by rfl) (by rfl) (Below.refl _ _)
    refine ⟨Reg.opOK_plain (by rfl) fun G listed A wv hI hall => .inl ⟨Reg.wanted_none rfl, ?_⟩, ?_⟩
    focus
      have e9 := hI.ev (i := 1) (d := 9) (by rfl) (by rfl) (hall ⟨1, .data⟩ (by simp) rfl)
      have e10 := hI.ev (i := 2) (d := 10) (by rfl) (by rfl) (hall ⟨2, .data⟩ (by simp) rfl)
      clear hI hall HW
      unfold Reg.Yields
      go_simp
      exact (minus_any _ _ _ _ _ _ _ _ _).mono fun e w'' ⟨he, hb⟩ => ⟨_, he, Reg.good_val (by rfl) (by rfl) hb⟩
    refine ⟨Reg.opOK_plain (by rfl) fun G listed A wv hI hall => .inl ⟨Reg.wanted_none rfl, ?_⟩, ?_⟩
    focus
      have H := heldZ_below hI.base HW
      have e11 := hI.ev (i := 3) (d := 11) (by rfl) (by rfl) (hall ⟨3, .data⟩ (by simp) rfl)
      clear hI hall HW
      unfold Reg.Yields
      go_simp
      exact (first_at (an_fit _ _) (an_fit _ _) (an_fit _ _) (an_fit _ _) (HT.out.below H.2.2 HT.out.lt) HF.out).mono fun e w'' ⟨he, hb⟩ => ⟨_, he, Reg.good_val (by rfl) (by rfl) hb⟩
    refine ⟨Reg.opOK_plain (by rfl) fun G listed A wv hI hall => .inl ⟨Reg.wanted_none rfl, ?_⟩, ?_⟩
    focus
      have e12 := hI.ev (i := 4) (d := 12) (by rfl) (by rfl) (hall ⟨4, .data⟩ (by simp) rfl)
      clear hI hall HW
      unfold Reg.Yields
      go_simp
      exact Reg.good_val (by rfl) (by rfl) (Below.refl _ _)
    refine ⟨Reg.opOK_plain (by rfl) fun G listed A wv hI hall => .inl ⟨Reg.wanted_none rfl, ?_⟩, ?_⟩
    focus
      have e7 := hI.ev (i := 5) (d := 7) (by rfl) (by rfl) (hall ⟨5, .data⟩ (by simp) rfl)
      clear hI hall HW
      unfold Reg.Yields
      go_simp
      exact Reg.good_val (by rfl) (by rfl) (Below.refl _ _)
    refine ⟨Reg.opOK_plain (by rfl) fun G listed A wv hI hall => .inl ⟨Reg.wanted_none rfl, ?_⟩, ?_⟩
    focus
      have e7 := hI.ev (i := 5) (d := 7) (by rfl) (by rfl) (hall ⟨5, .data⟩ (by simp) rfl)
      clear hI hall HW
      unfold Reg.Yields
      go_simp
      exact Reg.good_val (by rfl) (by rfl) (Below.refl _ _)
    refine ⟨Reg.opOK_plain (by rfl) fun G listed A wv hI hall => .inl ⟨Reg.wanted_none rfl, ?_⟩, ?_⟩
    focus
      have e13 := hI.ev (i := 6) (d := 13) (by rfl) (by rfl) (hall ⟨6, .data⟩ (by simp) rfl)
      clear hI hall HW
      unfold Reg.Yields
      go_simp
      exact Reg.good_val (by rfl) (by rfl) (Below.refl _ _)
    refine ⟨Reg.opOK_plain (by rfl) fun G listed A wv hI hall => .inl ⟨Reg.wanted_none rfl, ?_⟩, ?_⟩
    focus
      have e14 := hI.ev (i := 7) (d := 14) (by rfl) (by rfl) (hall ⟨7, .data⟩ (by simp) rfl)
      clear hI hall HW
      unfold Reg.Yields
      go_simp
      exact Reg.good_val (by rfl) (by rfl) (Below.refl _ _)
    trivial
  intro G w2 hI
  have H := heldZ_below hI.base HW
  have HFin := hid (HB.out.trans (H.2.2.mono hs))
  clear hI HW H
  simp [Reg.finalTmps, Reg.dstAt, Reg.valOf, endTold]
  rcases hr with ⟨rfl, rfl⟩ | ⟨rfl, h1, h2, rfl⟩
  · go_wp2
    go_ret
    exact ⟨rfl, HFin.out⟩
  · have hu : IntKind.u8.wrap (g - 1) = g - 1 := by simp [IntKind.wrap, IntKind.signed, IntKind.bits]; omega
    go_wp2
    go_ret
    exact ⟨rfl, HFin.out⟩
end
section
open Go Go.RowKit
theorem end_any {a b c d : Int} {lo hi : Nat} {w : World} (hlo : lo ≤ hi) (hhi : hi < 256) (hall : ∀ n, lo ≤ n → n ≤ hi → memb a b c d n = true) (hmax : hi = 255 ∨ memb a b c d (hi + 1) = false) (hT : Tab w) :
    Calls Tryz.prog 99 #[.agg #[.int .u64 a, .int .u64 b, .int .u64 c, .int .u64 d], .int .u8 lo] w fun e w' => e = .returned (.int .u8 (hi : Int)) ∧ Below w.heap.size w w' := by
  have hm : ∀ n, n < 256 → memb (an (frw lo 0) (nt a)) (an (frw lo 1) (nt b)) (an (frw lo 2) (nt c)) (an (frw lo 3) (nt d)) n = (decide (lo ≤ n) && !memb a b c d n) := fun n hn => by rw [memb_an, memb_nt, memb_frw lo n hn]
  by_cases h : hi = 255
  · refine end_at lo a b c d 0 false hi w (by omega) hT (.inl ⟨fun n hn => ?_, rfl⟩) (.inl ⟨rfl, by omega⟩)
    rw [hm n hn]
    by_cases h1 : lo ≤ n
    · rw [hall n h1 (by omega)]; simp
    · simp [h1]
  · have hf := hmax.resolve_left h
    refine end_at lo a b c d ((hi + 1 : Nat) : Int) true hi w (by omega) hT (.inr ⟨hi + 1, by omega, ?_, fun i hi' => ?_, rfl⟩) (.inr ⟨rfl, by omega, by omega, by omega⟩)
    · rw [hm _ (by omega), hf]; simp; omega
    · rw [hm i (by omega)]
      by_cases h1 : lo ≤ i
      · rw [hall i h1 (by omega)]; simp
      · simp [h1]
theorem top_of (f : Nat → Bool) (lo : Nat) (hl : lo < 256) (h : f lo = true) : ∃ hi, lo ≤ hi ∧ hi < 256 ∧ (∀ n, lo ≤ n → n ≤ hi → f n = true) ∧ (hi = 255 ∨ f (hi + 1) = false) := by
  rcases least_of (fun n => decide (lo ≤ n) && !f n) 256 with h0 | ⟨m, hm, h1, h2⟩
  · refine ⟨255, by omega, by omega, fun n h1 h2 => ?_, .inl rfl⟩
    have := h0 n (by omega)
    simpa [h1] using this
  · simp at h1
    have hne : m ≠ lo := fun e => by subst e; rw [h] at h1; simp at h1
    refine ⟨m - 1, by omega, by omega, fun n h3 h4 => ?_, .inr (by rw [show m - 1 + 1 = m by omega]; exact h1.2)⟩
    have := h2 n (by omega)
    simpa [h3] using this
/-- Is a byte in one of these ranges? -/
def inRs (rs : List (Nat × Nat)) (n : Nat) : Bool := rs.any fun p => decide (p.1 ≤ n ∧ n ≤ p.2)
/-- Ranges that rise, none beside another one, up to H. -/
def Rise : List (Nat × Nat) → Prop
  | [] => True
  | [p] => p.1 ≤ p.2 ∧ p.2 < 256
  | p :: q :: r => p.1 ≤ p.2 ∧ p.2 < 256 ∧ p.2 + 1 < q.1 ∧ Rise (q :: r)
theorem rise_snoc (rs : List (Nat × Nat)) (lo hi : Nat) (h : Rise rs) (h1 : lo ≤ hi) (h2 : hi < 256) (hl : ∀ p, rs.getLast? = some p → p.2 + 1 < lo) : Rise (rs ++ [(lo, hi)]) := by
  induction rs with
  | nil => exact ⟨h1, h2⟩
  | cons p r ih =>
    cases r with
    | nil => exact ⟨h.1, h.2, hl p rfl, h1, h2⟩
    | cons q r => exact ⟨h.1, h.2.1, h.2.2.1, ih h.2.2.2 (fun p' hp' => hl p' (by rw [List.getLast?_cons_cons]; exact hp'))⟩
theorem rise_each : ∀ (rs : List (Nat × Nat)), Rise rs → ∀ i (h : i < rs.length), rs[i].1 ≤ rs[i].2 ∧ rs[i].2 < 256 ∧ ∀ (h' : i + 1 < rs.length), rs[i].2 + 1 < rs[i + 1].1
  | [], _, i, h => absurd h (by simp)
  | [p], hr, 0, _ => ⟨hr.1, hr.2, fun h' => absurd h' (by simp)⟩
  | p :: q :: r, hr, 0, _ => ⟨hr.1, hr.2.1, fun _ => hr.2.2.1⟩
  | p :: q :: r, hr, i + 1, h => by
    have := rise_each (q :: r) hr.2.2.2 i (by simpa using h)
    exact ⟨this.1, this.2.1, fun h' => this.2.2 (by simpa using h')⟩
/-- What is known of the ranges met so far: those of f below H. -/
def RsOK (f : Nat → Bool) (rs : List (Nat × Nat)) (H : Nat) : Prop :=
  Rise rs ∧ rs.length ≤ H ∧ H ≤ 256 ∧ (∀ p, rs.getLast? = some p → p.2 + 1 = H ∧ (H = 256 ∨ f H = false)) ∧ ∀ n, n < 256 → inRs rs n = (f n && decide (n < H))
theorem rsOK_nil (f : Nat → Bool) : RsOK f [] 0 := ⟨trivial, Nat.le_refl _, by omega, (fun p h => by simp at h), (fun n _ => by simp [inRs])⟩
theorem rsOK_snoc {f : Nat → Bool} {rs : List (Nat × Nat)} {H lo hi : Nat} (h : RsOK f rs H) (hH : H ≤ lo) (hl : f lo = true) (hlt : lo < 256) (hle : lo ≤ hi) (hhi : hi < 256) (hno : ∀ n, H ≤ n → n < lo → f n = false) (hall : ∀ n, lo ≤ n → n ≤ hi → f n = true) (hmax : hi = 255 ∨ f (hi + 1) = false) :
    RsOK f (rs ++ [(lo, hi)]) (hi + 1) := by
  obtain ⟨h1, h2, h3, h4, h5⟩ := h
  refine ⟨rise_snoc rs lo hi h1 hle hhi fun p hp => ?_, by simp; omega, by omega, fun p hp => ?_, fun n hn => ?_⟩
  · obtain ⟨e, hc⟩ := h4 p hp
    rcases hc with hc | hc
    · omega
    · have : lo ≠ H := fun e => by subst e; rw [hl] at hc; cases hc
      omega
  · simp at hp
    subst hp
    exact ⟨rfl, hmax.imp (by omega) id⟩
  · unfold inRs at h5 ⊢
    rw [List.any_append, h5 n hn]
    simp only [List.any_cons, List.any_nil, Bool.or_false]
    by_cases c1 : n < H
    · have c2 : n < hi + 1 := by omega
      have c3 : ¬ lo ≤ n := by omega
      simp [c1, c2, c3]
    · by_cases c2 : n < lo
      · rw [hno n (by omega) c2]; simp; omega
      · by_cases c3 : n ≤ hi
        · rw [hall n (by omega) c3]
          have c4 : n < hi + 1 := by omega
          have c5 : lo ≤ n := by omega
          simp [c3, c4, c5]
        · have c4 : ¬ n < hi + 1 := by omega
          simp [c1, c3, c4]
end
section
open Go Go.RowKit
attribute [local go_sem ↓] Go.wp_at_zero Go.wp_at_succ
attribute [local go_sem] eq4
def pairVals (rs : List (Nat × Nat)) : List Value := rs.flatMap fun p => [.int .u8 (p.1 : Int), .int .u8 (p.2 : Int)]
theorem pairVals_snoc (rs : List (Nat × Nat)) (lo hi : Nat) : pairVals (rs ++ [(lo, hi)]) = pairVals rs ++ [.int .u8 (lo : Int), .int .u8 (hi : Int)] := by simp [pairVals]
theorem Tryz.infoPair2 : (Tryz.prog.info? 151).map (fun i => (i.zero, i.size, i.bytes)) = some (some (.agg #[.int .u8 0, .int .u8 0]), 2, 2) := by kernel_rfl
def lenOf : Value → Nat
  | .slice _ n _ => n
  | _ => 0
theorem len_own {w : World} {B n sz : Nat} {e : TypeId} {v : Value} {xs : List Value} (h : w.ownsRow B e sz v n xs) : lenOf v = n := by
  rcases h.2 with ⟨rfl, rfl⟩ | ⟨g, cap, cur, rfl, _⟩ <;> rfl
theorem cell_two_p (w : World) (x y : Value) (t : TypeId) : ∀ j u, [x, y][j]? = some u → (w.alloc (.cells #[x, y] t)).cell? ((⟨w.heap.size, 0, none⟩ : Addr).add j) = some u := by
  intro j u hj
  match j, hj with
  | 0, hj => simp at hj; subst hj; simp [Addr.add]
  | 1, hj => simp at hj; subst hj; simp [Addr.add]
theorem two_u8 (x y : Int) : ∀ u ∈ [Value.int .u8 x, Value.int .u8 y], u.oneCell' = true := by
  intro u hu
  have : u = .int .u8 x ∨ u = .int .u8 y := by simpa using hu
  rcases this with rfl | rfl <;> rfl
/-- What holds of memory in Ranges' loop. -/
def GR (w : World) (rs : List (Nat × Nat)) (c0 c1 c2 c3 : Int) (vl : Value) (wr : World) : Prop :=
  wr.heap[w.heap.size]? = some (.cells #[.int .u64 c0, .int .u64 c1, .int .u64 c2, .int .u64 c3] 45) ∧ wr.ownsRow (w.heap.size + 1) 151 2 vl rs.length (pairVals rs) ∧ Below w.heap.size w wr ∧ w.heap.size + 1 ≤ wr.heap.size
theorem GR.up {w wr w1 : World} {rs : List (Nat × Nat)} {c0 c1 c2 c3 : Int} {vl : Value} (h : GR w rs c0 c1 c2 c3 vl wr) (hb : Below wr.heap.size wr w1) : GR w rs c0 c1 c2 c3 vl w1 :=
  ⟨(hb.block _ (sizeOfGet h.1)).trans h.1, ownsBelow h.2.1 hb, h.2.2.1.trans (hb.mono h.2.2.1.size), Nat.le_trans h.2.2.2 hb.size⟩
theorem GR.add {w w1 w2 : World} {rs : List (Nat × Nat)} {c0 c1 c2 c3 : Int} {vl v' : Value} {o : Obj} {lo hi : Nat} (h : GR w rs c0 c1 c2 c3 vl w1) (ho : w2.ownsRow (w.heap.size + 1) 151 2 v' (rs.length + 1) (pairVals rs ++ [.int .u8 (lo : Int), .int .u8 (hi : Int)])) (hg : (w1.alloc o).grownBy w2 vl.ownBlock) :
    GR w (rs ++ [(lo, hi)]) c0 c1 c2 c3 v' w2 := by
  have hb := belowApp h.2.1 hg h.2.2.2
  refine ⟨(hb.block _ (by omega)).trans h.1, ?_, h.2.2.1.trans (hb.mono (by omega)), Nat.le_trans h.2.2.2 hb.size⟩
  rw [pairVals_snoc, List.length_append]
  exact ho
theorem GR.held {w wr : World} {rs : List (Nat × Nat)} {c0 c1 c2 c3 : Int} {vl : Value} (h : GR w rs c0 c1 c2 c3 vl wr) : HeldZ wr w.heap.size c0 c1 c2 c3 wr :=
  ⟨⟨Joins.cell_of_block h.1 0, Joins.cell_of_block h.1 1, Joins.cell_of_block h.1 2, Joins.cell_of_block h.1 3⟩, sizeOfGet h.1, Below.refl _ _⟩
theorem GR.store {w wr : World} {rs : List (Nat × Nat)} {c0 c1 c2 c3 d0 d1 d2 d3 : Int} {vl : Value} (h : GR w rs c0 c1 c2 c3 vl wr) :
    GR w rs d0 d1 d2 d3 vl ((((wr.setCell ⟨w.heap.size, 0, none⟩ (.int .u64 d0)).setCell ⟨w.heap.size, 1, none⟩ (.int .u64 d1)).setCell ⟨w.heap.size, 2, none⟩ (.int .u64 d2)).setCell ⟨w.heap.size, 3, none⟩ (.int .u64 d3)) := by
  have hs : ∀ {X : World} {n : Nat} {xs : List Value} {v : Value} (o : Nat) (u : Value), X.ownsRow (w.heap.size + 1) 151 2 v n xs → (X.setCell ⟨w.heap.size, o, none⟩ u).ownsRow (w.heap.size + 1) 151 2 v n xs := by
    intro X n xs v o u h
    refine ⟨h.1, ?_⟩
    rcases h.2 with h2 | ⟨b, cap, cur, rfl, hb', hh, r⟩
    · exact .inl h2
    · exact .inr ⟨b, cap, cur, rfl, hb', (Below.heap_setCell _ _ _ _ (by show b ≠ w.heap.size; omega)).trans hh, r⟩
  exact ⟨Joins.block_setCell (Joins.block_setCell (Joins.block_setCell (Joins.block_setCell h.1 _) _) _) _, hs _ _ (hs _ _ (hs _ _ (hs _ _ h.2.1))), below_set4 h.2.2.1 (Nat.le_refl _) _ _ _ _, by rw [size_setZ, size_setZ, size_setZ, size_setZ]; exact h.2.2.2⟩
/-- What is known of the current set: f's bytes from H on. -/
def Cur (f : Nat → Bool) (H : Nat) (c0 c1 c2 c3 : Int) : Prop := Fit c0 ∧ Fit c1 ∧ Fit c2 ∧ Fit c3 ∧ ∀ n, n < 256 → memb c0 c1 c2 c3 n = (f n && decide (H ≤ n))
theorem Cur.next {f : Nat → Bool} {H lo hi : Nat} {c0 c1 c2 c3 : Int} (h : Cur f H c0 c1 c2 c3) (hhi : hi < 256) (hno : ∀ n, H ≤ n → n < lo → f n = false) (hH : H ≤ lo) (hle : lo ≤ hi) : Cur f (hi + 1) (an c0 (nt (rgw lo hi 0))) (an c1 (nt (rgw lo hi 1))) (an c2 (nt (rgw lo hi 2))) (an c3 (nt (rgw lo hi 3))) := by
  refine ⟨an_fit _ _, an_fit _ _, an_fit _ _, an_fit _ _, fun n hn => ?_⟩
  rw [memb_an, memb_nt, memb_rgw lo hi n hhi hn, h.2.2.2.2 n hn]
  by_cases c1 : H ≤ n
  · by_cases c2 : n < lo
    · rw [hno n c1 c2]; simp
    · by_cases c3 : n ≤ hi
      · have c4 : lo ≤ n := by omega
        have c5 : ¬ hi + 1 ≤ n := by omega
        simp [c3, c4, c5]
      · have c5 : hi + 1 ≤ n := by omega
        simp [c1, c3, c5]
  · have c5 : ¬ hi + 1 ≤ n := by omega
    simp [c1, c5]
def rngTold (lo hi : Nat) (c0 c1 c2 c3 : Int) : Nat → Reg.Told
  | 0 => .inl (.agg #[.int .u64 c0, .int .u64 c1, .int .u64 c2, .int .u64 c3])
  | 1 => .inl (.int .u8 ((lo : Int)))
  | 2 => .inl (.int .u8 ((hi : Int)))
  | 3 => .inl (.agg #[.int .u64 (rgw lo hi 0), .int .u64 (rgw lo hi 1), .int .u64 (rgw lo hi 2), .int .u64 (rgw lo hi 3)])
  | 4 => .inl (.agg #[.int .u64 (an c0 (nt (rgw lo hi 0))), .int .u64 (an c1 (nt (rgw lo hi 1))), .int .u64 (an c2 (nt (rgw lo hi 2))), .int .u64 (an c3 (nt (rgw lo hi 3)))])
  | _ => .inl undef
/-- The relation at the head of the loop. -/
def RR (w : World) (f : Nat → Bool) (vl vlo vok : Value) (wr : World) : Prop :=
  ∃ rs H c0 c1 c2 c3, FirstIs (memb c0 c1 c2 c3) (.tuple #[vlo, vok]) ∧ RsOK f rs H ∧ Cur f H c0 c1 c2 c3 ∧ GR w rs c0 c1 c2 c3 vl wr
set_option maxRecDepth 100000 in
set_option maxHeartbeats 8000000 in
theorem ranges_any (a b c d : Int) (w : World) (fa : Fit a) (fb : Fit b) (fc : Fit c) (fd : Fit d) (hT : Tab w) :
    Calls Tryz.prog 80 #[.agg #[.int .u64 a, .int .u64 b, .int .u64 c, .int .u64 d]] w fun e w' => ∃ rs v, e = .returned v ∧ Rise rs ∧ rs.length ≤ 256 ∧ (∀ n, n < 256 → inRs rs n = memb a b c d n) ∧ w'.ownsRow (w.heap.size + 1) 151 2 v rs.length (pairVals rs) ∧ Below w.heap.size w w' := by
  obtain ⟨i0, hif, hz0, hz1, hz2⟩ := info_parts Tryz.infoPair2
  have HT := hid hT
  clear hT
  go_enter Tryz.func80, Tryz.ntmps80
  go_wp2_with fail
  have hG : GR w [] a b c d (.slice none 0 0) (w.alloc (.cells #[.int .u64 a, .int .u64 b, .int .u64 c, .int .u64 d] 45)) := ⟨heap_new _ _, World.ownsRow_nil _ _ _ _, below1 _ _, by simp⟩
  have hC : Cur (memb a b c d) 0 a b c d := ⟨fa, fb, fc, fd, fun n _ => by simp⟩
  generalize w.alloc (.cells #[.int .u64 a, .int .u64 b, .int .u64 c, .int .u64 d] 45) = W at *
  have HG := hid hG
  have HC := hid hC
  clear hG hC
  refine (first_any a b c d _ fa fb fc fd (HT.out.up HG.out.2.2.1)).mono ?_
  rintro e w1 ⟨v, rfl, hv, hb1⟩
  have HV := hid hv
  have HG1 := hid (HG.out.up hb1)
  clear hb1 HG
  have hvv : v = .tuple #[.int .u8 0, .bool false] ∨ ∃ n : Nat, n < 256 ∧ v = .tuple #[.int .u8 n, .bool true] := by
    rcases hv with ⟨_, hv⟩ | ⟨n, hn, _, _, hv⟩
    · exact .inl hv
    · exact .inr ⟨n, hn, hv⟩
  clear hv
  rcases hvv with hv | ⟨nf, hnf, hv⟩
  all_goals
    subst hv
    go_wp2_with fail
    go_loopw [3, 4, 5] (fun vl vlo vok wr => RR w (memb a b c d) vl vlo vok wr) (fun vl _ _ _ => 257 - lenOf vl)
    case atStart => exact ⟨[], 0, a, b, c, d, HV.out, rsOK_nil _, HC.out, HG1.out⟩
    case round =>
      clear HV HC HG1
      obtain ⟨rs, H, c0, c1, c2, c3, hF, hR, hC, hG⟩ := hrel
      have HR := hid hR
      have HC := hid hC
      have HG := hid hG
      have hl := len_own hG.2.1
      have HL := hid hl
      have hlen := hR.2.1
      have hH := hR.2.2.1
      clear hR hC hG hl
      rcases hF with ⟨hno, hv⟩ | ⟨lo, hlo, hf, hlow, hv⟩
      · have h2 : u4 = .int .u8 0 ∧ u5 = .bool false := by simpa using hv
        obtain ⟨rfl, rfl⟩ := h2
        clear hv
        have HF : Hid (∀ n, n < 256 → inRs rs n = memb a b c d n) := fun n hn => by
          have h1 := HC.out.2.2.2.2 n hn
          rw [hno n hn] at h1
          rw [HR.out.2.2.2.2 n hn]
          by_cases c1 : n < H
          · simp [c1]
          · have c2 : H ≤ n := by omega
            simp [c2] at h1
            simp [h1]
        clear hno
        go_wp2_with fail
        go_ret
        exact ⟨rs, u3, rfl, HR.out.1, by omega, HF.out, HG.out.2.1, HG.out.2.2.1⟩
      · have h2 : u4 = .int .u8 lo ∧ u5 = .bool true := by simpa using hv
        obtain ⟨rfl, rfl⟩ := h2
        clear hv
        have h3 := HC.out.2.2.2.2 lo hlo
        rw [hf] at h3
        have h4 : memb a b c d lo = true ∧ H ≤ lo := by simpa using h3.symm
        obtain ⟨hfl, hHl⟩ := h4
        have hno : ∀ n, H ≤ n → n < lo → memb a b c d n = false := fun n h5 h6 => by
          have h7 := HC.out.2.2.2.2 n (by omega)
          rw [hlow n h6] at h7
          simpa [h5] using h7.symm
        obtain ⟨hi, hle, hhi, hall, hmax⟩ := top_of (memb a b c d) lo hlo hfl
        have HRn := hid (rsOK_snoc HR.out hHl hfl hlo hle hhi hno hall hmax)
        have HCn := hid (HC.out.next hhi hno hHl hle)
        have HALL : Hid (∀ n, lo ≤ n → n ≤ hi → memb c0 c1 c2 c3 n = true) := fun n h5 h6 => by
          rw [HC.out.2.2.2.2 n (by omega), hall n h5 h6]; simp; omega
        have HMAX : Hid (hi = 255 ∨ memb c0 c1 c2 c3 (hi + 1) = false) := by
          rcases hmax with h | h
          · exact .inl h
          · by_cases h9 : hi = 255
            · exact .inl h9
            · exact .inr (by rw [HC.out.2.2.2.2 _ (by omega), h]; simp)
        have hh := HG.out.held
        obtain ⟨⟨q0, q1, q2, q3⟩, hgl, _⟩ := hh
        have HTr := hid (HT.out.up HG.out.2.2.1)
        clear h3 hno hall hmax hf hlow hfl
        go_wp2_with fail
        refine (end_any hle hhi HALL.out HMAX.out HTr.out).mono ?_
        rintro e w2 ⟨rfl, hb2⟩
        have HG2 := hid (HG.out.up hb2)
        have hs2 := hb2.size
        have hs3 := HG.out.2.2.2
        have hs4 : w.heap.size + 1 ≤ w2.heap.size := by omega
        clear hb2 q0 q1 q2 q3 hgl
        go_wp2_with (at_builtin; go_must (refine wpList_append_own_at _ rfl (.tmp 21) (.tmp 25) 149 rfl (w.heap.size + 1) 151 i0 (.agg #[.int .u8 0, .int .u8 0]) 2 2 Tryz.underlying149 hif hz0 hz1 hz2 rfl (by decide) _ _ _ rfl (ownsAlloc HG2.out.2.1 _) ⟨_, 0, none⟩ 1 1 _ rfl rfl (cell_two_p _ _ _ _) (two_u8 _ _) (by unfold maxLen; omega) (by omega) (by simp; omega) ?_); intro v1 w1a ho hgr _ hat; have HG3 := hid (HG2.out.add ho hgr); have HLn := hid (len_own ho); clear ho hgr hat)
        have HW := heldZ_below (Below.refl _ w1a).drew HG3.out.held
        have hs5 := HG3.out.2.2.2
        refine Reg.wp_region_toldY 5 _ (rngTold lo hi c0 c1 c2 c3) [0, 1, 2, 3, 4, 5] (by kernel_rfl) (by rfl) (by rfl) (by kernel_rfl) (by kernel_rfl) (by kernel_rfl) ?_ ?_
        focus
          refine ⟨Reg.opOK_plain (by rfl) fun G listed A wv hI hall => .inl ⟨Reg.wanted_none rfl, ?_⟩, ?_⟩
          focus
            have H := heldZ_below hI.base HW
            have e1 := hI.evo (d := 1) (by kernel_rfl) rfl
            clear hI hall HW
            unfold Reg.Yields
            go_simp
            exact Reg.good_val (by rfl) (by rfl) (Below.refl _ _)
          refine ⟨Reg.opOK_plain (by rfl) fun G listed A wv hI hall => .inl ⟨Reg.wanted_none rfl, ?_⟩, ?_⟩
          focus
            have e4 := hI.evo (d := 4) (by kernel_rfl) rfl
            clear hI hall HW
            unfold Reg.Yields
            go_simp
            exact Reg.good_val (by rfl) (by rfl) (Below.refl _ _)
          refine ⟨Reg.opOK_plain (by rfl) fun G listed A wv hI hall => .inl ⟨Reg.wanted_none rfl, ?_⟩, ?_⟩
          focus
            have e6 := hI.evo (d := 6) (by kernel_rfl) rfl
            clear hI hall HW
            unfold Reg.Yields
            go_simp
            exact Reg.good_val (by rfl) (by rfl) (Below.refl _ _)
          refine ⟨Reg.opOK_plain (by rfl) fun G listed A wv hI hall => .inl ⟨Reg.wanted_none rfl, ?_⟩, ?_⟩
          focus
            have e28 := hI.ev (i := 1) (d := 28) (by rfl) (by rfl) (hall ⟨1, .data⟩ (by simp) rfl)
            have e29 := hI.ev (i := 2) (d := 29) (by rfl) (by rfl) (hall ⟨2, .data⟩ (by simp) rfl)
            clear hI hall HW
            unfold Reg.Yields
            go_simp
            exact (range_any lo hi hlo hhi _).mono fun e w'' ⟨he, hb⟩ => ⟨_, he, Reg.good_val (by rfl) (by rfl) hb⟩
          refine ⟨Reg.opOK_plain (by rfl) fun G listed A wv hI hall => .inl ⟨Reg.wanted_none rfl, ?_⟩, ?_⟩
          focus
            have e27 := hI.ev (i := 0) (d := 27) (by rfl) (by rfl) (hall ⟨0, .data⟩ (by simp) rfl)
            have e30 := hI.ev (i := 3) (d := 30) (by rfl) (by rfl) (hall ⟨3, .data⟩ (by simp) rfl)
            clear hI hall HW
            unfold Reg.Yields
            go_simp
            exact (minus_any _ _ _ _ _ _ _ _ _).mono fun e w'' ⟨he, hb⟩ => ⟨_, he, Reg.good_val (by rfl) (by rfl) hb⟩
          trivial
        intro G w4 hI
        have Hh := heldZ_below hI.base HW
        have hu : w4.heap[w.heap.size]? = some (.cells #[.int .u64 c0, .int .u64 c1, .int .u64 c2, .int .u64 c3] 45) := (hI.base.block _ (sizeOfGet HG3.out.1)).trans HG3.out.1
        have HG4 := hid (HG3.out.up (Below.trans (Below.refl _ w1a).drew hI.base))
        have z0 := Joins.unfrozen_of_block hu 0
        have z1 := Joins.unfrozen_of_block hu 1
        have z2 := Joins.unfrozen_of_block hu 2
        have z3 := Joins.unfrozen_of_block hu 3
        obtain ⟨⟨q0, q1, q2, q3⟩, hgl, _⟩ := Hh
        clear hI HW hu
        refine ⟨by unfold Region.wanted; rfl, ?_⟩
        simp [Reg.finalTmps, Reg.dstAt, Reg.valOf, rngTold]
        unfold Reg.Yields
        go_simp
        have HG5 := hid (HG4.out.store (d0 := an c0 (nt (rgw lo hi 0))) (d1 := an c1 (nt (rgw lo hi 1))) (d2 := an c2 (nt (rgw lo hi 2))) (d3 := an c3 (nt (rgw lo hi 3))))
        obtain ⟨W5, hW5⟩ : ∃ W5, W5 = ((((w4.setCell ⟨w.heap.size, 0, none⟩ (.int .u64 (an c0 (nt (rgw lo hi 0))))).setCell ⟨w.heap.size, 1, none⟩ (.int .u64 (an c1 (nt (rgw lo hi 1))))).setCell ⟨w.heap.size, 2, none⟩ (.int .u64 (an c2 (nt (rgw lo hi 2))))).setCell ⟨w.heap.size, 3, none⟩ (.int .u64 (an c3 (nt (rgw lo hi 3))))) := ⟨_, rfl⟩
        rw [← hW5] at HG5 ⊢
        clear hW5 z0 z1 z2 z3 q0 q1 q2 q3 hgl HG4 HG3 HG2 HG
        obtain ⟨⟨q0, q1, q2, q3⟩, hgl, _⟩ := HG5.out.held
        go_wp2_with fail
        refine (first_any _ _ _ _ _ HCn.out.1 HCn.out.2.1 HCn.out.2.2.1 HCn.out.2.2.2.1 (HT.out.up HG5.out.2.2.1)).mono ?_
        rintro e w6 ⟨v, rfl, hv, hb6⟩
        have HV6 := hid hv
        have HG6 := hid (HG5.out.up hb6)
        clear hb6 HG5 q0 q1 q2 q3 hgl
        have hvv : v = .tuple #[.int .u8 0, .bool false] ∨ ∃ n : Nat, n < 256 ∧ v = .tuple #[.int .u8 n, .bool true] := by
          rcases hv with ⟨_, hv⟩ | ⟨n, hn, _, _, hv⟩
          · exact .inl hv
          · exact .inr ⟨n, hn, hv⟩
        clear hv
        rcases hvv with hv | ⟨nf2, hnf2, hv⟩
        all_goals
          subst hv
          go_wp2_with fail
          exact ⟨⟨_, _, _, _, _, _, HV6.out, HRn.out, HCn.out, HG6.out⟩, by rw [HLn.out, HL.out]; omega⟩
end
end
section
section
open Go Go.RowKit
def hexN (n : Nat) : Nat := if n < 10 then 48 + n else 87 + n
def alnB (b : Nat) : Bool := decide (97 ≤ b) && decide (b ≤ 122) || decide (65 ≤ b) && decide (b ≤ 90) || decide (48 ≤ b) && decide (b ≤ 57)
def plainB (b : Nat) : Bool := [32, 33, 34, 35, 37, 38, 39, 44, 58, 59, 60, 61, 62, 64, 95, 126, 96].contains b
/-- A byte, told. -/
def brN (b : Nat) : List Nat := if alnB b || plainB b then [b] else if themB b then [92, b] else [92, 120, hexN (b / 16), hexN (b % 16)]
/-- Ranges, told. -/
def rsT : List (Nat × Nat) → List Nat
  | [] => []
  | p :: r => brN p.1 ++ ((if p.1 = p.2 then [] else 45 :: brN p.2) ++ rsT r)
def clsN (rs : List (Nat × Nat)) : List Nat := 91 :: (rsT rs ++ [93])
/-- The ranges of bytes, from 256 - k on. -/
def rsD (f : Nat → Bool) : Nat → List (Nat × Nat)
  | 0 => []
  | k + 1 => if f (255 - k) then (match rsD f k with
      | [] => [(255 - k, 255 - k)]
      | p :: r => if p.1 = 256 - k then (255 - k, p.2) :: r else (255 - k, 255 - k) :: p :: r) else rsD f k
def rsOf (f : Nat → Bool) : List (Nat × Nat) := rsD f 256
/-- A set, told. -/
def setN (t : W4) : List Nat := if eqW t (notW (oneW 10)) then [46] else match ones t with
  | [] => [91, 94, 92, 120, 48, 48, 45, 92, 120, 102, 102, 93]
  | [b] => brN b
  | _ => clsN (rsOf t.mem)
theorem rise_head {p : Nat × Nat} {r : List (Nat × Nat)} (h : Rise (p :: r)) : p.1 ≤ p.2 ∧ p.2 < 256 ∧ Rise r := by
  cases r with
  | nil => exact ⟨h.1, h.2, trivial⟩
  | cons q r => exact ⟨h.1, h.2.1, h.2.2.2⟩
theorem rise_cons {p : Nat × Nat} {r : List (Nat × Nat)} (h1 : p.1 ≤ p.2) (h2 : p.2 < 256) (hr : Rise r) (hh : ∀ q, r.head? = some q → p.2 + 1 < q.1) : Rise (p :: r) := by
  cases r with
  | nil => exact ⟨h1, h2⟩
  | cons q r => exact ⟨h1, h2, hh q rfl, hr⟩
/-- What stands behind the first range lies above it. -/
theorem rise_above : ∀ (r : List (Nat × Nat)) (p : Nat × Nat) (n : Nat), Rise (p :: r) → inRs r n = true → p.2 + 1 < n
  | [], _, _, _, hn => by simp [inRs] at hn
  | q :: r, p, n, h, hn => by
    have h3 : p.2 + 1 < q.1 := h.2.2.1
    have hq : Rise (q :: r) := h.2.2.2
    have hq1 := (rise_head hq).1
    unfold inRs at hn
    rw [List.any_cons, Bool.or_eq_true] at hn
    rcases hn with hn | hn
    · have := of_decide_eq_true hn; omega
    · have := rise_above r q n hq hn; omega
theorem inRs_cons (p : Nat × Nat) (r : List (Nat × Nat)) (n : Nat) : inRs (p :: r) n = (decide (p.1 ≤ n ∧ n ≤ p.2) || inRs r n) := rfl
theorem rise_uniq : ∀ (rs ss : List (Nat × Nat)), Rise rs → Rise ss → (∀ n, n < 256 → inRs rs n = inRs ss n) → rs = ss
  | [], [], _, _, _ => rfl
  | [], q :: s, _, hs, h => by
    have h1 := rise_head hs
    have := h q.1 (by omega)
    rw [inRs_cons, decide_eq_true ⟨Nat.le_refl _, h1.1⟩] at this
    simp [inRs] at this
  | p :: r, [], hr, _, h => by
    have h1 := rise_head hr
    have := h p.1 (by omega)
    rw [inRs_cons, decide_eq_true ⟨Nat.le_refl _, h1.1⟩] at this
    simp [inRs] at this
  | p :: r, q :: s, hr, hs, h => by
    have hp := rise_head hr
    have hq := rise_head hs
    have least : ∀ (p q : Nat × Nat) (s : List (Nat × Nat)), Rise (q :: s) → inRs (q :: s) p.1 = true → q.1 ≤ p.1 := by
      intro p q s hs h
      rw [inRs_cons, Bool.or_eq_true] at h
      rcases h with h | h
      · exact (of_decide_eq_true h).1
      · have := rise_above s q p.1 hs h; have := (rise_head hs).1; omega
    have e1 : p.1 = q.1 := by
      apply Nat.le_antisymm
      · refine least q p r hr ?_
        rw [h q.1 (by omega), inRs_cons, decide_eq_true ⟨Nat.le_refl _, hq.1⟩, Bool.true_or]
      · refine least p q s hs ?_
        rw [← h p.1 (by omega), inRs_cons, decide_eq_true ⟨Nat.le_refl _, hp.1⟩, Bool.true_or]
    have top : ∀ (p q : Nat × Nat) (r s : List (Nat × Nat)), Rise (p :: r) → Rise (q :: s) → p.1 = q.1 → (∀ n, n < 256 → inRs (p :: r) n = inRs (q :: s) n) → q.2 ≤ p.2 := by
      intro p q r s hr hs e h
      have hp := rise_head hr
      have hq := rise_head hs
      apply Nat.le_of_not_lt
      intro hlt
      have := h (p.2 + 1) (by omega)
      rw [inRs_cons, inRs_cons, decide_eq_true (show q.1 ≤ p.2 + 1 ∧ p.2 + 1 ≤ q.2 by omega), Bool.true_or, decide_eq_false (show ¬ (p.1 ≤ p.2 + 1 ∧ p.2 + 1 ≤ p.2) by omega), Bool.false_or] at this
      have := rise_above r p _ hr this
      omega
    have e2 : p.2 = q.2 := Nat.le_antisymm (top q p s r hs hr e1.symm (fun n hn => (h n hn).symm)) (top p q r s hr hs e1 h)
    have e : p = q := Prod.ext e1 e2
    subst e
    rw [rise_uniq r s hp.2.2 hq.2.2 (fun n hn => ?_)]
    have hn' := h n hn
    rw [inRs_cons, inRs_cons] at hn'
    by_cases hm : n ≤ p.2
    · have f : ∀ (r : List (Nat × Nat)), Rise (p :: r) → inRs r n = false := by
        intro r hr
        cases hx : inRs r n with
        | false => rfl
        | true => have := rise_above r p n hr hx; omega
      rw [f r hr, f s hs]
    · rw [decide_eq_false (show ¬ (p.1 ≤ n ∧ n ≤ p.2) by omega), Bool.false_or, Bool.false_or] at hn'
      exact hn'
theorem rsD_ok (f : Nat → Bool) : ∀ k, k ≤ 256 → Rise (rsD f k) ∧ (∀ p, (rsD f k).head? = some p → 256 - k ≤ p.1) ∧ ∀ n, n < 256 → inRs (rsD f k) n = (f n && decide (256 - k ≤ n))
  | 0, _ => ⟨trivial, fun p h => by simp [rsD] at h, fun n hn => by rw [decide_eq_false (by omega), Bool.and_false]; rfl⟩
  | k + 1, hk => by
    obtain ⟨h1, h2, h3⟩ := rsD_ok f k (by omega)
    rw [rsD]
    split
    · next hf =>
      split
      · next he =>
        rw [he] at h3
        refine ⟨⟨Nat.le_refl _, by omega⟩, fun p hp => ?_, fun n hn => ?_⟩
        · have e := Option.some.inj hp
          subst e
          show 256 - (k + 1) ≤ 255 - k
          omega
        · have e3 := h3 n hn
          rw [inRs_cons, e3]
          by_cases hb : n = 255 - k
          · subst hb; rw [hf]; simp
          · rw [decide_eq_false (show ¬ (255 - k ≤ n ∧ n ≤ 255 - k) by omega), Bool.false_or]
            congr 1
            rw [decide_eq_decide]; omega
      · next p r he =>
        rw [he] at h1 h2 h3
        have hp := rise_head h1
        have hp2 := h2 p rfl
        split
        · next hb =>
          refine ⟨?_, fun q hq => ?_, fun n hn => ?_⟩
          · exact rise_cons (by show 255 - k ≤ p.2; omega) hp.2.1 hp.2.2 (fun q hq => by
              cases r with
              | nil => cases hq
              | cons q' r => have e := Option.some.inj hq; subst e; exact h1.2.2.1)
          · have e := Option.some.inj hq
            subst e
            show 256 - (k + 1) ≤ 255 - k
            omega
          · have e3 := h3 n hn
            rw [inRs_cons] at e3 ⊢
            by_cases hb' : n = 255 - k
            · subst hb'
              rw [hf, decide_eq_true (show (255 - k) ≤ 255 - k ∧ 255 - k ≤ p.2 by omega), decide_eq_true (by omega)]
              rfl
            · have e4 : decide ((255 - k) ≤ n ∧ n ≤ p.2) = decide (p.1 ≤ n ∧ n ≤ p.2) := by
                rw [decide_eq_decide]; omega
              rw [e4, e3]
              congr 1
              rw [decide_eq_decide]; omega
        · next hb =>
          refine ⟨?_, fun q hq => ?_, fun n hn => ?_⟩
          · refine rise_cons (Nat.le_refl _) (by show 255 - k < 256; omega) h1 (fun q hq => ?_)
            have e := Option.some.inj hq
            subst e
            show 255 - k + 1 < p.1
            omega
          · have e := Option.some.inj hq
            subst e
            show 256 - (k + 1) ≤ 255 - k
            omega
          · have e3 := h3 n hn
            rw [inRs_cons, e3]
            by_cases hb' : n = 255 - k
            · subst hb'; rw [hf]; simp
            · rw [decide_eq_false (show ¬ (255 - k ≤ n ∧ n ≤ 255 - k) by omega), Bool.false_or]
              congr 1
              rw [decide_eq_decide]; omega
    · next hf =>
      refine ⟨h1, fun p hp => by have := h2 p hp; omega, fun n hn => ?_⟩
      rw [h3 n hn]
      by_cases hb' : n = 255 - k
      · subst hb'; simp [hf]
      · congr 1
        rw [decide_eq_decide]; omega
theorem rsOf_ok (f : Nat → Bool) : Rise (rsOf f) ∧ ∀ n, n < 256 → inRs (rsOf f) n = f n := by
  obtain ⟨h1, _, h3⟩ := rsD_ok f 256 (Nat.le_refl _)
  exact ⟨h1, fun n hn => by rw [show rsOf f = rsD f 256 from rfl, h3 n hn]; simp⟩
theorem rsOf_uniq {f : Nat → Bool} {rs : List (Nat × Nat)} (h : Rise rs) (hf : ∀ n, n < 256 → inRs rs n = f n) : rs = rsOf f :=
  rise_uniq _ _ h (rsOf_ok f).1 (fun n hn => by rw [hf n hn, (rsOf_ok f).2 n hn])
/-! Back by the scanner. -/
/-- A text stands in another one from a place on. -/
def AtL (s : ByteArray) (k : Nat) (l : List Nat) : Prop := ∀ i (h : i < l.length), bAt s (k + i) = l[i]
theorem AtL.nil (s : ByteArray) (k : Nat) : AtL s k [] := fun i h => absurd h (by simp)
theorem AtL.cons {s : ByteArray} {k a : Nat} {l : List Nat} : AtL s k (a :: l) ↔ bAt s k = a ∧ AtL s (k + 1) l := by
  constructor
  · intro h
    refine ⟨h 0 (by simp), fun i hi => ?_⟩
    have := h (i + 1) (by simp; omega)
    rw [show k + 1 + i = k + (i + 1) by omega, this]
    rfl
  · rintro ⟨h1, h2⟩ i hi
    match i, hi with
    | 0, _ => exact h1
    | i + 1, hi =>
      have := h2 i (by simpa using hi)
      rw [show k + (i + 1) = k + 1 + i by omega, this]
      rfl
theorem AtL.append {s : ByteArray} {m : List Nat} : ∀ {l : List Nat} {k : Nat}, AtL s k (l ++ m) ↔ AtL s k l ∧ AtL s (k + l.length) m
  | [], k => ⟨fun h => ⟨AtL.nil s k, h⟩, fun h => h.2⟩
  | a :: l, k => by
    rw [List.cons_append, AtL.cons, AtL.append, AtL.cons, List.length_cons, show k + 1 + l.length = k + (l.length + 1) by omega, and_assoc]
theorem self_not : ∀ b, b < 256 → (alnB b || plainB b) = true → b ≠ 92 ∧ b ≠ 91 ∧ b ≠ 93 ∧ b ≠ 94 ∧ b ≠ 45 ∧ b ≠ 124 ∧ b ≠ 40 ∧ b ≠ 41 ∧ b ≠ 42 ∧ b ≠ 43 ∧ b ≠ 63 ∧ b ≠ 123 ∧ b ≠ 46 ∧ b ≠ 36 ∧ b ≠ 125 := by
  have hall : ∀ n : Fin 256, (alnB n.val || plainB n.val) = true → n.val ≠ 92 ∧ n.val ≠ 91 ∧ n.val ≠ 93 ∧ n.val ≠ 94 ∧ n.val ≠ 45 ∧ n.val ≠ 124 ∧ n.val ≠ 40 ∧ n.val ≠ 41 ∧ n.val ≠ 42 ∧ n.val ≠ 43 ∧ n.val ≠ 63 ∧ n.val ≠ 123 ∧ n.val ≠ 46 ∧ n.val ≠ 36 ∧ n.val ≠ 125 := by decide +kernel
  exact fun b hb => hall ⟨b, hb⟩
theorem them_not : ∀ b, b < 256 → themB b = true → refB b = false ∧ b ≠ 120 := by
  have hall : ∀ n : Fin 256, themB n.val = true → refB n.val = false ∧ n.val ≠ 120 := by decide +kernel
  exact fun b hb => hall ⟨b, hb⟩
theorem hex_back : ∀ n, n < 16 → hexR (hexN n) = (n, true) := by
  have hall : ∀ n : Fin 16, hexR (hexN n.val) = (n.val, true) := by decide +kernel
  exact fun n hn => hall ⟨n, hn⟩
/-- What is told of a byte begins with a backslash, or is the byte itself. -/
theorem br_cases (b : Nat) (_hb : b < 256) : (brN b = [b] ∧ (alnB b || plainB b) = true) ∨ (brN b = [92, b] ∧ themB b = true) ∨ brN b = [92, 120, hexN (b / 16), hexN (b % 16)] := by
  unfold brN
  split
  · next h => exact .inl ⟨rfl, h⟩
  · split
    · next h => exact .inr (.inl ⟨rfl, h⟩)
    · exact .inr (.inr rfl)
theorem br_len (b : Nat) : 0 < (brN b).length := by
  unfold brN
  split
  · simp
  · split <;> simp
/-- The first byte of what is told of a byte. -/
theorem br_first (b : Nat) (hb : b < 256) : ∃ c l, brN b = c :: l ∧ c ≠ 91 ∧ c ≠ 93 ∧ c ≠ 94 ∧ c ≠ 45 ∧ c ≠ 124 ∧ c ≠ 40 ∧ c ≠ 41 ∧ c ≠ 42 ∧ c ≠ 43 ∧ c ≠ 63 ∧ c ≠ 123 ∧ c ≠ 46 ∧ c ≠ 36 ∧ c ≠ 125 ∧ c < 256 := by
  rcases br_cases b hb with ⟨h, h1⟩ | ⟨h, h1⟩ | h
  · have := self_not b hb h1
    exact ⟨b, [], h, by omega⟩
  · exact ⟨92, [b], h, by omega⟩
  · exact ⟨92, _, h, by omega⟩
theorem esc_br {s : ByteArray} {k b : Nat} (hb : b < 256) (h : AtL s k (brN b)) (h92 : bAt s k = 92) : escR s k = (oneW b, 0, k + (brN b).length) := by
  rcases br_cases b hb with ⟨e, h1⟩ | ⟨e, h1⟩ | e
  · rw [e, AtL.cons] at h
    have := self_not b hb h1
    omega
  · rw [e, AtL.cons, AtL.cons] at h
    have hin := in_of_bAt h.2.1 hb
    have ht := them_not b hb h1
    unfold escR
    rw [if_neg (by omega), h.2.1, ht.1, if_neg (by simp), if_neg ht.2]
    have hm : meanR b = (oneW b, true) := by unfold meanR; rw [if_pos h1]
    rw [hm, if_pos rfl, e]
    rfl
  · rw [e, AtL.cons, AtL.cons, AtL.cons, AtL.cons] at h
    obtain ⟨_, h1, h2, h3, _⟩ := h
    have hin := in_of_bAt h1 (by omega)
    have r2 : hexR (bAt s (k + 1 + 1)) = (b / 16, true) := by rw [h2]; exact hex_back _ (by omega)
    have r3 : hexR (bAt s (k + 1 + 1 + 1)) = (b % 16, true) := by rw [h3]; exact hex_back _ (by omega)
    unfold escR
    rw [if_neg (by omega), h1, if_neg (by decide), if_pos rfl]
    unfold pairR
    rw [r2, if_neg (by simp), r3, if_neg (by simp)]
    have hv : hexV s (k + 1 + 1) 2 = b := by
      have hv0 : hexV s (k + 1 + 1) 2 = 16 * (16 * 0 + (hexR (bAt s (k + 1 + 1 + 0))).1) + (hexR (bAt s (k + 1 + 1 + 1))).1 := rfl
      rw [hv0, Nat.add_zero, r2, r3]
      show 16 * (16 * 0 + b / 16) + b % 16 = b
      omega
    rw [hv, e]
    rfl
theorem part_br {s : ByteArray} {k b : Nat} (hb : b < 256) (h : AtL s k (brN b)) : partR s k = (oneW b, 0, k + (brN b).length) := by
  obtain ⟨c, l, e, hc⟩ := br_first b hb
  have h0 : bAt s k = c := by rw [e, AtL.cons] at h; exact h.1
  have hin := in_of_bAt h0 (by omega)
  unfold partR
  rw [if_neg (by omega), h0]
  by_cases h92 : c = 92
  · rw [if_pos h92]
    exact esc_br hb h (by omega)
  · rw [if_neg h92, if_neg (by omega)]
    rcases br_cases b hb with ⟨e', h1⟩ | ⟨e', h1⟩ | e'
    · rw [e'] at e ⊢
      injection e with e1 e2
      subst e1
      rfl
    · rw [e'] at e; injection e with e1 e2; omega
    · rw [e'] at e; injection e with e1 e2; omega
theorem oneW_mm {b n : Nat} (hb : b < 256) (hn : n < 256) : (oneW b).mem n = decide (n = b) := by
  show memb (ofw (fun _ => (b : Int)) 1 0) (ofw (fun _ => (b : Int)) 1 1) (ofw (fun _ => (b : Int)) 1 2) (ofw (fun _ => (b : Int)) 1 3) n = _
  rw [memb_ofw _ (by intro _; omega) (by intro _; omega) 1 n hn]
  show (false || decide ((b : Int) = (n : Int))) = _
  rw [Bool.false_or, decide_eq_decide]
  omega
theorem rngW_mem {a b n : Nat} (hb : b < 256) (hn : n < 256) : (rngW a b).mem n = decide (a ≤ n ∧ n ≤ b) := memb_rgw a b n hb hn
theorem notW_mm (t : W4) (n : Nat) : (notW t).mem n = !t.mem n := memb_nt _ _ _ _ n
theorem uni2_mm (t u : W4) (n : Nat) : (uni2 t u).mem n = (t.mem n || u.mem n) := memb_or _ _ _ _ _ _ _ _ n
theorem filter_one {b : Nat} (f : Nat → Bool) (hf : ∀ n, n < 256 → f n = decide (n = b)) (hb : b < 256) : (List.range 256).filter f = [b] := by
  have h1 : (List.range 256).filter f = (List.range 256).filter fun n => decide (n = b) := List.filter_congr (fun n hn => hf n (List.mem_range.1 hn))
  have h2 : ∀ b : Fin 256, ((List.range 256).filter fun n => decide (n = b.val)) = [b.val] := by decide +kernel
  rw [h1]
  exact h2 ⟨b, hb⟩
theorem ones_one {b : Nat} (hb : b < 256) : ones (oneW b) = [b] := filter_one _ (fun _ hn => oneW_mm hb hn) hb
theorem only_one {b : Nat} (hb : b < 256) : onlyW (oneW b) = some b := onlyW_iff.2 (ones_one hb)
/-- The set of a range. -/
def rngP (p : Nat × Nat) : W4 := if p.1 = p.2 then oneW p.1 else rngW p.1 p.2
theorem rngP_mem {p : Nat × Nat} {n : Nat} (_h1 : p.1 ≤ p.2) (h2 : p.2 < 256) (hn : n < 256) : (rngP p).mem n = decide (p.1 ≤ n ∧ n ≤ p.2) := by
  unfold rngP
  split
  · next h => rw [oneW_mm (by omega) hn, decide_eq_decide]; omega
  · exact rngW_mem h2 hn
theorem rngP_fit (p : Nat × Nat) : (rngP p).fit := by
  unfold rngP
  split
  · exact oneW_fit _
  · exact rngW_fit _ _
/-- A range, told. -/
def rgT (p : Nat × Nat) : List Nat := brN p.1 ++ (if p.1 = p.2 then [] else 45 :: brN p.2)
theorem rsT_cons (p : Nat × Nat) (r : List (Nat × Nat)) : rsT (p :: r) = rgT p ++ rsT r := by
  show brN p.1 ++ ((if p.1 = p.2 then [] else 45 :: brN p.2) ++ rsT r) = (brN p.1 ++ (if p.1 = p.2 then [] else 45 :: brN p.2)) ++ rsT r
  rw [List.append_assoc]
theorem item_rg {s : ByteArray} {k : Nat} {p : Nat × Nat} (h1 : p.1 ≤ p.2) (h2 : p.2 < 256) (h : AtL s k (rgT p)) (hn : bAt s (k + (rgT p).length) ≠ 45) : itemR s k = (rngP p, 0, k + (rgT p).length) := by
  unfold rgT at h hn ⊢
  rw [AtL.append] at h
  have hp := part_br (show p.1 < 256 by omega) h.1
  unfold itemR rngP
  by_cases he : p.1 = p.2
  · rw [if_pos he, List.append_nil] at hn
    rw [hp, if_pos (Or.inr hn), if_pos he, if_pos he, List.append_nil]
  · rw [if_neg he] at hn h ⊢
    rw [AtL.cons] at h
    have hp2 := part_br h2 h.2.2
    rw [hp, if_neg (by simp [h.2.1]), if_neg he]
    dsimp only
    rw [only_one (show p.1 < 256 by omega)]
    dsimp only
    unfold toR
    rw [hp2, if_neg (by simp)]
    dsimp only
    rw [only_one h2]
    dsimp only
    rw [if_neg (by omega), List.length_append, List.length_cons]
    congr 2
    omega
theorem rg_first (p : Nat × Nat) (hp : p.1 < 256) : ∃ c l, rgT p = c :: l ∧ c ≠ 93 ∧ c ≠ 94 ∧ c ≠ 45 := by
  obtain ⟨c, l, e, hc⟩ := br_first p.1 hp
  exact ⟨c, _, by unfold rgT; rw [e]; rfl, by omega⟩
/-- What stands behind a range is no '-'. -/
theorem rs_next {s : ByteArray} {k : Nat} {r : List (Nat × Nat)} (hr : Rise r) (h : AtL s k (rsT r ++ [93])) : bAt s k ≠ 45 := by
  cases r with
  | nil => rw [show rsT [] ++ [93] = [93] from rfl, AtL.cons] at h; omega
  | cons q r =>
    obtain ⟨c, l, e, hc⟩ := rg_first q (by have := rise_head hr; omega)
    rw [rsT_cons, e, List.append_assoc, List.cons_append, AtL.cons] at h
    omega
def uniR (t : W4) (rs : List (Nat × Nat)) : W4 := rs.foldl (fun t p => uni2 t (rngP p)) t
theorem uniR_fit : ∀ (rs : List (Nat × Nat)) (t : W4), t.fit → (uniR t rs).fit
  | [], _, h => h
  | _ :: r, _, _ => uniR_fit r _ (uni2_fit _ _)
theorem uniR_mem : ∀ (rs : List (Nat × Nat)) (t : W4) (n : Nat), Rise rs → n < 256 → (uniR t rs).mem n = (t.mem n || inRs rs n)
  | [], t, n, _, _ => by show t.mem n = (t.mem n || false); rw [Bool.or_false]
  | p :: r, t, n, h, hn => by
    have hp := rise_head h
    show (uniR (uni2 t (rngP p)) r).mem n = _
    rw [uniR_mem r _ n hp.2.2 hn, uni2_mm, rngP_mem hp.1 hp.2.1 hn, inRs_cons, Bool.or_assoc]
theorem cls_rs {s : ByteArray} : ∀ (rs : List (Nat × Nat)) (n : Nat) (t : W4) (k : Nat), Rise rs → rs.length < n → AtL s k (rsT rs ++ [93]) → clsR s n t 0 k = (uniR t rs, 0, k + (rsT rs).length + 1)
  | [], 0, _, _, _, h, _ => absurd h (by simp)
  | _ :: _, 0, _, _, _, h, _ => absurd h (by simp)
  | [], n + 1, t, k, _, _, h => by
    rw [show rsT [] ++ [93] = [93] from rfl, AtL.cons] at h
    rw [clsR, if_neg (by simp), if_pos h.1]
    rfl
  | p :: r, n + 1, t, k, hr, hn, h => by
    have hp := rise_head hr
    rw [rsT_cons, List.append_assoc, AtL.append] at h
    have hi := item_rg hp.1 hp.2.1 h.1 (rs_next hp.2.2 h.2)
    obtain ⟨c, l, e, hc⟩ := rg_first p (by omega)
    have h0 : bAt s k = c := by have := h.1; rw [e, AtL.cons] at this; exact this.1
    rw [clsR, if_neg (by simp), if_neg (by omega), hi]
    dsimp only
    rw [cls_rs r n _ _ hp.2.2 (by simpa using hn) h.2, rsT_cons, List.length_append]
    show (uniR (uni2 t (rngP p)) r, _, _) = (uniR (uni2 t (rngP p)) r, _, _)
    congr 2
    omega
theorem rs_len {s : ByteArray} : ∀ (rs : List (Nat × Nat)) (k : Nat), Rise rs → AtL s k (rsT rs) → rs.length ≤ s.size - k
  | [], _, _, _ => Nat.zero_le _
  | p :: r, k, hr, h => by
    have hp := rise_head hr
    rw [rsT_cons, AtL.append] at h
    have h2 := rs_len r _ hp.2.2 h.2
    obtain ⟨c, l, e, hc⟩ := rg_first p (by omega)
    have hbr := br_first p.1 (by omega)
    have h0 := h.1
    rw [e, AtL.cons] at h0
    obtain ⟨c', l', e', hc'⟩ := hbr
    have hcc : c = c' := by
      have : rgT p = c' :: (l' ++ (if p.1 = p.2 then [] else 45 :: brN p.2)) := by unfold rgT; rw [e']; rfl
      rw [e] at this
      injection this
    have hin := in_of_bAt h0.1 (by omega)
    have hl : 1 ≤ (rgT p).length := by rw [e]; simp
    rw [List.length_cons]
    omega
/-- A class, told, is read back. -/
theorem class_back {s : ByteArray} {k : Nat} {rs : List (Nat × Nat)} (hr : Rise rs) (hne : rs ≠ []) (h : AtL s k (clsN rs)) : classR s k = (uniR (rngP (rs.headD (0, 0))) rs.tail, 0, k + (clsN rs).length) := by
  cases rs with
  | nil => exact absurd rfl hne
  | cons p r =>
    have hp := rise_head hr
    unfold clsN at h ⊢
    rw [AtL.cons, rsT_cons, List.append_assoc, AtL.append] at h
    have hi := item_rg hp.1 hp.2.1 h.2.1 (rs_next hp.2.2 h.2.2)
    obtain ⟨c, l, e, hc⟩ := rg_first p (by omega)
    have h0 : bAt s (k + 1) = c := by have := h.2.1; rw [e, AtL.cons] at this; exact this.1
    have hl := rs_len r _ hp.2.2 (AtL.append.1 h.2.2).1
    unfold classR clsFrom
    rw [if_neg (by omega), hi]
    dsimp only
    rw [cls_rs r _ _ _ hp.2.2 (by omega) h.2.2]
    show (uniR (rngP p) r, _, _) = (uniR (rngP p) r, _, _)
    congr 2
    rw [rsT_cons]
    simp only [List.length_cons, List.length_append, List.length_nil]
    omega
theorem ones_nil {t : W4} (ht : t.fit) (h : ones t = []) : t = noW := by
  refine W4.ext' ht noW_fit fun n hn => ?_
  rw [noW_mem]
  cases hx : t.mem n with
  | false => rfl
  | true =>
    have : n ∈ ones t := by unfold ones; rw [List.mem_filter, List.mem_range]; exact ⟨hn, hx⟩
    rw [h] at this
    simp at this
theorem ones_single {t : W4} {b : Nat} (ht : t.fit) (h : ones t = [b]) : b < 256 ∧ t = oneW b := by
  have hm := only_mem (onlyW_iff.2 h)
  refine ⟨hm.1, W4.ext' ht (oneW_fit b) fun n hn => ?_⟩
  rw [oneW_mm hm.1 hn]
  cases hx : t.mem n with
  | false => exact (decide_eq_false (fun e => by subst e; rw [hm.2.1] at hx; cases hx)).symm
  | true => exact (decide_eq_true (hm.2.2 n hn hx)).symm
theorem all_out (n : Nat) (hn : n < 256) : (notW (rngW 0 255)).mem n = false := by
  rw [notW_mm, rngW_mem (by omega) hn, decide_eq_true (by omega)]
  rfl
/-- What is told of a set is read back by the scanner's rule of sets; it is no other token. -/
theorem set_back {s : ByteArray} {k : Nat} {t : W4} (ht : t.fit) (h : AtL s k (setN t)) : setR s k = (t, 0, k + (setN t).length) ∧ bAt s k ≠ 124 ∧ bAt s k ≠ 40 ∧ bAt s k ≠ 41 ∧ bAt s k ≠ 42 ∧ bAt s k ≠ 43 ∧ bAt s k ≠ 63 ∧ bAt s k ≠ 123 ∧ k < s.size := by
  unfold setN at h ⊢
  by_cases hd : eqW t (notW (oneW 10)) = true
  · rw [if_pos hd] at h ⊢
    rw [AtL.cons] at h
    have hin := in_of_bAt h.1 (by omega)
    refine ⟨?_, by omega⟩
    unfold setR
    rw [h.1, if_neg (by omega), if_neg (by omega), if_pos rfl, (eqW_iff _ _).1 hd]
    rfl
  · rw [if_neg hd] at h ⊢
    split at h
    · next ho =>
      obtain rfl := ones_nil ht ho
      have hc : AtL s (k + 2) (rgT (0, 255) ++ [93]) := by
        rw [AtL.cons, AtL.cons] at h
        exact h.2.2
      rw [AtL.append] at hc
      have hi := item_rg (p := (0, 255)) (by simp) (by simp) hc.1 (by
        have := hc.2
        rw [AtL.cons] at this
        omega)
      have h1 : bAt s k = 91 := by rw [AtL.cons] at h; exact h.1
      have h2 : bAt s (k + 1) = 94 := by rw [AtL.cons, AtL.cons] at h; exact h.2.1
      have hin := in_of_bAt h1 (by omega)
      have hc3 := (AtL.cons.1 hc.2).1
      refine ⟨?_, by omega⟩
      unfold setR classR clsFrom
      rw [if_pos h1, if_pos h2, hi]
      dsimp only
      have e1 : clsR s (s.size + 2) (rngP (0, 255)) 0 (k + 2 + (rgT (0, 255)).length) = (rngP (0, 255), 0, k + 2 + (rgT (0, 255)).length + 1) := by rw [clsR, if_neg (by simp), if_pos hc3]
      rw [e1, if_neg (by simp)]
      have e : notW (rngP (0, 255)) = noW := W4.ext' (notW_fit _) noW_fit fun n hn => by rw [noW_mem]; exact all_out n hn
      rw [e]
      rfl
    · next b ho =>
      obtain ⟨hb, rfl⟩ := ones_single ht ho
      obtain ⟨c, l, e, hc⟩ := br_first b hb
      have h0 : bAt s k = c := by have := h; rw [e, AtL.cons] at this; exact this.1
      have hin := in_of_bAt h0 (by omega)
      refine ⟨?_, by omega⟩
      unfold setR
      rw [h0, if_neg (by omega)]
      by_cases h92 : c = 92
      · rw [if_pos h92]
        exact esc_br hb h (by omega)
      · rw [if_neg h92, if_neg (by omega), if_neg (by omega), if_neg (by omega)]
        rcases br_cases b hb with ⟨e', h1⟩ | ⟨e', h1⟩ | e'
        · rw [e'] at e ⊢
          injection e with e1 e2
          subst e1
          rfl
        · rw [e'] at e; injection e with e1 e2; omega
        · rw [e'] at e; injection e with e1 e2; omega
    · next hz ho =>
      obtain ⟨h1, h2⟩ := rsOf_ok t.mem
      have hne : rsOf t.mem ≠ [] := by
        intro e
        apply hz
        unfold ones
        rw [List.filter_eq_nil_iff]
        intro n hn
        rw [← h2 n (List.mem_range.1 hn), e]
        simp [inRs]
      have hcb := class_back h1 hne h
      have h0 : bAt s k = 91 := by unfold clsN at h; rw [AtL.cons] at h; exact h.1
      have hin := in_of_bAt h0 (by omega)
      refine ⟨?_, by omega⟩
      unfold setR
      rw [if_pos h0, hcb]
      have e : uniR (rngP ((rsOf t.mem).headD (0, 0))) (rsOf t.mem).tail = t := by
        generalize rsOf t.mem = rs at *
        cases rs with
        | nil => exact absurd rfl hne
        | cons p r =>
          have hp := rise_head h1
          refine W4.ext' (uniR_fit r _ (rngP_fit p)) ht fun n hn => ?_
          show (uniR (rngP p) r).mem n = _
          rw [uniR_mem r _ n hp.2.2 hn, rngP_mem hp.1 hp.2.1 hn, ← h2 n hn, inRs_cons]
      rw [e]
/-- A text of bytes, as a string. -/
def baN (l : List Nat) : ByteArray := ⟨(l.map Nat.toUInt8).toArray⟩
theorem baN_size (l : List Nat) : (baN l).size = l.length := by
  show (l.map Nat.toUInt8).toArray.size = _
  simp
theorem baN_append (l m : List Nat) : baN (l ++ m) = baN l ++ baN m := by
  apply ByteArray.ext
  rw [ByteArray.data_append]
  show ((l ++ m).map Nat.toUInt8).toArray = (l.map Nat.toUInt8).toArray ++ (m.map Nat.toUInt8).toArray
  rw [List.map_append]
  simp
theorem baN_at {l : List Nat} (hl : ∀ b ∈ l, b < 256) : AtL (baN l) 0 l := by
  intro i hi
  rw [Nat.zero_add]
  have hs : i < (baN l).size := by rw [baN_size]; exact hi
  rw [bAt_in hs]
  have h1 : (baN l)[i]'hs = (l[i]).toUInt8 := by
    exact List.getElem_map (f := Nat.toUInt8) (l := l) (i := i) (h := by simpa using hi)
  rw [h1]
  have := hl l[i] (List.getElem_mem hi)
  show (l[i]).toUInt8.toNat = l[i]
  simp [Nat.toUInt8]
  omega
theorem hexN_lt (n : Nat) (hn : n < 16) : hexN n < 256 := by unfold hexN; split <;> omega
theorem br_bytes (b : Nat) (hb : b < 256) : ∀ c ∈ brN b, c < 256 := by
  have h1 := hexN_lt (b / 16) (by omega)
  have h2 := hexN_lt (b % 16) (by omega)
  rcases br_cases b hb with ⟨h, _⟩ | ⟨h, _⟩ | h <;> rw [h] <;> intro c hc <;> simp at hc
  · omega
  · omega
  · omega
theorem rs_bytes : ∀ rs : List (Nat × Nat), Rise rs → ∀ c ∈ rsT rs, c < 256
  | [], _, c, hc => by simp [rsT] at hc
  | p :: r, h, c, hc => by
    have hp := rise_head h
    rw [rsT_cons, List.mem_append] at hc
    rcases hc with hc | hc
    · unfold rgT at hc
      rw [List.mem_append] at hc
      rcases hc with hc | hc
      · exact br_bytes p.1 (by omega) c hc
      · split at hc
        · simp at hc
        · rw [List.mem_cons] at hc
          rcases hc with rfl | hc
          · omega
          · exact br_bytes p.2 hp.2.1 c hc
    · exact rs_bytes r hp.2.2 c hc
theorem set_bytes {t : W4} : ∀ c ∈ setN t, c < 256 := by
  intro c hc
  unfold setN at hc
  split at hc
  · simp at hc; omega
  · split at hc
    · simp at hc; omega
    · next b ho => exact br_bytes b (only_mem (onlyW_iff.2 ho)).1 c hc
    · unfold clsN at hc
      rw [List.mem_cons, List.mem_append] at hc
      rcases hc with rfl | hc | hc
      · omega
      · exact rs_bytes _ (rsOf_ok _).1 c hc
      · simp at hc; omega
end
end
section
section
open Go Go.RowKit
attribute [local go_sem ↓] Go.wp_at_zero Go.wp_at_succ
set_option maxRecDepth 100000 in
set_option maxHeartbeats 4000000 in
theorem pidx_one (S : ByteArray) (c : UInt8) (v : Int) (hv : firstIdx S c = v) (hS : 1 < S.size) (w : World) :
    Calls Tryz.prog 115 #[.string S, .string ⟨#[c]⟩] w fun e w' => e = .returned (.int .i64 v) ∧ w' = w := by
  have hx : ∀ W, (callFunc 142 #[.string S, .int .u8 (c.toNat : Int)]).run Tryz.prog W = .ok (.value (.int .i64 v)) W := fun W => by
    rw [tidx_run, run_indexByte_string, show ((c.toNat : Nat) : Int).toNat.toUInt8 = c from by simp [Nat.toUInt8], hv]; rfl
  have hx : ∀ W, (callFunc 142 #[.string S, .int .u8 ((((⟨#[c]⟩ : ByteArray)[0]'(Nat.zero_lt_succ 0)).toNat : Nat) : Int)]).run Tryz.prog W = .ok (.value (.int .i64 v)) W := hx
  have hne : ([c] == S.toList) = false := by
    cases h : ([c] == S.toList) with
    | false => rfl
    | true =>
      have := beq_iff_eq.1 h
      have h2 : S.toList.length = 1 := by rw [← this]; rfl
      rw [Lib.toList_data, Array.length_toList] at h2
      have h3 : S.data.size = S.size := rfl
      omega
  clear hv
  go_enter Tryz.func115, Tryz.ntmps115
  go_wp2
  go_ret
  exact ⟨rfl, rfl⟩
theorem pcontains_one (S : ByteArray) (c : UInt8) (v : Int) (hv : firstIdx S c = v) (hS : 1 < S.size) (w : World) :
    Calls Tryz.prog 79 #[.string S, .string ⟨#[c]⟩] w fun e w' => e = .returned (.bool (decide (0 ≤ v))) ∧ w' = w := by
  have hI : ∀ W, Calls Tryz.prog 98 #[.string S, .string ⟨#[c]⟩] W fun e w' => e = .returned (.int .i64 v) ∧ w' = W := fun W => by
    have C := qhid (pidx_one S c v hv hS W)
    clear hv hS
    go_enter Tryz.func98, Tryz.ntmps98
    go_wp2_with fail
    refine C.out.mono ?_
    rintro e w1 ⟨rfl, rfl⟩
    go_wp2_with fail
    go_ret
    exact ⟨rfl, rfl⟩
  have C := qhid (hI w)
  clear hv hS hI
  go_enter Tryz.func79, Tryz.ntmps79
  go_wp2_with fail
  refine C.out.mono ?_
  rintro e w1 ⟨rfl, rfl⟩
  go_wp2_with fail
  go_ret
  exact ⟨rfl, rfl⟩
set_option maxHeartbeats 4000000 in
theorem alnum_any (b : Nat) (hb : b < 256) (w : World) :
    Calls Tryz.prog 78 #[.int .u8 (b : Int)] w fun e w' => e = .returned (.bool (alnB b)) ∧ w' = w := by
  have key : ∀ (x1 x2 x3 x4 x5 x6 : Bool), decide ((97 : Int) ≤ (b : Int)) = x1 → decide ((b : Int) ≤ 122) = x2 → decide ((65 : Int) ≤ (b : Int)) = x3 → decide ((b : Int) ≤ 90) = x4 → decide ((48 : Int) ≤ (b : Int)) = x5 → decide ((b : Int) ≤ 57) = x6 →
      alnB b = (x1 && x2 || x3 && x4 || x5 && x6) →
      Calls Tryz.prog 78 #[.int .u8 (b : Int)] w fun e w' => e = .returned (.bool (alnB b)) ∧ w' = w := by
    intro x1 x2 x3 x4 x5 x6 h1 h2 h3 h4 h5 h6 h
    rw [h]
    clear h
    cases x1 <;> cases x2 <;> cases x3 <;> cases x4 <;> cases x5 <;> cases x6 <;> (first
      | (exfalso; simp only [decide_eq_true_eq, decide_eq_false_iff_not] at *; omega)
      | (go_enter Tryz.func78, Tryz.ntmps78
         go_wp2
         go_ret
         exact ⟨rfl, rfl⟩))
  refine key _ _ _ _ _ _ rfl rfl rfl rfl rfl rfl ?_
  unfold alnB
  simp only [show ∀ (y : Nat), decide ((97 : Int) ≤ (y : Int)) = decide (97 ≤ y) from fun y => by rw [decide_eq_decide]; omega, show ∀ (y : Nat), decide ((65 : Int) ≤ (y : Int)) = decide (65 ≤ y) from fun y => by rw [decide_eq_decide]; omega, show ∀ (y : Nat), decide ((48 : Int) ≤ (y : Int)) = decide (48 ≤ y) from fun y => by rw [decide_eq_decide]; omega,
    show ∀ (y : Nat), decide ((y : Int) ≤ 122) = decide (y ≤ 122) from fun y => by rw [decide_eq_decide]; omega, show ∀ (y : Nat), decide ((y : Int) ≤ 90) = decide (y ≤ 90) from fun y => by rw [decide_eq_decide]; omega, show ∀ (y : Nat), decide ((y : Int) ≤ 57) = decide (y ≤ 57) from fun y => by rw [decide_eq_decide]; omega]
abbrev plainS : ByteArray := ⟨#[32, 33, 34, 35, 37, 38, 39, 44, 58, 59, 60, 61, 62, 64, 95, 126, 96]⟩
abbrev digS : ByteArray := ⟨#[48, 49, 50, 51, 52, 53, 54, 55, 56, 57, 97, 98, 99, 100, 101, 102]⟩
theorem plain_idx (b : Nat) (hb : b < 256) : decide (0 ≤ firstIdx plainS (UInt8.ofNat b)) = plainB b := by
  have hall : ∀ n : Fin 256, decide (0 ≤ firstIdx plainS (UInt8.ofNat n.val)) = plainB n.val := by decide +kernel
  exact hall ⟨b, hb⟩
theorem them_idx2 (b : Nat) (hb : b < 256) : decide (0 ≤ firstIdx themS (UInt8.ofNat b)) = themB b := by
  have hall : ∀ n : Fin 256, decide (0 ≤ firstIdx themS (UInt8.ofNat n.val)) = themB n.val := by decide +kernel
  exact hall ⟨b, hb⟩
theorem and_low (b : Nat) (hb : b < 256) : bits .and .u8 (b : Int) 15 = ((b % 16 : Nat) : Int) := by
  have hall : ∀ n : Fin 256, bits .and .u8 (n.val : Int) 15 = ((n.val % 16 : Nat) : Int) := by decide +kernel
  exact hall ⟨b, hb⟩
theorem dig_one (q : Nat) (hq : q < 16) : digS.extract q (q + 1) = baN [hexN q] := by
  have hall : ∀ n : Fin 16, digS.extract n.val (n.val + 1) = baN [hexN n.val] := by decide +kernel
  exact hall ⟨q, hq⟩
theorem bytes_one (w : World) (x : Int) (t : TypeId) : BytesAt (w.alloc (.cells #[.int .u8 x] t)) (.slice (some ⟨w.heap.size, 0, none⟩) 1 1) [x] := by
  refine .inr ⟨w.heap.size, 1, rfl, by simp, fun i hi => ?_⟩
  obtain rfl : i = 0 := by simpa using hi
  simp [go_sem]
theorem below_quiet (w : World) (n : Nat) : Below w.heap.size w (w.drewN n) := ⟨rfl, rfl, rfl, Nat.le_refl _, fun _ _ => rfl⟩
/-- The string of one byte that was made. -/
theorem itself_conv (b : Nat) (w : World) : (convert 58 9 (.slice (some ⟨w.heap.size, 0, none⟩) 1 1)).run Tryz.prog (w.alloc (.cells #[.int .u8 (b : Int)] 5)) = .ok (.string ⟨#[UInt8.ofNat b]⟩) (w.alloc (.cells #[.int .u8 (b : Int)] 5)) :=
  conv_bytes (bytes_one w (b : Int) 5)
set_option maxRecDepth 100000 in
set_option maxHeartbeats 4000000 in
theorem byte_any (b : Nat) (hb : b < 256) (w : World) :
    Calls Tryz.prog 59 #[.int .u8 (b : Int)] w fun e w' => e = .returned (.string (baN (brN b))) ∧ Below w.heap.size w w' := by
  have hcv := itself_conv b w
  have hbl := qhid ((Below.refl w.heap.size w).alloc (Nat.le_refl _) (.cells #[.int .u8 (b : Int)] 5))
  have AL := qhid (fun W => alnum_any b hb W)
  obtain ⟨v1, hv1⟩ : ∃ v, firstIdx plainS (UInt8.ofNat b) = v := ⟨_, rfl⟩
  obtain ⟨v2, hv2⟩ : ∃ v, firstIdx themS (UInt8.ofNat b) = v := ⟨_, rfl⟩
  have C1 := qhid (fun W => pcontains_one plainS (UInt8.ofNat b) v1 hv1 (by decide) W)
  have C2 := qhid (fun W => pcontains_one themS (UInt8.ofNat b) v2 hv2 (by decide) W)
  have p1 := plain_idx b hb
  have p2 := them_idx2 b hb
  rw [hv1] at p1
  rw [hv2] at p2
  rw [p1] at C1
  rw [p2] at C2
  clear hv1 hv2 p1 p2
  cases ha : alnB b with
  | true =>
    have HF : Hid (baN (brN b) = ⟨#[UInt8.ofNat b]⟩) := qhid (by unfold brN; rw [ha]; rfl)
    rw [ha] at AL
    clear ha C1 C2
    go_enter Tryz.func59, Tryz.ntmps59
    go_wp2_with fail
    refine (AL.out _).mono ?_
    rintro e w1 ⟨rfl, rfl⟩
    go_wp2_with fail
    go_ret
    exact ⟨by rw [HF.out] <;> rfl, hbl.out⟩
  | false =>
    cases hp : plainB b with
    | true =>
      have HF : Hid (baN (brN b) = ⟨#[UInt8.ofNat b]⟩) := qhid (by unfold brN; rw [ha, hp]; rfl)
      rw [ha] at AL
      rw [hp] at C1
      clear ha hp C2
      go_enter Tryz.func59, Tryz.ntmps59
      go_wp2_with fail
      refine (AL.out _).mono ?_
      rintro e w1 ⟨rfl, rfl⟩
      go_wp2_with fail
      refine (C1.out _).mono ?_
      rintro e w1 ⟨rfl, rfl⟩
      go_wp2_with fail
      go_ret
      exact ⟨by rw [HF.out] <;> rfl, hbl.out⟩
    | false =>
      cases ht : themB b with
      | true =>
        have HF : Hid (baN (brN b) = ⟨#[92]⟩ ++ ⟨#[UInt8.ofNat b]⟩) := qhid (by unfold brN; rw [ha, hp, ht]; rfl)
        rw [ha] at AL
        rw [hp] at C1
        rw [ht] at C2
        clear ha hp ht
        go_enter Tryz.func59, Tryz.ntmps59
        go_wp2_with fail
        refine (AL.out _).mono ?_
        rintro e w1 ⟨rfl, rfl⟩
        go_wp2_with fail
        refine (C1.out _).mono ?_
        rintro e w1 ⟨rfl, rfl⟩
        go_wp2_with fail
        refine (C2.out _).mono ?_
        rintro e w1 ⟨rfl, rfl⟩
        go_wp2_with fail
        go_ret
        exact ⟨by rw [HF.out] <;> rfl, hbl.out⟩
      | false =>
        have HF : Hid (baN (brN b) = ⟨#[92, 120]⟩ ++ baN [hexN (b / 16)] ++ baN [hexN (b % 16)]) := qhid (by unfold brN; rw [ha, hp, ht, show (⟨#[92, 120]⟩ : ByteArray) = baN [92, 120] from rfl, ← baN_append, ← baN_append]; rfl)
        rw [ha] at AL
        rw [hp] at C1
        rw [ht] at C2
        clear ha hp ht
        go_enter Tryz.func59, Tryz.ntmps59
        go_wp2_with fail
        refine (AL.out _).mono ?_
        rintro e w1 ⟨rfl, rfl⟩
        go_wp2_with fail
        refine (C1.out _).mono ?_
        rintro e w1 ⟨rfl, rfl⟩
        go_wp2_with fail
        refine (C2.out _).mono ?_
        rintro e w1 ⟨rfl, rfl⟩
        go_wp2_with fail
        obtain ⟨q, hq⟩ : ∃ q, q = b / 16 := ⟨_, rfl⟩
        obtain ⟨r, hr⟩ : ∃ r, r = b % 16 := ⟨_, rfl⟩
        have hq1 : q < 16 := by omega
        have hr1 : r < 16 := by omega
        have e5 : bits .and .u8 (b : Int) 15 = (r : Int) := by rw [hr]; exact and_low b hb
        have e4 : (b : Int) / 16 = (q : Int) := by omega
        rw [← hq, ← hr, ← dig_one q hq1, ← dig_one r hr1] at HF
        have u1 : IntKind.u8.wrap ((q : Int) + 1) = (q : Int) + 1 := by simp [IntKind.wrap, IntKind.signed, IntKind.bits]; omega
        have u2 : IntKind.u8.wrap ((r : Int) + 1) = (r : Int) + 1 := by simp [IntKind.wrap, IntKind.signed, IntKind.bits]; omega
        have n1 : ((q : Int) + 1).toNat = q + 1 := by omega
        have n2 : ((r : Int) + 1).toNat = r + 1 := by omega
        have HQ := qhid hq
        have HR := qhid hr
        clear hq hr
        go_quiet (fail)
        go_wp2_with fail
        go_ret
        exact ⟨by rw [HF.out] <;> rfl, hbl.out.trans ((below_quiet _ nq).mono hbl.out.size)⟩
end
end
section
section
open Go Go.RowKit
attribute [local go_sem ↓] Go.wp_at_zero Go.wp_at_succ
attribute [local go_sem] eq4
/-- Pairs of bytes in a row. -/
def PrsAt (w : World) (g : Nat) (rs : List (Nat × Nat)) : Prop :=
  g < w.heap.size ∧ ∀ i p, rs[i]? = some p → w.cell? ⟨g, i * 2, none⟩ = some (.int .u8 (p.1 : Int)) ∧ w.cell? ⟨g, i * 2 + 1, none⟩ = some (.int .u8 (p.2 : Int))
theorem PrsAt.below {w w' : World} {g : Nat} {rs : List (Nat × Nat)} (h : PrsAt w g rs) (hb : Below w.heap.size w w') : PrsAt w' g rs :=
  ⟨Nat.lt_of_lt_of_le h.1 hb.size, fun i p hp => ⟨(hb.cell (p := ⟨g, i * 2, none⟩) h.1).trans (h.2 i p hp).1, (hb.cell (p := ⟨g, i * 2 + 1, none⟩) h.1).trans (h.2 i p hp).2⟩⟩
theorem pairVals_at : ∀ (rs : List (Nat × Nat)) (i : Nat) (p : Nat × Nat), rs[i]? = some p → (pairVals rs)[i * 2]? = some (.int .u8 (p.1 : Int)) ∧ (pairVals rs)[i * 2 + 1]? = some (.int .u8 (p.2 : Int))
  | [], i, p, h => by simp at h
  | q :: r, 0, p, h => by
    have e : q = p := by simpa using h
    subst e
    exact ⟨rfl, rfl⟩
  | q :: r, i + 1, p, h => by
    have h1 := pairVals_at r i p (by simpa using h)
    have e : pairVals (q :: r) = .int .u8 (q.1 : Int) :: .int .u8 (q.2 : Int) :: pairVals r := rfl
    rw [e, show (i + 1) * 2 = i * 2 + 1 + 1 by omega]
    exact h1
theorem prs_of_own {w : World} {B : Nat} {v : Value} {rs : List (Nat × Nat)} (h : w.ownsRow B 151 2 v rs.length (pairVals rs)) :
    ∃ ao cap, v = .slice ao rs.length cap ∧ ∀ k, k < rs.length → ∃ g, ao = some ⟨g, 0, none⟩ ∧ PrsAt w g rs := by
  have hown := h
  rcases h.2 with ⟨rfl, h0⟩ | ⟨g, cap, cur, rfl, hbg, hg, hnc, hcm, hcs, htake⟩
  · exact ⟨none, 0, by rw [h0], fun k hk => by omega⟩
  · refine ⟨some ⟨g, 0, none⟩, cap, rfl, fun k hk => ⟨g, rfl, ?_, fun i p hp => ?_⟩⟩
    · rcases Nat.lt_or_ge g w.heap.size with h' | h'
      · exact h'
      · simp [Array.getElem?_eq_none h'] at hg
    · have h1 := pairVals_at rs i p hp
      have e : ∀ j, (⟨g, 0, none⟩ : Addr).add j = ⟨g, j, none⟩ := fun j => by unfold Addr.add; split <;> simp_all
      have h2 := hown.cells (g := g) rfl _ _ h1.1
      have h3 := hown.cells (g := g) rfl _ _ h1.2
      rw [e] at h2 h3
      exact ⟨h2, h3⟩
theorem rsT_snoc (rs : List (Nat × Nat)) (k : Nat) (p : Nat × Nat) (h : rs[k]? = some p) : rsT (rs.take (k + 1)) = rsT (rs.take k) ++ rgT p := by
  have app : ∀ a b : List (Nat × Nat), rsT (a ++ b) = rsT a ++ rsT b := by
    intro a b
    induction a with
    | nil => rfl
    | cons q r ih => rw [List.cons_append, rsT_cons, rsT_cons, ih, List.append_assoc]
  rw [List.take_add_one, h, app]
  show _ ++ rsT [p] = _
  rw [rsT_cons]
  show _ ++ (rgT p ++ []) = _
  rw [List.append_nil]
/-- The text of a class so far. -/
def clsP (rs : List (Nat × Nat)) (k : Nat) : ByteArray := baN (91 :: rsT (rs.take k))
theorem clsP_one {rs : List (Nat × Nat)} {k p0 p1 : Nat} (h : rs[k]? = some (p0, p1)) (he : p0 = p1) : clsP rs (k + 1) = clsP rs k ++ baN (brN p0) := by
  unfold clsP
  rw [rsT_snoc rs k _ h, ← baN_append]
  unfold rgT
  rw [if_pos he, List.append_nil]
  rfl
theorem clsP_two {rs : List (Nat × Nat)} {k p0 p1 : Nat} (h : rs[k]? = some (p0, p1)) (he : p0 ≠ p1) : clsP rs (k + 1) = clsP rs k ++ baN (brN p0) ++ (⟨#[45]⟩ ++ baN (brN p1)) := by
  unfold clsP
  rw [rsT_snoc rs k _ h, ← baN_append, show (⟨#[45]⟩ : ByteArray) = baN [45] from rfl, ← baN_append, ← baN_append]
  unfold rgT
  rw [if_neg he, List.append_assoc]
  rfl
theorem clsP_end (rs : List (Nat × Nat)) : clsP rs rs.length ++ ⟨#[93]⟩ = baN (clsN rs) := by
  unfold clsP clsN
  rw [List.take_length, show (⟨#[93]⟩ : ByteArray) = baN [93] from rfl, ← baN_append]
  rfl
theorem br_le (b : Nat) : (brN b).length ≤ 4 := by
  unfold brN
  split
  · simp
  · split <;> simp
theorem rsT_le : ∀ rs : List (Nat × Nat), (rsT rs).length ≤ 9 * rs.length
  | [] => by simp [rsT]
  | p :: r => by
    have h1 := br_le p.1
    have h2 := br_le p.2
    have := rsT_le r
    rw [rsT_cons]
    unfold rgT
    split <;> simp <;> omega
theorem clsP_size (rs : List (Nat × Nat)) (k : Nat) (h : rs.length ≤ 256) : (clsP rs k).size ≤ 2400 := by
  unfold clsP
  rw [baN_size, List.length_cons]
  have := rsT_le (rs.take k)
  have := List.length_take_le k rs
  have := List.length_take_le' k rs
  omega
set_option maxRecDepth 100000 in
set_option maxHeartbeats 4000000 in
theorem class_any (t : W4) (ht : t.fit) (w : World) (hT : Tab w) :
    Calls Tryz.prog 60 #[setVal t] w fun e w' => e = .returned (.string (baN (clsN (rsOf t.mem)))) ∧ Below w.heap.size w w' := by
  obtain ⟨rs, hrs⟩ : ∃ rs, rs = rsOf t.mem := ⟨_, rfl⟩
  rw [← hrs]
  have HRS := qhid hrs
  clear hrs
  have RG := qhid (fun W (hW : Tab W) => ranges_any t.a t.b t.c t.d W ht.1 ht.2.1 ht.2.2.1 ht.2.2.2 hW)
  have HT := qhid (hT.up (below1 w (setOb t)))
  clear hT ht
  go_enter Tryz.func60, Tryz.ntmps60
  go_wp2_with fail
  refine (RG.out _ HT.out).mono ?_
  rintro e w1 ⟨rs', v, rfl, hr, hlen, hin, hown, hb⟩
  obtain rfl : rs = rs' := ((rsOf_uniq hr hin).trans HRS.out.symm).symm
  have HB := qhid ((below1 w (setOb t)).trans (hb.mono (below1 w (setOb t)).size))
  obtain ⟨ao, cap, rfl, hp⟩ := prs_of_own hown
  have HP := qhid hp
  have HR := qhid hr
  clear hb hown hr hin RG HT hp HRS
  go_wp2_with fail
  go_loopw [3, 9] (fun tv iv wr => ∃ k : Nat, k ≤ rs.length ∧ iv = .int .i64 k ∧ tv = .string (clsP rs k) ∧ Hid (Below w1.heap.size w1 wr)) (fun _ iv _ => rs.length - (intOf iv).toNat)
  case atStart => exact ⟨0, by omega, rfl, rfl, qhid (Below.refl _ _)⟩
  case round =>
    obtain ⟨k, hk, rfl, rfl, HBr⟩ := hrel
    have hsz := clsP_size rs k hlen
    by_cases hlt : k < rs.length
    · obtain ⟨g, rfl, hpr⟩ := HP.out k hlt
      obtain ⟨p, hp⟩ : ∃ p, rs[k]? = some p := ⟨_, List.getElem?_eq_getElem hlt⟩
      obtain ⟨hgr, hcr⟩ := hpr.below HBr.out
      obtain ⟨c0, c1⟩ := hcr k p hp
      obtain ⟨r0, r1, _⟩ := rise_each rs HR.out k hlt
      have ep : rs[k] = p := by rw [List.getElem?_eq_getElem hlt] at hp; exact Option.some.inj hp
      rw [ep] at r0 r1
      obtain ⟨p0, p1⟩ := p
      dsimp only at c0 c1 r0 r1
      have HPP := qhid hp
      have s0 := br_le p0
      have s1 := br_le p1
      rw [← baN_size] at s0 s1
      have B0 := qhid (fun W => byte_any p0 (by omega) W)
      have B1 := qhid (fun W => byte_any p1 (by omega) W)
      clear hpr hp ep hcr
      by_cases he : p0 = p1
      · have HF := qhid (clsP_one HPP.out he)
        obtain rfl : p0 = p1 := he
        go_wp2_with fail
        refine (B0.out _).mono ?_
        rintro e w2 ⟨rfl, hb2⟩
        have q0 : w2.cell? ⟨wr.heap.size, 0, none⟩ = some (.int .u8 (p0 : Int)) := (hb2.cell (p := ⟨wr.heap.size, 0, none⟩) (by simp)).trans (by simp [go_sem])
        have q1 : w2.cell? ⟨wr.heap.size, 1, none⟩ = some (.int .u8 (p0 : Int)) := (hb2.cell (p := ⟨wr.heap.size, 1, none⟩) (by simp)).trans (by simp [go_sem])
        have HB2 := qhid (HBr.out.trans (((below1 wr _).trans (hb2.mono (below1 wr _).size)).mono HBr.out.size))
        clear hb2
        go_wp2_with fail
        go_roundw
        case rel => exact ⟨k + 1, by omega, by go_num, by rw [HF.out], HB2⟩
        case measure => simp [intOf]; omega
      · have HF := qhid (clsP_two HPP.out he)
        have he2 : ((p0 : Int) == (p1 : Int)) = false := by simpa using (fun h : (p0 : Int) = p1 => he (by omega))
        have he3 : ((p0 : Int) != (p1 : Int)) = true := by simpa using (fun h : (p0 : Int) = p1 => he (by omega))
        clear he
        go_wp2_with fail
        refine (B0.out _).mono ?_
        rintro e w2 ⟨rfl, hb2⟩
        have q0 : w2.cell? ⟨wr.heap.size, 0, none⟩ = some (.int .u8 (p0 : Int)) := (hb2.cell (p := ⟨wr.heap.size, 0, none⟩) (by simp)).trans (by simp [go_sem])
        have q1 : w2.cell? ⟨wr.heap.size, 1, none⟩ = some (.int .u8 (p1 : Int)) := (hb2.cell (p := ⟨wr.heap.size, 1, none⟩) (by simp)).trans (by simp [go_sem])
        have HB2 := qhid (HBr.out.trans (((below1 wr _).trans (hb2.mono (below1 wr _).size)).mono HBr.out.size))
        clear hb2
        go_wp2_with fail
        refine (B1.out _).mono ?_
        rintro e w3 ⟨rfl, hb3⟩
        have HB3 := qhid (HB2.out.trans (hb3.mono HB2.out.size))
        clear hb3 q0 q1
        go_wp2_with fail
        go_roundw
        case rel => exact ⟨k + 1, by omega, by go_num, by rw [HF.out], HB3⟩
        case measure => simp [intOf]; omega
    · obtain rfl : k = rs.length := by omega
      have HF := qhid (clsP_end rs)
      go_wp2_with fail
      go_ret
      exact ⟨by rw [← HF.out] <;> rfl, HB.out.trans (HBr.out.mono HB.out.size)⟩
def setTold (t n : W4) (b : Bool) : Nat → Reg.Told
  | 0 => .inl (setVal t)
  | 1 => .inr ⟨fun g => .slice (some ⟨g, 0, none⟩) 1 1, 5, #[.int .u8 10]⟩
  | 2 => .inl (setVal (oneW 10))
  | 3 => .inl (setVal n)
  | 4 => .inl (.bool b)
  | _ => .inl undef
set_option maxRecDepth 100000 in
set_option maxHeartbeats 8000000 in
theorem set_any (t : W4) (ht : t.fit) (w : World) (hT : Tab w) :
    Calls Tryz.prog 35 #[setVal t] w fun e w' => e = .returned (.string (baN (setN t))) ∧ Below w.heap.size w w' := by
  have OF := qhid (fun W gl (hX : W.heap[gl]? = some (.cells #[.int .u8 ((10 : Nat) : Int)] 5)) => of_blk (w := W) (g := gl) (k := 10) (by omega) hX)
  have NO := qhid (fun W => not_any (oneB 10 0) (oneB 10 1) (oneB 10 2) (oneB 10 3) W)
  have CN := qhid (fun W => tcnt_any t ht W)
  have CL := qhid (fun W hW => class_any t ht W hW)
  have FI := qhid (fun a ha W hW => tfirst_any t ht a ha W hW)
  obtain ⟨N, hN⟩ : ∃ N, N = baN (setN t) := ⟨_, rfl⟩
  rw [← hN]
  have HN := qhid hN
  have HT := qhid hT
  clear hT hN ht
  go_enter Tryz.func35, Tryz.ntmps35
  go_wp2_with fail
  generalize hws : w.alloc _ = ws
  have HS : HeldZ ws w.heap.size t.a t.b t.c t.d ws := by
    subst hws
    exact ⟨⟨by simp [go_sem], by simp [go_sem], by simp [go_sem], by simp [go_sem]⟩, by simp, Below.refl _ _⟩
  have hba : Below w.heap.size w ws := by subst hws; exact below1 _ _
  clear hws
  have HT2 := qhid (HT.out.up hba)
  have HB := qhid hba
  have hs := hba.size
  have HW := heldZ_below (Below.refl _ ws).drew HS
  clear HT hba HS
  generalize w.heap.size = gs at HW ⊢
  obtain ⟨n, hn⟩ : ∃ n, n = notW (oneW 10) := ⟨_, rfl⟩
  obtain ⟨b, hb⟩ : ∃ b, b = eqW t n := ⟨_, rfl⟩
  have hbq : (t.a == n.a && t.b == n.b && t.c == n.c && t.d == n.d) = b := hb.symm
  have NO2 : Hid (∀ W, Calls Tryz.prog 55 #[setVal (oneW 10)] W fun e w' => e = .returned (setVal n) ∧ Below W.heap.size W w') := qhid (by rw [hn]; exact NO.out)
  have HNN := qhid hn
  have HBB := qhid hb
  clear hn hb NO
  refine Reg.wp_region_told (setTold t n b) [] [0, 1, 2, 3, 4] (by kernel_rfl) (by kernel_rfl) (by kernel_rfl) (by intro f hf; cases hf) (by intro f hf; cases hf) ?_ ?_
  focus
    refine ⟨Reg.opOK_plain (by rfl) fun G listed A wv hI hall => .inl ⟨Reg.wanted_none rfl, ?_⟩, ?_⟩
    focus
      have H := heldZ_below hI.base HW
      have e1 := hI.evo (d := 1) (by kernel_rfl) rfl
      clear hI hall HW hbq
      unfold Reg.Yields
      go_simp
      exact Reg.good_val (by rfl) (by rfl) (Below.refl _ _)
    refine ⟨Reg.opOK_plain (by rfl) fun G listed A wv hI hall => .inl ⟨Reg.wanted_none rfl, ?_⟩, ?_⟩
    focus
      clear hI hall HW hbq
      unfold Reg.Yields
      go_simp
      exact Reg.good_new (by rfl) (by rfl) (by rfl)
    refine ⟨Reg.opOK_plain (by rfl) fun G listed A wv hI hall => .inl ⟨Reg.wanted_none rfl, ?_⟩, ?_⟩
    focus
      obtain ⟨e6, _, b6⟩ := hI.evm (i := 1) (d := 6) (by rfl) (by rfl) (hall ⟨1, .data⟩ (by simp) rfl)
      clear hI hall HW hbq
      unfold Reg.Yields
      go_simp
      exact (OF.out _ _ b6).mono fun e w'' ⟨he, hb⟩ => ⟨_, he, Reg.good_val (by rfl) (by rfl) hb⟩
    refine ⟨Reg.opOK_plain (by rfl) fun G listed A wv hI hall => .inl ⟨Reg.wanted_none rfl, ?_⟩, ?_⟩
    focus
      have e7 := hI.ev (i := 2) (d := 7) (by rfl) (by rfl) (hall ⟨2, .data⟩ (by simp) rfl)
      clear hI hall HW hbq
      unfold Reg.Yields
      go_simp
      exact (NO2.out _).mono fun e w'' ⟨he, hb⟩ => ⟨_, he, Reg.good_val (by rfl) (by rfl) hb⟩
    refine ⟨Reg.opOK_plain (by rfl) fun G listed A wv hI hall => .inl ⟨Reg.wanted_none rfl, ?_⟩, ?_⟩
    focus
      have e5 := hI.ev (i := 0) (d := 5) (by rfl) (by rfl) (hall ⟨0, .data⟩ (by simp) rfl)
      have e8 := hI.ev (i := 3) (d := 8) (by rfl) (by rfl) (hall ⟨3, .data⟩ (by simp) rfl)
      clear hI hall HW
      unfold Reg.Yields
      go_simp
      exact Reg.good_val (by rfl) (by rfl) (Below.refl _ _)
    trivial
  intro G w2 hI
  have H := heldZ_below hI.base HW
  have HFin := qhid (HB.out.trans (H.2.2.mono hs))
  have HT3 := qhid (HT2.out.up H.2.2)
  clear hI HW hbq HT2 HB OF NO2
  simp [Reg.finalTmps, Reg.dstAt, Reg.valOf, setTold]
  cases b with
  | true =>
    have HF : Hid (N = ⟨#[46]⟩) := qhid (by rw [HN.out]; unfold setN; rw [← HNN.out, ← HBB.out, if_pos rfl]; rfl)
    go_wp2_with fail
    go_ret
    exact ⟨by rw [HF.out] <;> rfl, HFin.out⟩
  | false =>
    have HF : Hid (N = baN (match ones t with | [] => [91, 94, 92, 120, 48, 48, 45, 92, 120, 102, 102, 93] | [b] => brN b | _ => clsN (rsOf t.mem))) := qhid (by rw [HN.out]; unfold setN; rw [← HNN.out, ← HBB.out, if_neg (by simp)] <;> first | rfl | (split <;> rfl))
    have HH := qhid H
    obtain ⟨⟨q0, q1, q2, q3⟩, hgl, _⟩ := H
    obtain ⟨l, hl⟩ : ∃ l, l = ones t := ⟨_, rfl⟩
    rw [← hl] at HF CN
    have HL := qhid hl
    clear hl HN HBB HNN
    cases l with
    | nil =>
      have HF2 : Hid (N = ⟨#[91, 94, 92, 120, 48, 48, 45, 92, 120, 102, 102, 93]⟩) := HF
      clear HF HL CL FI
      go_wp2_with fail
      refine (CN.out _).mono ?_
      rintro e w3 ⟨rfl, hb3⟩
      have HB3 := qhid (HFin.out.trans (hb3.mono HFin.out.size))
      clear hb3
      go_wp2_with fail
      go_ret
      exact ⟨by rw [HF2.out] <;> rfl, HB3.out⟩
    | cons x l' =>
      cases l' with
      | nil =>
        have HF2 : Hid (N = baN (brN x)) := HF
        have ho := onlyW_iff.2 HL.out.symm
        have hx := (only_mem ho).1
        have FX := qhid (fun W hW => FI.out x ho W hW)
        have BY := qhid (fun W => byte_any x hx W)
        clear HF HL CL FI ho
        go_wp2_with fail
        refine (CN.out _).mono ?_
        rintro e w3 ⟨rfl, hb3⟩
        have HB3 := qhid (HFin.out.trans (hb3.mono HFin.out.size))
        have HT4 := qhid (HT3.out.up hb3)
        have HH2 := heldZ_below hb3 HH.out
        have HH3 := qhid HH2
        clear hb3 q0 q1 q2 q3 hgl
        obtain ⟨⟨q0, q1, q2, q3⟩, hgl, _⟩ := HH2
        go_wp2_with fail
        refine (FX.out _ HT4.out).mono ?_
        rintro e w4 ⟨rfl, hb4⟩
        have HB4 := qhid (HB3.out.trans (hb4.mono HB3.out.size))
        clear hb4
        go_wp2_with fail
        refine (BY.out _).mono ?_
        rintro e w5 ⟨rfl, hb5⟩
        have HB5 := qhid (HB4.out.trans (hb5.mono HB4.out.size))
        clear hb5
        go_wp2_with fail
        go_ret
        exact ⟨by rw [HF2.out] <;> rfl, HB5.out⟩
      | cons y r =>
        have HF2 : Hid (N = baN (clsN (rsOf t.mem))) := HF
        obtain ⟨k, hk⟩ : ∃ k : Nat, k = (x :: y :: r).length := ⟨_, rfl⟩
        have hk2 : 2 ≤ k := by rw [hk]; simp
        rw [← hk] at CN
        have k0 : ((k : Int) == 0) = false := by simp; omega
        have k1 : ((k : Int) == 1) = false := by simp; omega
        clear HF HL FI hk
        go_wp2_with fail
        refine (CN.out _).mono ?_
        rintro e w3 ⟨rfl, hb3⟩
        have HB3 := qhid (HFin.out.trans (hb3.mono HFin.out.size))
        have HT4 := qhid (HT3.out.up hb3)
        have HH2 := heldZ_below hb3 HH.out
        have HH3 := qhid HH2
        clear hb3 q0 q1 q2 q3 hgl
        obtain ⟨⟨q0, q1, q2, q3⟩, hgl, _⟩ := HH2
        go_wp2_with fail
        refine (CL.out _ HT4.out).mono ?_
        rintro e w4 ⟨rfl, hb4⟩
        have HB4 := qhid (HB3.out.trans (hb4.mono HB3.out.size))
        clear hb4
        go_wp2_with fail
        go_ret
        exact ⟨by rw [HF2.out] <;> rfl, HB4.out⟩
end
end
section
section
open Go Go.RowKit
theorem Tryz.sizeBd : (Tryz.prog.info? 60).map (·.size) = some 2 := by kernel_rfl
theorem Tryz.ptrBd : Tryz.prog.underlying 57 = some (.pointer 60) := by kernel_rfl
theorem Tryz.unsBd : Tryz.prog.underlying 130 = some .unsafePointer := by kernel_rfl
theorem Tryz.bytBd : Tryz.prog.underlying 58 = some (.slice 5) := by kernel_rfl
theorem Tryz.strBd : Tryz.prog.underlying 9 = some .string := by kernel_rfl
theorem Tryz.pbyBd : Tryz.prog.underlying 93 = some (.pointer 5) := by kernel_rfl
theorem Tryz.infoBd : (Tryz.prog.info? 5).map (fun i => (i.zero, i.size, i.bytes)) = some (some (.int .u8 0), 1, 1) := by kernel_rfl
theorem Tryz.cellBd : (Tryz.prog).cellsOf 5 = 1 := by kernel_rfl
end
end
section
section
open Go Go.RowKit
attribute [local go_sem ↓] Go.wp_at_zero Go.wp_at_succ
end
end
section
section
open Go Go.RowKit
def byN (l : List Nat) : List UInt8 := l.map Nat.toUInt8
theorem byN_append (l m : List Nat) : byN (l ++ m) = byN l ++ byN m := List.map_append
theorem byN_length (l : List Nat) : (byN l).length = l.length := List.length_map ..
theorem strCells_baN (l : List Nat) : Lib.strCells (baN l) = Lib.byteCells (byN l) := rfl
end
section
open Go Go.RowKit
attribute [local go_sem ↓] Go.wp_at_zero Go.wp_at_succ
end
end
section
section
open Go Go.RowKit
attribute [local go_sem ↓] Go.wp_at_zero Go.wp_at_succ
attribute [local go_sem] eq4
end
end
section
section
open Go Go.RowKit
attribute [local go_sem ↓] Go.wp_at_zero Go.wp_at_succ
end
end
end Go.Proofs.YtfjepjkbflcjbaaGreatDoor
