/- The law BlocksIn, walked. -/
import Derived.Test.YtkjbecdngjdkhaaDoorBlkT
namespace Go.Proofs.YtkjbecdngjdkhaaDoor
open Go Go.RowKit
attribute [local go_sem ↓] Go.wp_at_zero Go.wp_at_succ
attribute [local go_sem] eq4
set_option maxRecDepth 100000 in
set_option maxHeartbeats 4000000 in
theorem inlaw_big (p : Option Addr) (n cap : Nat) (s : W4) (w : World) (hn : 20 < n) (hT : ∀ w', Below w.heap.size w w' → Tab w') :
    Calls Tryd.prog 4 #[.slice p n cap, .agg #[.int .u64 s.a, .int .u64 s.b, .int .u64 s.c, .int .u64 s.d]] w fun e w' => e = .returned (.bool true) ∧ Below w.heap.size w w' := by
  have HT := hid hT
  have HB0 := hid (below1 w (.cells #[.int .u64 s.a, .int .u64 s.b, .int .u64 s.c, .int .u64 s.d] 35))
  have hz0 : w.heap.size + 1 ≤ (w.alloc (.cells #[.int .u64 s.a, .int .u64 s.b, .int .u64 s.c, .int .u64 s.d] 35)).heap.size := by simp
  have d20 : decide ((20 : Int) < (n : Int)) = true := decide_eq_true (by omega)
  clear hT
  go_enter Tryd.func4, Tryd.ntmps4
  go_wp2_with fail
  generalize w.alloc (.cells #[.int .u64 s.a, .int .u64 s.b, .int .u64 s.c, .int .u64 s.d] 35) = w0 at *
  refine (awakeB_any w0 (fun w' hb' => HT.out _ (HB0.out.trans (hb'.mono (by omega))))).mono ?_
  rintro e w5 ⟨rfl, hb5⟩
  have HB5 := hid (HB0.out.trans (hb5.mono (by omega)))
  clear hb5
  go_wp2_with fail
  go_ret
  exact ⟨rfl, HB5.out⟩
/-- A set lies in a block; a world is an elder one but for what is new. -/
abbrev HeldQ (wr : World) (g : Nat) (s : W4) (w' : World) : Prop :=
  (w'.cell? ⟨g, 0, none⟩ = some (.int .u64 s.a) ∧ w'.cell? ⟨g, 1, none⟩ = some (.int .u64 s.b) ∧ w'.cell? ⟨g, 2, none⟩ = some (.int .u64 s.c) ∧ w'.cell? ⟨g, 3, none⟩ = some (.int .u64 s.d)) ∧ g < w'.heap.size ∧ Below wr.heap.size wr w'
theorem heldQ_below {wr : World} {g : Nat} {s : W4} {X Y : World} (hb : Below X.heap.size X Y) (h : HeldQ wr g s X) : HeldQ wr g s Y :=
  ⟨SetAt.below (s := s) (o := 0) h.1 hb h.2.1, Nat.lt_of_lt_of_le h.2.1 hb.size, h.2.2.trans (hb.mono h.2.2.size)⟩
theorem heldQ_belowB {wr : World} {g B : Nat} {s : W4} {X Y : World} (hb : Below B X Y) (hB : X.heap.size ≤ B) (h : HeldQ wr g s X) : HeldQ wr g s Y := heldQ_below (hb.mono hB) h
theorem heldQ_drew {wr : World} {g : Nat} {s : W4} {X : World} (h : HeldQ wr g s X) : HeldQ wr g s X.drew := ⟨h.1, h.2.1, h.2.2.drew⟩
theorem heldQ_alloc {wr : World} {g : Nat} {s : W4} {X : World} (o : Obj) (h : HeldQ wr g s X) : HeldQ wr g s (X.alloc o) := heldQ_below (below1 X o) h
abbrev HeldB (wr : World) (g : Nat) (s : W4) (gm : Nat) (p : W4) (w' : World) : Prop :=
  HeldQ wr g s w' ∧ (w'.cell? ⟨gm, 0, none⟩ = some (.int .u64 p.a) ∧ w'.cell? ⟨gm, 1, none⟩ = some (.int .u64 p.b) ∧ w'.cell? ⟨gm, 2, none⟩ = some (.int .u64 p.c) ∧ w'.cell? ⟨gm, 3, none⟩ = some (.int .u64 p.d)) ∧ gm < w'.heap.size
theorem heldB_below {wr : World} {g gm : Nat} {s p : W4} {X Y : World} (hb : Below X.heap.size X Y) (h : HeldB wr g s gm p X) : HeldB wr g s gm p Y :=
  ⟨heldQ_below hb h.1, SetAt.below (s := p) (o := 0) h.2.1 hb h.2.2, Nat.lt_of_lt_of_le h.2.2 hb.size⟩
theorem heldB_drew {wr : World} {g gm : Nat} {s p : W4} {X : World} (h : HeldB wr g s gm p X) : HeldB wr g s gm p X.drew := ⟨heldQ_drew h.1, h.2.1, h.2.2⟩
/-- Are the first k blocks uncut? -/
def allUn (ls : List W4) (s : W4) (k : Nat) : Bool := !(ls.take k).any (cuts s)
theorem allUn_next {ls : List W4} {s t : W4} {k : Nat} (h : ls[k]? = some t) : allUn ls s (k + 1) = (allUn ls s k && !cuts s t) := by
  unfold allUn
  rw [any_take ls (cuts s) k t h, Bool.not_or]
theorem allUn_end (ls : List W4) (s : W4) : allUn ls s ls.length = !ls.any (cuts s) := by unfold allUn; rw [List.take_length]
/-- What holds at the head of round k of the law's loop. -/
def InLoop (w4 : World) (ls : List W4) (s : W4) (k : Nat) (a v : Value) (wr : World) : Prop :=
  a = .bool (allUn ls s k) ∧ GrowRel w4 (inIdx ls s k) v wr
/-- What a round's first region tells. -/
def inTold (g1 k : Nat) (t s p : W4) : Nat → Reg.Told
  | 0 => .inl (.pointer (some ⟨g1, 0, none⟩))
  | 1 => .inl (.int .i64 (k : Int))
  | 2 => .inl (.agg #[.int .u64 t.a, .int .u64 t.b, .int .u64 t.c, .int .u64 t.d])
  | 3 => .inl (.agg #[.int .u64 s.a, .int .u64 s.b, .int .u64 s.c, .int .u64 s.d])
  | 4 => .inl (.agg #[.int .u64 p.a, .int .u64 p.b, .int .u64 p.c, .int .u64 p.d])
  | 5 => .inr ⟨fun G => .pointer (some ⟨G, 0, none⟩), 35, #[.int .u64 0, .int .u64 0, .int .u64 0, .int .u64 0]⟩
  | _ => .inl undef
set_option maxRecDepth 100000 in
set_option maxHeartbeats 4000000 in
theorem inlaw_small (p : Option Addr) (n cap : Nat) (L : List W4) (s : W4) (w : World) (hn : n ≤ 20) (hR : SetsRow w p n L) (hs : s.fit) (hT : ∀ w', Below w.heap.size w w' → Tab w') :
    Calls Tryd.prog 4 #[.slice p n cap, .agg #[.int .u64 s.a, .int .u64 s.b, .int .u64 s.c, .int .u64 s.d]] w fun e w' => e = .returned (.bool true) ∧ Below w.heap.size w w' := by
  have HT := hid hT
  have HB0 := hid (below1 w (.cells #[.int .u64 s.a, .int .u64 s.b, .int .u64 s.c, .int .u64 s.d] 35))
  have HS0 : Hid (SetAt (w.alloc (.cells #[.int .u64 s.a, .int .u64 s.b, .int .u64 s.c, .int .u64 s.d] 35)) w.heap.size 0 s) := hid (by
    refine ⟨?_, ?_, ?_, ?_⟩ <;> simp [go_sem])
  have hz0 : w.heap.size + 1 ≤ (w.alloc (.cells #[.int .u64 s.a, .int .u64 s.b, .int .u64 s.c, .int .u64 s.d] 35)).heap.size := by simp
  have HR := hid hR
  have HSF := hid hs
  have d20 : decide ((20 : Int) < (n : Int)) = false := decide_eq_false (by omega)
  clear hT hR hs
  obtain ⟨i0, hif, hy0, hy1, hy2⟩ := info_parts Tryd.infoInt
  go_enter Tryd.func4, Tryd.ntmps4
  go_wp2_with fail
  generalize w.alloc (.cells #[.int .u64 s.a, .int .u64 s.b, .int .u64 s.c, .int .u64 s.d] 35) = w0 at *
  refine (new_row p n cap L w0 (HR.out.up HB0.out) (by omega)).mono ?_
  rintro e w2 ⟨g1, ls1, rfl, hg1, hX1, hb2⟩
  have HB2 := hid (HB0.out.trans (hb2.mono (by omega)))
  have HS2 := hid (HS0.out.below hb2 (by omega))
  have HX1 := hid hX1
  have hz2 := hb2.size
  clear hb2 hX1
  obtain ⟨c0, c1, c2, c3⟩ := HS2.out
  go_wp2_with fail
  refine (more_row s HSF.out HX1.out).mono ?_
  rintro e w3 ⟨g2, ls2, rfl, hg2, hX2, hb3⟩
  have HB3 := hid (HB2.out.trans (hb3.mono (by omega)))
  have HS3 := hid (HS2.out.below hb3 (by omega))
  have HX1b := hid (HX1.out.below hb3 (Nat.le_refl _))
  have HX2 := hid hX2
  have HMC := hid (more_count HX1.out hX2)
  have hz3 := hb3.size
  clear hb3 hX2 c0 c1 c2 c3
  obtain ⟨c0, c1, c2, c3⟩ := HS3.out
  go_wp2_with fail
  refine (in_any s HX1b.out).mono ?_
  rintro e w4 ⟨v4, rfl, hv4, hb4⟩
  have HB4 := hid (HB3.out.trans (hb4.mono (by omega)))
  have HS4 := hid (HS3.out.below hb4 (by omega))
  have HX1c := hid (HX1b.out.below hb4 (Nat.le_refl _))
  have HX2c := hid (HX2.out.below hb4 (Nat.le_refl _))
  have HV4 := hid hv4
  have hz4 := hb4.size
  clear hb4 hv4 c0 c1 c2 c3
  have hsm := HX1c.out.blk.small
  have CNT1 := hid (fun W (h : Below w4.heap.size w4 W) => count_at g1 _ ls1 W (HX1c.out.blk.below h (Nat.le_refl _)))
  have CNT2 := hid (fun W (h : Below w4.heap.size w4 W) => count_at g2 _ ls2 W (HX2c.out.blk.below h (Nat.le_refl _)))
  go_wp2_with fail
  go_loopw [9, 10, 11] (fun a v i wr => ∃ k : Nat, k ≤ ls1.length ∧ i = .int .i64 k ∧ Hid (InLoop w4 ls1 s k a v wr)) (fun _ _ i _ => ls1.length - (intOf i).toNat)
  case atStart => exact ⟨0, by omega, rfl, hid ⟨rfl, GrowRel.start _⟩⟩
  case round =>
    obtain ⟨k, hk, rfl, HI⟩ := hrel
    obtain ⟨rfl, hG⟩ := HI.out
    have HG := hid hG
    clear hG
    by_cases hlk : k < ls1.length
    · obtain ⟨t, ht⟩ : ∃ t, ls1[k]? = some t := ⟨_, List.getElem?_eq_getElem hlk⟩
      have HTF := hid (HX1c.out.blk.fit t (List.mem_of_getElem? ht))
      have HTI := hid ht
      have HSW : HeldQ wr w.heap.size s wr := ⟨HS4.out.below HG.out.2 (by omega), by have := HG.out.2.size; omega, Below.refl _ _⟩
      have HSET := hid (fun W (h : HeldQ wr w.heap.size s W) => set_yes g1 _ ls1 k t ht W (HX1c.out.blk.below (HG.out.2.trans (h.2.2.mono HG.out.2.size)) (Nat.le_refl _)))
      have HMEET := hid (fun W => refmeet_any t s HTF.out HSF.out W)
      have HUN := hid (allUn_next (s := s) ht)
      have HIB := hid (inB_at (s := s) ht)
      have HCU : Hid (cuts s t = (!eqW (t.meet s) t && !eqW (t.meet s) noW)) := hid rfl
      have hil := inIdx_len ls1 s k
      have hsz4 := HG.out.2.size
      clear ht
      unfold W4.val at HSET HMEET
      generalize t.meet s = p at *
      go_wp2_with fail
      refine (CNT1.out _ HG.out.2).mono ?_
      rintro e w5 ⟨rfl, hw5⟩
      obtain rfl := hw5
      go_wp2_with fail
      refine Reg.wp_region_told (inTold g1 k t s p) [(6, 5, #[.int .u64 p.a, .int .u64 p.b, .int .u64 p.c, .int .u64 p.d])] [0, 1, 2, 3, 4, 5, 6] (by rfl) (by kernel_rfl) (by kernel_rfl) (by intro f hf f' hf' _; rw [List.mem_singleton.1 hf, List.mem_singleton.1 hf']) (by intro f hf f' hf' _; rw [List.mem_singleton.1 hf, List.mem_singleton.1 hf']) ?_ ?_
      focus
        refine ⟨Reg.opOK_plain (by rfl) fun G listed A wv hI hall => .inl ⟨Reg.wanted_none rfl, ?_⟩, ?_⟩
        focus
          have e5 := hI.evo (d := 5) (by kernel_rfl) rfl
          clear hI hall HSW
          unfold Reg.Yields
          go_simp
          exact Reg.good_val (by rfl) (by rfl) (Below.refl _ _)
        refine ⟨Reg.opOK_plain (by rfl) fun G listed A wv hI hall => .inl ⟨Reg.wanted_none rfl, ?_⟩, ?_⟩
        focus
          have e11 := hI.evo (d := 11) (by kernel_rfl) rfl
          clear hI hall HSW
          unfold Reg.Yields
          go_simp
          exact Reg.good_val (by rfl) (by rfl) (Below.refl _ _)
        refine ⟨Reg.opOK_plain (by rfl) fun G listed A wv hI hall => .inl ⟨Reg.wanted_none rfl, ?_⟩, ?_⟩
        focus
          have HQ := hid (heldQ_below hI.base (heldQ_drew HSW))
          have e36 := hI.ev (i := 0) (d := 36) (by rfl) (by rfl) (hall ⟨0, .data⟩ (by simp) rfl)
          have e37 := hI.ev (i := 1) (d := 37) (by rfl) (by rfl) (hall ⟨1, .data⟩ (by simp) rfl)
          clear hI hall HSW
          unfold Reg.Yields
          go_simp
          exact (HSET.out _ HQ.out).mono fun e w'' ⟨he, hb⟩ => ⟨_, he, Reg.good_val (by rfl) (by rfl) hb⟩
        refine ⟨Reg.opOK_plain (by rfl) fun G listed A wv hI hall => .inl ⟨Reg.wanted_none rfl, ?_⟩, ?_⟩
        focus
          have H := heldQ_below hI.base (heldQ_drew HSW)
          have e3 := hI.evo (d := 3) (by kernel_rfl) rfl
          clear hI hall HSW
          unfold Reg.Yields
          go_simp
          exact Reg.good_val (by rfl) (by rfl) (Below.refl _ _)
        refine ⟨Reg.opOK_plain (by rfl) fun G listed A wv hI hall => .inl ⟨Reg.wanted_none rfl, ?_⟩, ?_⟩
        focus
          have e38 := hI.ev (i := 2) (d := 38) (by rfl) (by rfl) (hall ⟨2, .data⟩ (by simp) rfl)
          have e39 := hI.ev (i := 3) (d := 39) (by rfl) (by rfl) (hall ⟨3, .data⟩ (by simp) rfl)
          clear hI hall HSW
          unfold Reg.Yields
          go_simp
          exact (HMEET.out _).mono fun e w'' ⟨he, hb⟩ => ⟨_, he, Reg.good_val (by rfl) (by rfl) hb⟩
        refine ⟨Reg.opOK_plain (by rfl) fun G listed A wv hI hall => .inl ⟨Reg.wanted_none rfl, ?_⟩, ?_⟩
        focus
          clear hI hall HSW
          unfold Reg.Yields
          go_simp
          exact Reg.good_new (by rfl) (by rfl) (by rfl)
        refine ⟨Reg.opOK_fill (by rfl) (by rfl) (by rfl) rfl rfl (by simp) (fun G listed A wv hI hall s12 hc => ?_) (by intro f hf f' hf' _; rw [List.mem_singleton.1 hf, List.mem_singleton.1 hf']), ?_⟩
        focus
          have e12 := s12
          have e40 := hI.ev (i := 4) (d := 40) (by rfl) (by rfl) (hall ⟨4, .data⟩ (by simp) rfl)
          clear hI hall HSW
          unfold Reg.Yields
          rcases hc with hc | hc <;> (obtain ⟨c0, c1, c2, c3, f0, f1, f2, f3⟩ := Reg.cells4 hc; have hc' := hid hc; clear hc s12; go_simp; exact Reg.filled4 hc'.out _ _ _ _)
        trivial
      intro G w6 hI
      obtain ⟨_, hG5, c5⟩ := hI.evm (i := 5) (d := 12) (by rfl) (by rfl) (by rfl)
      have b5 : w6.heap[G 5]? = some (.cells #[.int .u64 p.a, .int .u64 p.b, .int .u64 p.c, .int .u64 p.d] 35) := c5
      have HB6 : HeldB wr w.heap.size s (G 5) p w6 := ⟨heldQ_below hI.base (heldQ_drew HSW), ⟨Joins.cell_of_block b5 0, Joins.cell_of_block b5 1, Joins.cell_of_block b5 2, Joins.cell_of_block b5 3⟩, Reg.size_of_get b5⟩
      clear hI c5 hG5 HSW b5
      simp [Reg.finalTmps, Reg.dstAt, Reg.valOf, inTold]
      generalize G 5 = gm at *
      by_cases h1 : p = t
      · have HUN2 : Hid (allUn ls1 s (k + 1) = allUn ls1 s k) := hid (by rw [HUN.out, HCU.out, (eqW_iff p t).2 h1]; simp)
        have HIB2 : Hid (inB ls1 s k = true) := hid (by rw [HIB.out, (eqW_iff p t).2 h1])
        clear HUN HIB HCU
        subst h1
        go_wp2_with fail
        go_region_held3 (fun w' => HeldB wr w.heap.size s gm p w')
          (first | assumption | exact heldB_drew (by assumption) | exact heldB_below (by assumption) (by assumption))
          (first
            | (go_at_call 17; (with_reducible refine (HSET.out _ ?_).mono ?_); (exact (by assumption : HeldB wr w.heap.size s gm p _).1); rintro e w7 ⟨rfl, hb7⟩))
        have H7 : HeldB wr w.heap.size s gm p w7 := by assumption
        have HG7 := hid (HG.out.keep H7.1.2.2)
        have hsz7 := HG7.out.2.size
        clear H7 hb7
        go_wp2_with (at_builtin; go_must (refine wpList_append_own_at _ rfl (.tmp 46) (.tmp 48) 26 rfl w4.heap.size 3 i0 (.int .i64 0) 1 8 Tryd.underlying26 hif hy0 hy1 hy2 rfl (by decide) u10 (inIdx ls1 s k).length (nats (inIdx ls1 s k)) rfl (ownsAlloc HG7.out.1 _) ⟨_, 0, none⟩ 1 1 _ rfl rfl (cell_one_new _ _ _) (one_int _) (by unfold maxLen; omega) (by omega) (by simp; omega) ?_; intro v8 w8 ho hg8 _ _; have HG8 : Hid (GrowRel w4 (inIdx ls1 s (k + 1)) v8 w8) := hid (by rw [inIdx_yes HIB2.out]; exact HG7.out.add ho hg8); clear ho hg8))
        go_roundw
        case rel => exact ⟨k + 1, by omega, by go_num, hid ⟨by rw [HUN2.out], HG8.out⟩⟩
        case measure => simp [intOf]; omega
      · have hd := ne_words h1
        have he : (p.a == t.a && p.b == t.b && p.c == t.c && p.d == t.d) = false := by rw [← Bool.not_eq_true]; exact fun h => h1 ((eqW_iff p t).1 h)
        have e1 : eqW p t = false := by rw [← Bool.not_eq_true]; exact fun h => h1 ((eqW_iff p t).1 h)
        have HIB2 : Hid (inB ls1 s k = false) := hid (by rw [HIB.out]; exact e1)
        have HE1 := hid e1
        clear HIB e1 h1
        by_cases h2 : p = noW
        · have HUN2 : Hid (allUn ls1 s (k + 1) = allUn ls1 s k) := hid (by rw [HUN.out, HCU.out, HE1.out, (eqW_iff p noW).2 h2]; simp)
          have he2 : (p.a == 0 && p.b == 0 && p.c == 0 && p.d == 0) = true := by rw [h2]; rfl
          clear h2 HUN HCU HE1
          go_wp2_with fail
          go_region_held3 (fun w' => HeldB wr w.heap.size s gm p w')
            (first | assumption | exact heldB_drew (by assumption) | exact heldB_below (by assumption) (by assumption))
            (first
              | (go_at_call 17; (with_reducible refine (HSET.out _ ?_).mono ?_); (exact (by assumption : HeldB wr w.heap.size s gm p _).1); rintro e w7 ⟨rfl, hb7⟩))
          have H7 : HeldB wr w.heap.size s gm p w7 := by assumption
          have HG7 := hid (HG.out.keep H7.1.2.2)
          have hsz7 := HG7.out.2.size
          have HG8 : Hid (GrowRel w4 (inIdx ls1 s (k + 1)) u10 w7) := hid (by rw [inIdx_no HIB2.out]; exact HG7.out)
          obtain ⟨⟨_, _, _⟩, ⟨m0, m1, m2, m3⟩, hgm⟩ := H7
          clear hb7
          go_wp2_with fail
          go_roundw
          case rel => exact ⟨k + 1, by omega, by go_num, hid ⟨by rw [HUN2.out], HG8.out⟩⟩
          case measure => simp [intOf]; omega
        · have hd2 := ne_words h2
          have e2 : eqW p noW = false := by rw [← Bool.not_eq_true]; exact fun h => h2 ((eqW_iff p noW).1 h)
          have HUN2 : Hid (allUn ls1 s (k + 1) = false) := hid (by rw [HUN.out, HCU.out, HE1.out, e2]; simp)
          have HE2 : Hid ((p.a == 0 && p.b == 0 && p.c == 0 && p.d == 0) = false) := hid e2
          clear e2 h2 HUN HCU HE1
          unfold noW at hd2
          have he2 : (p.a == 0 && p.b == 0 && p.c == 0 && p.d == 0) = false := HE2.out
          go_wp2_with fail
          go_region_held3 (fun w' => HeldB wr w.heap.size s gm p w')
            (first | assumption | exact heldB_drew (by assumption) | exact heldB_below (by assumption) (by assumption))
            (first
              | (go_at_call 17; (with_reducible refine (HSET.out _ ?_).mono ?_); (exact (by assumption : HeldB wr w.heap.size s gm p _).1); rintro e w7 ⟨rfl, hb7⟩))
          have H7 : HeldB wr w.heap.size s gm p w7 := by assumption
          have HG7 := hid (HG.out.keep H7.1.2.2)
          have hsz7 := HG7.out.2.size
          have HG8 : Hid (GrowRel w4 (inIdx ls1 s (k + 1)) u10 w7) := hid (by rw [inIdx_no HIB2.out]; exact HG7.out)
          obtain ⟨⟨_, _, _⟩, ⟨m0, m1, m2, m3⟩, hgm⟩ := H7
          clear hb7
          go_wp2_with fail
          go_roundw
          case rel => exact ⟨k + 1, by omega, by go_num, hid ⟨by rw [HUN2.out], HG8.out⟩⟩
          case measure => simp [intOf]; omega
    · obtain rfl : k = ls1.length := by omega
      have hszr := HG.out.2.size
      obtain ⟨c0, c1, c2, c3⟩ := HS4.out.below HG.out.2 (by omega)
      have hwr : w.heap.size < wr.heap.size := by omega
      have HX2r := hid (HX2c.out.below HG.out.2 (Nat.le_refl _))
      have HBR := hid (HB4.out.trans (HG.out.2.mono (by omega)))
      have IN2 : Hid (Calls Tryd.prog 20 #[.pointer (some ⟨g2, 0, none⟩), .agg #[.int .u64 s.a, .int .u64 s.b, .int .u64 s.c, .int .u64 s.d]] wr fun e w' => ∃ v, e = .returned (.tuple #[v, .bool true]) ∧ Below wr.heap.size wr w') := hid ((in_any s HX2r.out).mono (by
        rintro e w' ⟨v, rfl, _, hb⟩
        exact ⟨v, by rw [HMC.out.1]; rfl, hb⟩))
      have hle : decide (ls1.length ≤ ls2.length) = true := decide_eq_true HMC.out.2.1
      have hEQ : (((ls2.length : Nat) : Int) == ((ls1.length : Nat) : Int)) = !ls1.any (cuts s) := by rw [← HMC.out.2.2, Bool.eq_iff_iff]; simp; omega
      have HEQ := hid hEQ
      have HVV := hid HV4.out
      have hil := inIdx_len ls1 s ls1.length
      clear hEQ
      rw [allUn_end]
      generalize ls1.any (cuts s) = c at *
      cases c
      · have HV5 : Hid (NatsAt w4 v4 (inIdx ls1 s ls1.length)) := hid HVV.out
        obtain ⟨pv, cv, rfl, hpv⟩ := HV5.out.in
        obtain ⟨pw, cw, rfl, hpw⟩ := HG.out.at.in
        have HPV := hid (hpv.below HG.out.2 (Nat.le_refl _))
        have HPW := hid hpw
        have heq : (((ls2.length : Nat) : Int) == ((ls1.length : Nat) : Int)) = true := HEQ.out
        clear hpv hpw HV4 HVV HV5 HI
        go_wp2_with fail
        refine (CNT1.out _ HG.out.2).mono ?_
        rintro e w9 ⟨rfl, hw9⟩
        obtain rfl := hw9
        go_wp2_with fail
        refine IN2.out.mono ?_
        rintro e w5 ⟨v5, rfl, hb5⟩
        have HB5 := hid (HBR.out.trans (hb5.mono (by omega)))
        have HG5 := hid (HG.out.2.trans (hb5.mono hszr))
        have SAME := hid (same_any pv pw cv cw _ _ w5 (HPV.out.below hb5 (Nat.le_refl _)) (HPW.out.below hb5 (Nat.le_refl _)) (by omega) (by omega))
        rw [decide_eq_true (rfl : inIdx ls1 s ls1.length = inIdx ls1 s ls1.length)] at SAME
        clear hb5 c0 c1 c2 c3
        go_wp2_with fail
        refine SAME.out.mono ?_
        rintro e w6 ⟨rfl, n6, hw6⟩
        have HD6 : Hid (Below w5.heap.size w5 w6) := hid (by rw [hw6]; exact ⟨rfl, rfl, rfl, Nat.le_refl _, fun _ _ => rfl⟩)
        have HG6 := hid (HG5.out.trans (HD6.out.mono HG5.out.size))
        have HB6 := hid (HB5.out.trans (HD6.out.mono HB5.out.size))
        have hsz6 := HB6.out.size
        clear hw6 SAME
        go_wp2_with fail
        refine (CNT2.out _ HG6.out).mono ?_
        rintro e w7 ⟨rfl, hw7⟩
        obtain rfl := hw7
        go_wp2_with fail
        refine (CNT1.out _ HG6.out).mono ?_
        rintro e w7 ⟨rfl, hw7⟩
        obtain rfl := hw7
        go_wp2_with fail
        refine (CNT2.out _ HG6.out).mono ?_
        rintro e w7 ⟨rfl, hw7⟩
        obtain rfl := hw7
        go_wp2_with fail
        refine (CNT1.out _ HG6.out).mono ?_
        rintro e w7 ⟨rfl, hw7⟩
        obtain rfl := hw7
        go_wp2_with fail
        refine (awakeB_any _ (fun w' hb' => HT.out _ (HB6.out.trans (hb'.mono hsz6)))).mono ?_
        rintro e w8 ⟨rfl, hb8⟩
        have HB8 := hid (HB6.out.trans (hb8.mono hsz6))
        clear hb8
        go_wp2_with fail
        go_ret
        exact ⟨rfl, HB8.out⟩
      · have HV5 : Hid (NatsAt w4 v4 []) := hid HVV.out
        obtain ⟨pv, cv, hv5, hpv⟩ := HV5.out.in
        have hv6 : v4 = .slice pv 0 cv := hv5
        clear hv5
        subst hv6
        have heq : (((ls2.length : Nat) : Int) == ((ls1.length : Nat) : Int)) = false := HEQ.out
        clear hpv HV4 HVV HV5 HI
        go_wp2_with fail
        refine (CNT1.out _ HG.out.2).mono ?_
        rintro e w9 ⟨rfl, hw9⟩
        obtain rfl := hw9
        go_wp2_with fail
        refine IN2.out.mono ?_
        rintro e w5 ⟨v5, rfl, hb5⟩
        have HB5 := hid (HBR.out.trans (hb5.mono (by omega)))
        have HG5 := hid (HG.out.2.trans (hb5.mono hszr))
        have SAME : Hid (Calls Tryd.prog 22 #[.slice pv 0 cv, .slice none 0 0] w5 fun e w' => e = .returned (.bool true) ∧ ∃ n, w' = w5.drewN n) := hid (same_any pv none cv 0 [] [] w5 (fun j n hj => by simp at hj) (fun j n hj => by simp at hj) (by simp) (by simp))
        clear hb5 c0 c1 c2 c3
        go_wp2_with fail
        refine SAME.out.mono ?_
        rintro e w6 ⟨rfl, n6, hw6⟩
        have HD6 : Hid (Below w5.heap.size w5 w6) := hid (by rw [hw6]; exact ⟨rfl, rfl, rfl, Nat.le_refl _, fun _ _ => rfl⟩)
        have HG6 := hid (HG5.out.trans (HD6.out.mono HG5.out.size))
        have HB6 := hid (HB5.out.trans (HD6.out.mono HB5.out.size))
        have hsz6 := HB6.out.size
        clear hw6 SAME
        go_wp2_with fail
        refine (CNT2.out _ HG6.out).mono ?_
        rintro e w7 ⟨rfl, hw7⟩
        obtain rfl := hw7
        go_wp2_with fail
        refine (CNT1.out _ HG6.out).mono ?_
        rintro e w7 ⟨rfl, hw7⟩
        obtain rfl := hw7
        go_wp2_with fail
        refine (CNT2.out _ HG6.out).mono ?_
        rintro e w7 ⟨rfl, hw7⟩
        obtain rfl := hw7
        go_wp2_with fail
        refine (CNT1.out _ HG6.out).mono ?_
        rintro e w7 ⟨rfl, hw7⟩
        obtain rfl := hw7
        go_wp2_with fail
        refine (awakeB_any _ (fun w' hb' => HT.out _ (HB6.out.trans (hb'.mono hsz6)))).mono ?_
        rintro e w8 ⟨rfl, hb8⟩
        have HB8 := hid (HB6.out.trans (hb8.mono hsz6))
        clear hb8
        go_wp2_with fail
        go_ret
        exact ⟨rfl, HB8.out⟩
theorem inlaw_all {v : Value} {w : World} (h : ∃ p n c L, v = .slice p n c ∧ SetsRow w p n L ∧ (p = none → c = 0)) (s : W4) (hs : s.fit) (hT : ∀ w', Below w.heap.size w w' → Tab w') :
    Calls Tryd.prog 4 #[v, .agg #[.int .u64 s.a, .int .u64 s.b, .int .u64 s.c, .int .u64 s.d]] w fun e w' => e = .returned (.bool true) ∧ Below w.heap.size w w' := by
  obtain ⟨p, n, c, L, rfl, hR, hp⟩ := h
  by_cases hn : 20 < n
  · exact inlaw_big p n c s w hn hT
  · exact inlaw_small p n c L s w (by omega) hR hs hT
end Go.Proofs.YtkjbecdngjdkhaaDoor
