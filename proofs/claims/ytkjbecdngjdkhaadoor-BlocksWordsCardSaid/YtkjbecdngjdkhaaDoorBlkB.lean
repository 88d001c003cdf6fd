/- Contracts of blocks: cut. -/
import Derived.Test.YtkjbecdngjdkhaaDoorBlkA
namespace Go.Proofs.YtkjbecdngjdkhaaDoor
open Go Go.RowKit
attribute [local go_sem ↓] Go.wp_at_zero Go.wp_at_succ
attribute [local go_sem] eq4
def W4.meet (t s : W4) : W4 := ⟨an t.a s.a, an t.b s.b, an t.c s.c, an t.d s.d⟩
def eqW (s t : W4) : Bool := s.a == t.a && s.b == t.b && s.c == t.c && s.d == t.d
/-- Has a set of a block neither all nor nothing? -/
def cuts (s t : W4) : Bool := !eqW (t.meet s) t && !eqW (t.meet s) noW
theorem eqW_iff (s t : W4) : eqW s t = true ↔ s = t := by
  obtain ⟨a, b, c, d⟩ := s
  obtain ⟨x, y, z, u⟩ := t
  simp [eqW, and_assoc]
theorem meet_fit (t s : W4) : (t.meet s).fit := ⟨an_fit _ _, an_fit _ _, an_fit _ _, an_fit _ _⟩
theorem mem_meet (t s : W4) (n : Nat) : (t.meet s).mem n = (t.mem n && s.mem n) := memb_an _ _ _ _ _ _ _ _ n
theorem meetW (t s : W4) (w : World) :
    Calls Tryd.prog 64 #[.agg #[.int .u64 t.a, .int .u64 t.b, .int .u64 t.c, .int .u64 t.d], .agg #[.int .u64 s.a, .int .u64 s.b, .int .u64 s.c, .int .u64 s.d]] w fun e w' => e = .returned (.agg #[.int .u64 (t.meet s).a, .int .u64 (t.meet s).b, .int .u64 (t.meet s).c, .int .u64 (t.meet s).d]) ∧ Below w.heap.size w w' := meet_any _ _ _ _ _ _ _ _ w
theorem any_take {α : Type} (l : List α) (p : α → Bool) (k : Nat) (x : α) (h : l[k]? = some x) : (l.take (k + 1)).any p = ((l.take k).any p || p x) := by
  rw [List.take_add_one, h, List.any_append]; simp
theorem ne_words {p t : W4} (h : p ≠ t) : ((¬ p.a = t.a ∨ ¬ p.b = t.b) ∨ ¬ p.c = t.c) ∨ ¬ p.d = t.d := by
  obtain ⟨a, b, c, d⟩ := p
  obtain ⟨x, y, z, u⟩ := t
  by_cases h1 : a = x
  · by_cases h2 : b = y
    · by_cases h3 : c = z
      · right; intro h4; exact h (by simp at h4; rw [h1, h2, h3, h4])
      · exact .inl (.inr h3)
    · exact .inl (.inl (.inr h2))
  · exact .inl (.inl (.inl h1))
set_option maxRecDepth 100000 in
set_option maxHeartbeats 2000000 in
theorem cut_any (g : Nat) (of : Nat → Nat) (l : List W4) (s : W4) (w : World) (h : BlkAt w g of l) :
    Calls Tryd.prog 38 #[.pointer (some ⟨g, 0, none⟩), .agg #[.int .u64 s.a, .int .u64 s.b, .int .u64 s.c, .int .u64 s.d]] w fun e w' => e = .returned (.bool (l.any (cuts s))) ∧ Below w.heap.size w w' := by
  have hlt := h.lt
  have hlen := h.small
  obtain ⟨k0, cap, hr, hk0, hs⟩ := h.row
  have HS := hid hs
  clear h hs
  have hb1 := below1 w (.cells #[.int .u64 s.a, .int .u64 s.b, .int .u64 s.c, .int .u64 s.d] 35)
  have HB0 := hid hb1
  have HSET : Hid (SetAt (w.alloc (.cells #[.int .u64 s.a, .int .u64 s.b, .int .u64 s.c, .int .u64 s.d] 35)) w.heap.size 0 s) := hid (by
    refine ⟨?_, ?_, ?_, ?_⟩ <;> simp [go_sem])
  clear hb1
  go_enter Tryd.func38, Tryd.ntmps38
  go_wp2_with fail
  go_loopw [13] (fun i wr => ∃ k : Nat, k ≤ l.length ∧ i = .int .i64 k ∧ Hid ((l.take k).any (cuts s) = false) ∧ SetAt wr w.heap.size 0 s ∧ Below w.heap.size w wr ∧ w.heap.size < wr.heap.size) (fun i _ => l.length - (intOf i).toNat)
  case atStart => exact ⟨0, by omega, rfl, rfl, HSET.out, HB0.out, by simp⟩
  case round =>
    obtain ⟨k, hk, rfl, HN, hset, hbe, hsz⟩ := hrel
    have HBE := hid hbe
    have HST := hid hset
    obtain ⟨e0, e1, e2, e3⟩ := hset
    by_cases hlk : k < l.length
    · obtain ⟨t, ht⟩ : ∃ t, l[k]? = some t := ⟨_, List.getElem?_eq_getElem hlk⟩
      obtain ⟨c0, c1, c2, c3⟩ := (HS.out k t ht).below hbe hk0
      have hk0r : k0 < wr.heap.size := Nat.lt_of_lt_of_le hk0 hbe.size
      have HNX := hid (any_take l (cuts s) k t ht)
      have HM := hid (fun W => meetW t s W)
      have HC : Hid (cuts s t = (!eqW (t.meet s) t && !eqW (t.meet s) noW)) := hid rfl
      generalize t.meet s = p at *
      have HBR : Hid (∀ W, Below (wr.heap.size + 1) (wr.alloc (.cells #[.int .u64 t.a, .int .u64 t.b, .int .u64 t.c, .int .u64 t.d] 35)) W → SetAt W w.heap.size 0 s ∧ Below w.heap.size w W ∧ w.heap.size < W.heap.size) := hid (fun W hW => by
        have h1 : Below (w.heap.size + 1) wr W := ((Below.refl _ wr).alloc (by omega) _).trans (hW.mono (by omega))
        refine ⟨HST.out.below h1 (by omega), HBE.out.trans (h1.mono (by omega)), ?_⟩
        have := hW.size; simp at this; omega)
      clear hbe ht
      by_cases h1 : p = t
      · have hno : Hid (cuts s t = false) := hid (by rw [HC.out, (eqW_iff p t).2 h1]; rfl)
        subst h1
        go_wp2_with fail
        refine (HM.out _).mono ?_
        rintro e w1 ⟨rfl, hb⟩
        obtain ⟨hc, hf, hz⟩ := bcell hb
        have hz' : wr.heap.size < w1.heap.size := by simp at hz; omega
        have HB1 := hid hb
        clear hb
        go_wp2_with fail
        have R := HBR.out _ (by have := (HB1.out).alloc (Nat.le_trans (Nat.le_refl _) HB1.out.size) (.cells #[.int .u64 p.a, .int .u64 p.b, .int .u64 p.c, .int .u64 p.d] 35); simpa using this)
        exact ⟨⟨k + 1, by omega, by go_num, hid (by rw [HNX.out, HN.out, hno.out]; rfl), R.1, R.2.1, R.2.2⟩, by simp [intOf]; omega⟩
      · have hd : ((¬ p.a = t.a ∨ ¬ p.b = t.b) ∨ ¬ p.c = t.c) ∨ ¬ p.d = t.d := ne_words h1
        have E1 : Hid (eqW p t = false) := hid (by rw [← Bool.not_eq_true]; exact fun h => h1 ((eqW_iff p t).1 h))
        by_cases h2 : p = noW
        · have hno : Hid (cuts s t = false) := hid (by rw [HC.out, (eqW_iff p noW).2 h2]; simp)
          subst h2
          dsimp only [noW] at HM hd
          clear h1
          go_wp2_with fail
          refine (HM.out _).mono ?_
          rintro e w1 ⟨rfl, hb⟩
          obtain ⟨hc, hf, hz⟩ := bcell hb
          have hz' : wr.heap.size < w1.heap.size := by simp at hz; omega
          have HB1 := hid hb
          clear hb
          go_wp2_with fail
          have R := HBR.out _ (by have := (HB1.out).alloc (Nat.le_trans (Nat.le_refl _) HB1.out.size) (.cells #[.int .u64 0, .int .u64 0, .int .u64 0, .int .u64 0] 35); simpa using this)
          exact ⟨⟨k + 1, by omega, by go_num, hid (by rw [HNX.out, HN.out, hno.out]; rfl), R.1, R.2.1, R.2.2⟩, by simp [intOf]; omega⟩
        · have hd2 : ((¬ p.a = 0 ∨ ¬ p.b = 0) ∨ ¬ p.c = 0) ∨ ¬ p.d = 0 := ne_words (t := noW) h2
          have hyes : Hid (cuts s t = true) := hid (by
            have E2 : eqW p noW = false := by rw [← Bool.not_eq_true]; exact fun h => h2 ((eqW_iff p noW).1 h)
            rw [HC.out, E1.out, E2]; rfl)
          have hall : Hid (l.any (cuts s) = true) := hid (by
            have h3 := HNX.out
            rw [hyes.out, Bool.or_true] at h3
            obtain ⟨x, hx1, hx2⟩ := List.any_eq_true.1 h3
            exact List.any_eq_true.2 ⟨x, List.mem_of_mem_take hx1, hx2⟩)
          have H1 := hid h1
          have H2 := hid h2
          clear h1 h2
          go_wp2_with fail
          refine (HM.out _).mono ?_
          rintro e w1 ⟨rfl, hb⟩
          obtain ⟨hc, hf, hz⟩ := bcell hb
          have hz' : wr.heap.size < w1.heap.size := by simp at hz; omega
          have HB1 := hid hb
          clear hb
          go_wp2_with fail
          rotate_left
          · exfalso
            rename_i hbad
            rcases hbad with hb | hb
            · exact H1.out ((eqW_iff p t).1 (by unfold eqW; simpa [and_assoc] using hb))
            · exact H2.out ((eqW_iff p noW).1 (by unfold eqW noW; simpa [and_assoc] using hb))
          go_ret
          refine ⟨by rw [hall.out]; rfl, ?_⟩
          exact (HBR.out _ (by have := (HB1.out).alloc (Nat.le_trans (Nat.le_refl _) HB1.out.size) (.cells #[.int .u64 p.a, .int .u64 p.b, .int .u64 p.c, .int .u64 p.d] 35); simpa using this)).2.1
    · have hkl : k = l.length := by omega
      have hall : Hid (l.any (cuts s) = false) := hid (by have := HN.out; rw [hkl, List.take_length] at this; exact this)
      go_wp2_with fail
      go_ret
      exact ⟨by rw [hall.out]; rfl, HBE.out⟩
end Go.Proofs.YtkjbecdngjdkhaaDoor
