/- Tokens in a slice; the document's example; the law TokenLong, walked. The law TokenLong, walked. -/
import Derived.Test.YtenibhmjcafbiaaGreatDoorTokW
import Derived.Test.YtenibhmjcafbiaaGreatDoorRowU8
import Derived.Laws.OwnMore
namespace Go.Proofs.YtenibhmjcafbiaaGreatDoor
section
open Go Go.RowKit
attribute [local go_sem ↓] Go.wp_at_zero Go.wp_at_succ
attribute [local go_sem] eq4
/-- Tokens lie in a slice. -/
def TokAt (w : World) (v : Value) (l : List (TokM × Nat × Nat)) : Prop :=
  ∃ p cap, v = .slice p l.length cap ∧ ∀ i x, l[i]? = some x → ∃ g, p = some ⟨g, 0, none⟩ ∧ g < w.heap.size ∧ ∀ o u, (tcells x)[o]? = some u → w.cell? ⟨g, i * 10 + o, none⟩ = some u
theorem TokAt.below {w w' : World} {v : Value} {l : List (TokM × Nat × Nat)} (h : TokAt w v l) (hb : Below w.heap.size w w') : TokAt w' v l := by
  obtain ⟨p, cap, hv, hc⟩ := h
  refine ⟨p, cap, hv, fun i x hi => ?_⟩
  obtain ⟨g, hp, hg, hcell⟩ := hc i x hi
  exact ⟨g, hp, Nat.lt_of_lt_of_le hg hb.size, fun o u ho => (hb.cell (p := ⟨g, i * 10 + o, none⟩) hg).trans (hcell o u ho)⟩
theorem flatT_get : ∀ (l : List (TokM × Nat × Nat)) (i o : Nat) (x : TokM × Nat × Nat) (u : Value), l[i]? = some x → (tcells x)[o]? = some u → (flatT l)[i * 10 + o]? = some u := by
  intro l
  induction l with
  | nil => intro i o x u h; simp at h
  | cons y l ih =>
    intro i o x u h hu
    have e : flatT (y :: l) = tcells y ++ flatT l := rfl
    have hl : (tcells y).length = 10 := rfl
    have ho : o < 10 := (List.getElem?_eq_some_iff.1 hu).1
    rw [e]
    cases i with
    | zero =>
      obtain rfl : y = x := by simpa using h
      rw [List.getElem?_append_left (by omega), Nat.zero_mul, Nat.zero_add]; exact hu
    | succ i =>
      rw [List.getElem?_append_right (by omega), show (i + 1) * 10 + o - (tcells y).length = i * 10 + o by omega]
      exact ih i o x u (by simpa using h) hu
theorem TokGrow.at {B : Nat} {l : List (TokM × Nat × Nat)} {v : Value} {w : World} (h : TokGrow B l v w) : TokAt w v l := by
  rcases h.2 with ⟨rfl, h2⟩ | ⟨g, cap, cur, rfl, hb, hh, hcap, hmax, hcs, htake⟩
  · refine ⟨none, 0, by rw [h2], fun i x hi => ?_⟩
    rw [List.length_eq_zero_iff.1 h2] at hi; simp at hi
  · refine ⟨_, cap, rfl, fun i x hi => ⟨g, rfl, (Array.getElem?_eq_some_iff.1 hh).1, fun o u hu => ?_⟩⟩
    have hox := flatT_get l i o x u hi hu
    rw [Joins.cell_of_block hh, ← Array.getElem?_toList]
    rw [← htake] at hox
    obtain ⟨hl, _⟩ := List.getElem?_eq_some_iff.1 hox
    rw [List.getElem?_take_of_lt (by rw [List.length_take] at hl; omega)] at hox
    exact hox
/-- .. what Scan answers, told by the tokens. -/
theorem scan_all (s : ByteArray) (hs : s.size ≤ 1048576) (w : World) (hT : Tab w) :
    Calls Tryz.prog 21 #[.string s] w fun e w' => ∃ v, e = .returned (.tuple #[v, .int .i64 (scanN (scanAll s)), .int .i64 (scanAll s).2.1]) ∧ TokAt w' v (scanAll s).1 ∧ Below w.heap.size w w' :=
  (tscan_any s hs w hT).mono fun _ _ ⟨v, he, hg, hb⟩ => ⟨v, he, hg.at, hb⟩
theorem awake_is : scanAll ⟨#[97, 123, 50, 44, 125, 63]⟩ = ([(⟨0, oneW 97, 0, 0, false⟩, 0, 1), (⟨5, noW, 2, -1, true⟩, 1, 6)], 0, 6) := by kernel_rfl
theorem scan_long (s : ByteArray) (hs : 1048576 < s.size) (hs2 : s.size ≤ 1099511627776) (w : World) :
    Calls Tryz.prog 21 #[.string s] w fun e w' => e = .returned (.tuple #[.slice none 0 0, .int .i64 0, .int .i64 3]) ∧ w' = w := by
  have dl : decide ((1048576 : Int) < (s.size : Int)) = true := decide_eq_true (by omega)
  go_enter Tryz.func21, Tryz.ntmps21
  go_wp2_with fail
  exact bodyPost_ret (v := .tuple #[.slice none 0 0, .int .i64 0, .int .i64 3]) (by simp [results, Tryz.results21, go_sem]) rfl ⟨rfl, rfl⟩
end
section
open Go Go.RowKit
attribute [local go_sem ↓] Go.wp_at_zero Go.wp_at_succ
attribute [local go_sem] eq4
theorem mk_bytesN (n : Nat) (hn : n ≤ 2000000) (w : World) : ∃ w', (Instr.makeSlice 60 (.int .i64 (n : Int)) (.int .i64 (n : Int))).run Tryz.prog w = .ok (.slice (some ⟨w.heap.size, 0, none⟩) n n) w' ∧
      w'.ownsRow w.heap.size 5 1 (.slice (some ⟨w.heap.size, 0, none⟩) n n) n (vals (List.replicate n 0)) ∧ w.grownBy w' none := by
  obtain ⟨i0, hi, hz0, hz1, hz2⟩ := info_parts Tryz.infoU8
  obtain ⟨w', h1, h2, h3⟩ := run_make_full (P := Tryz.prog) w w.heap.size 60 5 i0 _ 1 Tryz.underlying60 hi hz0 hz1 .i64 .i64 n (by rw [hz2]; omega) (by unfold maxLen; omega) (Nat.le_refl _)
  refine ⟨w', h1, ?_, h3⟩
  have e : (madeCells (Value.int .u8 0).cells (n * 1)).toList = vals (List.replicate n 0) := by
    rw [Nat.mul_one]
    show (madeCells #[.int .u8 0] n).toList = _
    rw [toList_madeCells_one]
    unfold vals
    rw [List.map_replicate]
  rw [← e]; exact h2
end
end Go.Proofs.YtenibhmjcafbiaaGreatDoor
