/- Contracts of quote's reference: Read. -/
import Derived.Test.YtglbhmhkeegpdaaDoorReadF
namespace Go.Proofs.YtglbhmhkeegpdaaDoor
open Go Go.RowKit
attribute [local go_sem ↓] Go.wp_at_zero Go.wp_at_succ
theorem qw_qn (b : Nat) : qw b = ni (qn b) := by
  have hd : ∀ n, digit n = ((dn n : Nat) : Int) := by
    intro n; unfold digit dn; split <;> omega
  unfold qw qn ni
  split
  · simp [hd]
  · split
    · rfl
    · rfl
theorem nums_str {l : List Nat} (h : ∀ x ∈ l, x < 256) : nums (strOfNums (ni l)) = l := by
  unfold nums
  rw [strOfNums_data]
  unfold ni
  rw [List.map_map, List.map_map]
  conv => rhs; rw [← List.map_id l]
  apply List.map_congr_left
  intro x hx
  have := h x hx
  simp [UInt8.toNat_ofNat']
  omega
theorem qn_lt {b : Nat} (hb : b < 256) : ∀ x ∈ qn b, x < 256 := by
  have hall : ∀ n : Fin 256, ∀ x ∈ qn n.val, x < 256 := by decide +kernel
  exact hall ⟨b, hb⟩
theorem nums_qw {b : Nat} (hb : b < 256) : nums (strOfNums (qw b)) = qn b := by rw [qw_qn, nums_str (qn_lt hb)]
theorem qn_le (b : Nat) : (qn b).length ≤ 4 := by
  rcases qn_cases b with ⟨_, q⟩ | ⟨_, q⟩ | ⟨_, _, q⟩ <;> rw [q] <;> simp
/-- The word of byte b, as a string: told of by what it is. -/
structure OneIs (b : Nat) (x : ByteArray) : Prop where
  ns : nums x = qn b
  sz : x.size = (qn b).length
theorem one_is {b : Nat} (hb : b < 256) : OneIs b (strOfNums (qw b)) := ⟨nums_qw hb, by rw [← nums_len, nums_qw hb]⟩
theorem agree_at {s x : ByteArray} {b k n : Nat} (h : OneIs b x) (h1 : n < x.size) (h2 : k + n < s.size) : Agree (qn b) ((nums s).drop k) n ↔ (s[k + n]'h2).toNat = (x[n]'h1).toNat := by
  have e1 := nums_at x n h1
  have e2 := nums_at s (k + n) h2
  rw [h.ns] at e1
  unfold Agree
  rw [List.getElem?_drop, e1, e2]
  constructor
  · rintro ⟨y, a, c⟩
    injection a with a
    injection c with c
    rw [a, c]
  · intro e
    exact ⟨_, rfl, by rw [e]⟩
theorem agree_in {s x : ByteArray} {b k n : Nat} (h : OneIs b x) (ha : Agree (qn b) ((nums s).drop k) n) : n < x.size ∧ k + n < s.size := by
  obtain ⟨y, a, c⟩ := ha
  obtain ⟨a1, _⟩ := List.getElem?_eq_some_iff.1 a
  rw [List.getElem?_drop] at c
  obtain ⟨c1, _⟩ := List.getElem?_eq_some_iff.1 c
  rw [nums_len] at c1
  rw [h.sz]
  exact ⟨a1, c1⟩
/-- What holds at the head of a round of the outer loop. -/
structure Outer (w : World) (s : ByteArray) (k : Nat) (acc : List Nat) (wr : World) : Prop where
  le : k ≤ s.size
  on : acc.length ≤ k
  be : Below w.heap.size w wr
  go : k < s.size → wordF (nums s) (s.size + 1) 0 [] = wordF (nums s) (s.size + 1) k acc
  en : k = s.size → 0 < s.size → wordF (nums s) (s.size + 1) 0 [] = (some acc, s.size)
/-- A word and a text agree so far. -/
structure AgreeTo (s x : ByteArray) (b k m : Nat) : Prop where
  le1 : m ≤ x.size
  le2 : k + m ≤ s.size
  ag : ∀ i, i < m → Agree (qn b) ((nums s).drop k) i
theorem max_cast (f m : Nat) : (if f < m then (m : Int) else (f : Int)) = ((max f m : Nat) : Int) := by split <;> omega
theorem lcp_le (a : List Nat) : ∀ d, lcp a d ≤ a.length := by
  induction a with
  | nil => intro d; simp [lcp]
  | cons x xs ih =>
    intro d
    match d with
    | [] => simp [lcp]
    | y :: ys =>
      unfold lcp
      split
      · have := ih ys; simp; omega
      · simp
theorem far_le {d : List Nat} {n : Nat} (h : FarIs d n) : n ≤ 4 := by
  obtain ⟨_, b, _, h2⟩ := h
  have := lcp_le (qn b) d
  have := qn_le b
  omega
theorem below_one {w wr w2 : World} {o : Obj} (h : Below w.heap.size w wr) (h2 : Below (wr.alloc o).heap.size (wr.alloc o) w2) : Below w.heap.size w w2 :=
  (h.alloc h.size o).trans (h2.mono (by have := h.size; simp; omega))
theorem AgreeTo.next {s x : ByteArray} {b k m : Nat} (h : AgreeTo s x b k m) (hx : OneIs b x) (h1 : m < x.size) (h2 : k + m < s.size) (h3 : (s[k + m]'h2).toNat = (x[m]'h1).toNat) : AgreeTo s x b k (m + 1) :=
  ⟨by omega, by omega, fun i hi => by
    by_cases e : i = m
    · subst e; exact (agree_at hx h1 h2).2 h3
    · exact h.ag i (by omega)⟩
/-- What the reference's Read answers, and leaves. -/
def RefTo (w : World) (o : Option (List Nat) × Nat) (e : Ending) (w' : World) : Prop :=
  (match o.1 with
  | none => e = .returned (.tuple #[.string ⟨#[]⟩, .int .i64 (o.2 : Int)])
  | some l => e = .returned (.tuple #[.string (strOfNums (ni l)), .int .i64 (-1)])) ∧ Below w.heap.size w w'
end Go.Proofs.YtglbhmhkeegpdaaDoor
