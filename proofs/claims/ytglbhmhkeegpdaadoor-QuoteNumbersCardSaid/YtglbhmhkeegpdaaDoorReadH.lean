/- There and back: a word's bytes are those that were written; the laws QuoteWrites and QuoteReads walked. -/
import Derived.Test.YtglbhmhkeegpdaaDoorReadG
namespace Go.Proofs.YtglbhmhkeegpdaaDoor
open Go Go.RowKit
attribute [local go_sem ↓] Go.wp_at_zero Go.wp_at_succ
def qnl (l : List Nat) : List Nat := l.flatMap qn
theorem qnl_app (a b : List Nat) : qnl (a ++ b) = qnl a ++ qnl b := by simp [qnl]
theorem qnl_one (b : Nat) : qnl [b] = qn b := by simp [qnl]
theorem qnl_cons (b : Nat) (l : List Nat) : qnl (b :: l) = qn b ++ qnl l := rfl
theorem qws_ni (l : List Nat) : qws l = ni (qnl l) := by
  induction l with
  | nil => rfl
  | cons b l ih =>
    show qw b ++ qws l = _
    rw [ih, qnl_cons, qw_qn]
    simp [ni]
theorem qnl_lt {l : List Nat} (h : ∀ b ∈ l, b < 256) : ∀ x ∈ qnl l, x < 256 := by
  intro x hx
  obtain ⟨b, hb, hx2⟩ := List.mem_flatMap.1 hx
  exact qn_lt (h b hb) x hx2
theorem nums_lt (s : ByteArray) : ∀ b ∈ nums s, b < 256 := by
  intro b hb
  obtain ⟨u, _, rfl⟩ := List.mem_map.1 hb
  exact u.toNat_lt
theorem read_back {l : List Nat} : ∀ (rest acc : List Nat) (n : Nat), rest ≠ [] → (∀ b ∈ rest, b < 256) → l = qnl (acc ++ rest) → rest.length ≤ n → wordF l n (qnl acc).length acc = (some (acc ++ rest), l.length) := by
  intro rest
  induction rest with
  | nil => intro acc n h; exact absurd rfl h
  | cons b r ih =>
    intro acc n _ hb hl hn
    match n, hn with
    | n + 1, hn =>
      have hd : l.drop (qnl acc).length = qn b ++ qnl r := by rw [hl, qnl_app, qnl_cons, List.drop_left]
      have ho := one_complete (hb b (List.mem_cons_self ..)) hd
      have e1 : qnl (acc ++ [b]) = qnl acc ++ qn b := by rw [qnl_app, qnl_one]
      have e2 : (qnl acc).length + (qn b).length = (qnl (acc ++ [b])).length := by rw [e1, List.length_append]
      have e3 : acc ++ b :: r = (acc ++ [b]) ++ r := by simp
      have hlen : l.length = (qnl (acc ++ [b])).length + (qnl r).length := by rw [hl, e3, qnl_app, List.length_append]
      rw [wordF, ho]
      dsimp only
      rw [e2]
      match r, ih, hb, hlen, e3, hl with
      | [], _, _, hlen, _, hl =>
        have : (qnl ([] : List Nat)).length = 0 := rfl
        rw [if_pos (by omega), hl]
      | c :: r, ih, hb, hlen, e3, hl =>
        have hp := qn_pos c
        have e4 : (qnl (c :: r)).length = (qn c).length + (qnl r).length := by rw [qnl_cons, List.length_append]
        rw [if_neg (by omega), e3]
        exact ih (acc ++ [b]) n (by simp) (fun x hx => hb x (List.mem_cons_of_mem _ hx)) (by rw [hl, e3]) (by simpa using hn)
theorem no_empty {l : List Nat} (h : l ≠ []) : [92, 101].isPrefixOf (qnl l) = false := by
  match l, h with
  | b :: r, _ =>
    rw [qnl_cons]
    rcases qn_cases b with ⟨_, q⟩ | ⟨_, q⟩ | ⟨_, h2, q⟩
    · rw [q]; rfl
    · rw [q]; rfl
    · rw [q]
      have : (92 == b) = false := beq_eq_false_iff_ne.2 (fun e => h2 e.symm)
      simp [List.isPrefixOf, this]
theorem qnl_long (l : List Nat) : l.length ≤ (qnl l).length := by
  induction l with
  | nil => simp
  | cons b l ih =>
    have := qn_pos b
    rw [qnl_cons, List.length_append, List.length_cons]; omega
/-- The word of bytes. -/
def wordS (s : ByteArray) : ByteArray := if s.size = 0 then ⟨#[92, 101]⟩ else strOfNums (qws (nums s))
theorem nums_ne {s : ByteArray} (h : s.size ≠ 0) : nums s ≠ [] := fun e => h (by rw [← nums_len, e]; rfl)
theorem nums_wordS {s : ByteArray} (h : s.size ≠ 0) : nums (wordS s) = qnl (nums s) := by
  unfold wordS
  rw [if_neg h, qws_ni, nums_str (qnl_lt (nums_lt s))]
theorem size_wordS (s : ByteArray) : (wordS s).size ≤ 4 * s.size + 2 := by
  unfold wordS
  split
  · show 2 ≤ _; omega
  · rw [strOfNums_size]; have := qws_le (nums s); rw [nums_len] at this; omega
theorem there (s : ByteArray) : ∃ k, wordR (nums (wordS s)) = (some (nums s), k) := by
  by_cases h : s.size = 0
  · have e : nums s = [] := List.length_eq_zero_iff.1 (by rw [nums_len]; exact h)
    refine ⟨2, ?_⟩
    rw [e]
    unfold wordS
    rw [if_pos h]
    rfl
  · refine ⟨(nums (wordS s)).length, ?_⟩
    have hw := nums_wordS h
    unfold wordR
    rw [hw, no_empty (nums_ne h), if_neg (by decide)]
    have := read_back (l := qnl (nums s)) (nums s) [] ((qnl (nums s)).length + 1) (nums_ne h) (nums_lt s) rfl (by have := qnl_long (nums s); omega)
    exact this
theorem back {l : List Nat} : ∀ (n k : Nat) (acc r : List Nat) (k' : Nat), wordF l n k acc = (some r, k') → l.take k = qnl acc → (∀ b ∈ acc, b < 256) → l = qnl r ∧ (∀ b ∈ r, b < 256) ∧ r ≠ [] := by
  intro n
  induction n with
  | zero => intro k acc r k' h; unfold wordF at h; cases h
  | succ n ih =>
    intro k acc r k' h ht hb
    rw [wordF] at h
    rcases ho : oneF l k with ⟨_ | b, j⟩
    · rw [ho] at h; cases h
    · rw [ho] at h
      dsimp only at h
      obtain ⟨h1, h2, h3⟩ := one_sound ho
      have hon := one_on ho
      have htk : l.take j = qnl (acc ++ [b]) := by
        have e : l = l.take k ++ (qn b ++ l.drop j) := by rw [← h3, List.take_append_drop]
        have hk : (l.take k).length = k := by rw [List.length_take]; omega
        rw [qnl_app, qnl_one, ← ht]
        conv => lhs; rw [e]
        rw [← List.append_assoc, List.take_append_of_le_length (by rw [List.length_append, hk]; omega), List.take_of_length_le (by rw [List.length_append, hk]; omega)]
      have hb2 : ∀ x ∈ acc ++ [b], x < 256 := by
        intro x hx
        rcases List.mem_append.1 hx with h | h
        · exact hb x h
        · rw [List.mem_singleton.1 h]; exact h1
      split at h
      · rename_i hj
        injection h with h4 h5
        injection h4 with h4
        subst h4
        refine ⟨?_, hb2, by simp⟩
        rw [← htk, List.take_of_length_le (by omega)]
      · exact ih j _ r k' h htk hb2
theorem back_all {s : ByteArray} {r : List Nat} {k : Nat} (h : wordR (nums s) = (some r, k)) : wordS (strOfNums (ni r)) = s ∧ nums (strOfNums (ni r)) = r := by
  unfold wordR at h
  split at h
  · rename_i hp
    split at h
    · rename_i h2
      injection h with h4 h5
      injection h4 with h4
      subst h4
      refine ⟨?_, rfl⟩
      obtain ⟨t, ht⟩ := List.isPrefixOf_iff_prefix.1 hp
      have hl := congrArg List.length ht
      rw [List.length_append, h2] at hl
      have ht2 : t = [] := List.length_eq_zero_iff.1 (by simpa using hl)
      rw [ht2, List.append_nil] at ht
      exact nums_inj ht
    · cases h
  · obtain ⟨h1, h2, h3⟩ := back _ _ _ _ _ h rfl (by simp)
    have h4 := nums_str h2
    refine ⟨nums_inj ?_, h4⟩
    have h5 : (strOfNums (ni r)).size ≠ 0 := by
      rw [strOfNums_size, ni_len]
      intro e; exact h3 (List.length_eq_zero_iff.1 e)
    rw [nums_wordS h5, h4, ← h1]
theorem str_nums (s : ByteArray) : strOfNums (ni (nums s)) = s := nums_inj (nums_str (nums_lt s))
theorem write_all (s : ByteArray) (hn : s.size ≤ 1099511627776) (w : World) :
    Calls Tryd.prog 31 #[.string s] w fun e w' => e = .returned (.string (wordS s)) ∧ Below w.heap.size w w' := by
  have e : s.toList.isEmpty = decide (s.size = 0) := by
    rw [ByteArray.toList_eq, Bool.eq_iff_iff, List.isEmpty_iff, decide_eq_true_iff]
    constructor
    · intro h; rw [← nums_len]; unfold nums; rw [h]; rfl
    · intro h; exact List.length_eq_zero_iff.1 (by rw [Array.length_toList]; exact h)
  unfold wordS
  by_cases h : s.size = 0
  · rw [if_pos h]
    exact (write_none s (by rw [e]; exact decide_eq_true h) w).mono fun e w' ⟨he, hw⟩ => ⟨he, hw ▸ Below.refl _ _⟩
  · rw [if_neg h]
    exact write_any s hn (by rw [e]; exact decide_eq_false h) w
end Go.Proofs.YtglbhmhkeegpdaaDoor
