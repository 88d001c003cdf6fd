/- Blocks of one set more: how many there are, and when a set cuts none. -/
import Derived.Test.YtkjbecdngjdkhaaDoorBlkH
import Derived.Test.YtkjbecdngjdkhaaDoorBlkN
namespace Go.Proofs.YtkjbecdngjdkhaaDoor
open Go Go.RowKit
/-- Is a byte the least of its block? -/
def isLead (E : Nat → Nat → Bool) (b : Nat) : Bool := (List.range b).all fun a => !E a b
theorem isLead_iff (E : Nat → Nat → Bool) (b : Nat) : isLead E b = true ↔ ∀ a, a < b → E a b = false := by
  unfold isLead
  rw [List.all_eq_true]
  constructor
  · intro h a ha; have := h a (List.mem_range.2 ha); simpa using this
  · intro h a ha; rw [h a (List.mem_range.1 ha)]; rfl
theorem leads_filter {E : Nat → Nat → Bool} (hE : Sorts E) : ∀ n, leads E n = (List.range n).filter (isLead E) := by
  intro n
  induction n with
  | zero => rfl
  | succ n ih =>
    rw [List.range_succ, List.filter_append, ← ih]
    by_cases h : isLead E n = true
    · rw [(num_new hE ((isLead_iff E n).1 h)).1]; simp [h]
    · have h' : isLead E n = false := by simpa using h
      have : ∃ a, a < n ∧ E a n = true := by
        apply Classical.byContradiction
        intro hc
        apply h
        rw [isLead_iff]
        intro a ha
        rw [← Bool.not_eq_true]
        exact fun he => hc ⟨a, ha, he⟩
      obtain ⟨a, ha, he⟩ := this
      rw [(num_old hE ha he).1]; simp [h']
theorem filter_len {p q : Nat → Bool} : ∀ l : List Nat, (∀ x ∈ l, p x = true → q x = true) → (l.filter p).length ≤ (l.filter q).length ∧ ((l.filter p).length = (l.filter q).length → ∀ x ∈ l, p x = q x) := by
  intro l
  induction l with
  | nil => intro _; exact ⟨Nat.le_refl _, fun _ x hx => by cases hx⟩
  | cons y r ih =>
    intro h
    obtain ⟨h1, h2⟩ := ih fun x hx => h x (List.mem_cons_of_mem _ hx)
    have hy := h y List.mem_cons_self
    cases hp : p y <;> cases hq : q y
    · simp only [List.filter_cons, hp, hq]
      exact ⟨h1, fun e x hx => by rcases List.mem_cons.1 hx with rfl | hx; rw [hp, hq]; exact h2 e x hx⟩
    · simp only [List.filter_cons, hp, hq]
      refine ⟨?_, fun e x hx => ?_⟩
      · simp; omega
      · simp at e; omega
    · rw [hp, hq] at hy; exact absurd (hy rfl) (by decide)
    · simp only [List.filter_cons, hp, hq]
      refine ⟨by simp; exact h1, fun e x hx => ?_⟩
      rcases List.mem_cons.1 hx with rfl | hx
      · rw [hp, hq]
      · exact h2 (by simpa using e) x hx
/-- A finer relation has no fewer blocks; as many only if it is the same. -/
theorem finer {E F : Nat → Nat → Bool} (hE : Sorts E) (hF : Sorts F) (h : ∀ a b, F a b = true → E a b = true) (n : Nat) :
    (leads E n).length ≤ (leads F n).length ∧ ((leads E n).length = (leads F n).length → ∀ a b, a < n → b < n → E a b = F a b) := by
  have hle : ∀ x ∈ List.range n, isLead E x = true → isLead F x = true := fun x _ hx => by
    rw [isLead_iff] at hx ⊢
    intro a ha
    rw [← Bool.not_eq_true]
    intro hf
    have := hx a ha
    rw [h a x hf] at this; cases this
  have hfl := filter_len (List.range n) hle
  rw [leads_filter hE, leads_filter hF]
  refine ⟨hfl.1, fun e a b ha hb => ?_⟩
  have hsame := hfl.2 e
  have hl : leads F n = leads E n := by
    rw [leads_filter hE, leads_filter hF]
    exact List.filter_congr fun x hx => (hsame x hx).symm
  rw [Bool.eq_iff_iff]
  refine ⟨fun he => ?_, h a b⟩
  obtain ⟨x, h1, h2⟩ := num_lead hF ha
  obtain ⟨y, h3, h4⟩ := num_lead hF hb
  rw [hl] at h1 h3
  have hxy : E x y = true := hE.trans _ _ _ (hE.trans _ _ _ (h _ _ h2) he) (hE.symm _ _ (h _ _ h4))
  have hi := leads_apart hE n _ _ x y h1 h3 hxy
  rw [hi, h3] at h1
  obtain rfl : y = x := Option.some.inj h1
  exact hF.trans _ _ _ (hF.symm _ _ h2) h4
/-- A set cuts no block just if it doesn't tell apart what stands in one. -/
theorem uncut_iff {w : World} {g : Nat} {E : Nat → Nat → Bool} {ls : List W4} (hE : Sorts E) (h : BlkIs w g E ls) (s : W4) :
    ls.any (cuts s) = false ↔ ∀ a b, a < 256 → b < 256 → E a b = true → s.mem a = s.mem b := by
  constructor
  · intro hc a b ha hb he
    have hn := (num_iff hE a b).2 he
    have hl : num E a < ls.length := by rw [h.len]; exact num_lt hE ha
    obtain ⟨t, ht⟩ : ∃ t, ls[num E a]? = some t := ⟨_, List.getElem?_eq_getElem hl⟩
    have ta : t.mem a = true := by rw [h.mem _ t ht a ha]; simp
    have tb : t.mem b = true := by rw [h.mem _ t ht b hb]; simp [hn]
    have hct : cuts s t = false := by
      rw [List.any_eq_false] at hc
      simpa using hc t (List.mem_of_getElem? ht)
    have ma := mem_meet t s a
    have mb := mem_meet t s b
    rw [ta, Bool.true_and] at ma
    rw [tb, Bool.true_and] at mb
    unfold cuts at hct
    by_cases e : eqW (t.meet s) t = true
    · rw [(eqW_iff _ _).1 e] at ma mb
      rw [← ma, ← mb, ta, tb]
    · have e2 : eqW (t.meet s) noW = true := by
        have : eqW (t.meet s) t = false := by simpa using e
        rw [this] at hct
        simpa using hct
      rw [(eqW_iff _ _).1 e2] at ma mb
      rw [← ma, ← mb, noW_mem, noW_mem]
  · intro hs
    rw [List.any_eq_false]
    intro t ht
    obtain ⟨i, hi⟩ := List.mem_iff_getElem?.1 ht
    have hil := (List.getElem?_eq_some_iff.1 hi).1
    rw [h.len] at hil
    obtain ⟨a, ha⟩ : ∃ a, (leads E 256)[i]? = some a := ⟨_, List.getElem?_eq_getElem hil⟩
    have ha2 := leads_lt 256 a (List.mem_of_getElem? ha)
    have hna := lead_num hE ha
    have hin : ∀ n, n < 256 → t.mem n = true → s.mem n = s.mem a := fun n hn hm => by
      rw [h.mem i t hi n hn] at hm
      have : num E n = num E a := by rw [hna]; simpa using hm
      exact hs n a hn ha2 ((num_iff hE n a).1 this)
    have hft := h.blk.fit t ht
    unfold cuts
    by_cases e : s.mem a = true
    · have : t.meet s = t := W4.ext' (meet_fit _ _) hft fun n hn => by
        rw [mem_meet]
        cases hm : t.mem n
        · rfl
        · rw [hin n hn hm, e]; rfl
      rw [this, (eqW_iff t t).2 rfl]; simp
    · have : t.meet s = noW := W4.ext' (meet_fit _ _) noW_fit fun n hn => by
        rw [mem_meet, noW_mem]
        cases hm : t.mem n
        · rfl
        · rw [hin n hn hm]; simpa using e
      rw [this, (eqW_iff noW noW).2 rfl]; simp
/-- Of one set more: uncut, and no fewer; as many just if the elder ones weren't cut. -/
theorem more_count {w w' : World} {g g' : Nat} {L ls ls' : List W4} {s : W4} (h : BlkIs w g (allE L) ls) (h' : BlkIs w' g' (allE (L ++ [s])) ls') :
    ls'.any (cuts s) = false ∧ ls.length ≤ ls'.length ∧ (decide (ls'.length = ls.length) = !ls.any (cuts s)) := by
  have hF := allE_sorts (L ++ [s])
  have hE := allE_sorts L
  have href : ∀ a b, allE (L ++ [s]) a b = true → allE L a b = true := fun a b hh => ((allE_snoc L s a b).1 hh).1
  have hf := finer hE hF href 256
  rw [← h.len, ← h'.len] at hf
  refine ⟨(uncut_iff hF h' s).2 fun a b _ _ hh => ((allE_snoc L s a b).1 hh).2, hf.1, ?_⟩
  rw [Bool.eq_iff_iff, decide_eq_true_iff, Bool.not_eq_true', uncut_iff hE h s]
  constructor
  · intro e a b ha hb hh
    rw [hf.2 e.symm a b ha hb] at hh
    exact ((allE_snoc L s a b).1 hh).2
  · intro hs
    rw [h.len, h'.len, leads_congr (E := allE (L ++ [s])) (F := allE L) (N := 256) (fun a b ha hb => ?_) 256 (Nat.le_refl _)]
    rw [Bool.eq_iff_iff, allE_snoc]
    exact ⟨fun x => x.1, fun x => ⟨x, hs a b ha hb x⟩⟩
end Go.Proofs.YtkjbecdngjdkhaaDoor
