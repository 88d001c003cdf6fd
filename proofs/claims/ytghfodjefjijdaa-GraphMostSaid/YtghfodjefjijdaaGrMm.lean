/- Plain mathematics: the most marked steps of a way. -/
import Derived.Test.YtghfodjefjijdaaGrM
namespace Go.Proofs.Ytghfodjefjijdaa
section
/-- From a thing on a way takes so many marked steps, at least. -/
inductive Wy (A M : Nat → Nat → Prop) : Nat → Nat → Prop
  | nil (u : Nat) : Wy A M u 0
  | step {u v c : Nat} : A u v → Wy A M v c → Wy A M u c
  | pass {u v c : Nat} : M u v → Wy A M v c → Wy A M u c
  | mark {u v c : Nat} : M u v → Wy A M v c → Wy A M u (c + 1)
def AM (A M : Nat → Nat → Prop) : Nat → Nat → Prop := fun u v => A u v ∨ M u v
variable {A M : Nat → Nat → Prop} {n : Nat}
theorem Wy.rch {u v c : Nat} (h : Rch (AM A M) u v) : Wy A M v c → Wy A M u c := by
  induction h with
  | refl => exact id
  | tail _ e ih =>
    intro k
    rcases e with e | e
    · exact ih (.step e k)
    · exact ih (.pass e k)
theorem Wy.le_of {B : Nat → Nat} (h1 : ∀ u v, A u v → B v ≤ B u) (h2 : ∀ u v, M u v → B v + 1 ≤ B u) {u c : Nat} (h : Wy A M u c) : c ≤ B u := by
  induction h with
  | nil => exact Nat.zero_le _
  | step e _ ih => exact Nat.le_trans ih (h1 _ _ e)
  | pass e _ ih => have := h2 _ _ e; omega
  | mark e _ ih => have := h2 _ _ e; omega
theorem Wy.ever {v t : Nat} (hm : M v t) (hr : Rch (AM A M) t v) : ∀ c, Wy A M v c
  | 0 => .nil _
  | c + 1 => .mark hm (Wy.rch hr (Wy.ever hm hr c))
/-- The most marked steps of all ways. -/
structure IsMost (A M : Nat → Nat → Prop) (n c : Nat) : Prop where
  at_ : c = 0 ∨ ∃ u, u < n ∧ Wy A M u c
  up : ∀ u k, u < n → Wy A M u k → k ≤ c
theorem IsMost.uniq {c d : Nat} (h : IsMost A M n c) (k : IsMost A M n d) : c = d := by
  have h1 : c ≤ d := by
    rcases h.at_ with e | ⟨u, hu, hw⟩
    · omega
    · exact k.up u c hu hw
  have h2 : d ≤ c := by
    rcases k.at_ with e | ⟨u, hu, hw⟩
    · omega
    · exact h.up u d hu hw
  omega
/-- What is known of knots. -/
structure KnT (A M : Nat → Nat → Prop) (n : Nat) (κ : Nat → Nat) : Prop where
  bd : ∀ u t, AM A M u t → u < n ∧ t < n
  le : ∀ u t, AM A M u t → κ t ≤ κ u
  rch : ∀ u t, u < n → t < n → κ u = κ t → Rch (AM A M) u t
  lt : ∀ u, u < n → κ u < n
structure Fix (A M : Nat → Nat → Prop) (κ mo : Nat → Nat) (u : Nat) : Prop where
  a : ∀ t, A u t → mo (κ t) ≤ mo (κ u)
  m : ∀ t, M u t → κ t < κ u ∧ mo (κ t) + 1 ≤ mo (κ u)
/-- The most of each knot, as far as things were gone through. -/
structure MoI (A M : Nat → Nat → Prop) (n : Nat) (κ : Nat → Nat) (P : Nat → Prop) (mo : Nat → Nat) : Prop where
  at_ : ∀ k, mo k = 0 ∨ ∃ u, u < n ∧ κ u = k ∧ Wy A M u (mo k)
  le : ∀ k, mo k ≤ k
  old : ∀ u, P u → Fix A M κ mo u
def raise (mo : Nat → Nat) (k x : Nat) : Nat → Nat := upd mo k (max (mo k) x)
theorem raise_same (mo : Nat → Nat) (k x : Nat) : raise mo k x k = max (mo k) x := upd_same _ _ _
theorem raise_other (mo : Nat → Nat) {k j : Nat} (x : Nat) (h : j ≠ k) : raise mo k x j = mo j := upd_other _ _ h
theorem raise_ge (mo : Nat → Nat) (k x j : Nat) : mo j ≤ raise mo k x j := by
  by_cases h : j = k
  · rw [h, raise_same]; exact Nat.le_max_left _ _
  · rw [raise_other _ _ h]; exact Nat.le_refl _
theorem MoI.start {κ : Nat → Nat} : MoI A M n κ (fun _ => False) (fun _ => 0) := ⟨fun _ => .inl rfl, fun _ => Nat.zero_le _, fun _ h => h.elim⟩
theorem MoI.raise {κ mo : Nat → Nat} {P : Nat → Prop} (h : MoI A M n κ P mo) (hk : KnT A M n κ) {v x : Nat} (hv : v < n) (hP : ∀ u, P u → u < n ∧ κ u ≤ κ v) (hx : x ≤ κ v) (hw : x = 0 ∨ Wy A M v x) : MoI A M n κ P (raise mo (κ v) x) where
  at_ k := by
    by_cases e : k = κ v
    · subst e
      rw [raise_same]
      rcases Nat.le_total x (mo (κ v)) with h1 | h1
      · rw [Nat.max_eq_left h1]
        exact h.at_ _
      · rw [Nat.max_eq_right h1]
        rcases hw with hw | hw
        · exact .inl hw
        · exact .inr ⟨v, hv, rfl, hw⟩
    · rw [raise_other _ _ e]
      exact h.at_ k
  le k := by
    by_cases e : k = κ v
    · subst e
      rw [raise_same]
      exact Nat.max_le.2 ⟨h.le _, hx⟩
    · rw [raise_other _ _ e]
      exact h.le k
  old u hu := by
    obtain ⟨h1, h2⟩ := hP u hu
    refine ⟨fun t ht => ?_, fun t ht => ?_⟩
    · have h3 := hk.le u t (.inl ht)
      by_cases e : κ t = κ v
      · have e2 : κ u = κ v := by omega
        rw [e, e2]
        exact Nat.le_refl _
      · rw [raise_other _ _ e]
        exact Nat.le_trans ((h.old u hu).a t ht) (raise_ge _ _ _ _)
    · obtain ⟨h3, h4⟩ := (h.old u hu).m t ht
      refine ⟨h3, ?_⟩
      rw [raise_other _ _ (show κ t ≠ κ v by omega)]
      exact Nat.le_trans h4 (raise_ge _ _ _ _)
/-- By an arrow. -/
theorem MoI.arrow {κ mo : Nat → Nat} {P : Nat → Prop} (h : MoI A M n κ P mo) (hk : KnT A M n κ) {v t : Nat} (hP : ∀ u, P u → u < n ∧ κ u ≤ κ v) (ha : A v t) : MoI A M n κ P (Go.Proofs.Ytghfodjefjijdaa.raise mo (κ v) (mo (κ t))) := by
  obtain ⟨h1, h2⟩ := hk.bd v t (.inl ha)
  refine h.raise hk h1 hP (Nat.le_trans (h.le _) (hk.le v t (.inl ha))) ?_
  rcases h.at_ (κ t) with e | ⟨u, hu, e, hw⟩
  · exact .inl e
  · exact .inr (.step ha (Wy.rch (hk.rch t u h2 hu e.symm) hw))
/-- By a marked step out of the knot. -/
theorem MoI.marked {κ mo : Nat → Nat} {P : Nat → Prop} (h : MoI A M n κ P mo) (hk : KnT A M n κ) {v t : Nat} (hP : ∀ u, P u → u < n ∧ κ u ≤ κ v) (ha : M v t) (hne : κ t ≠ κ v) : MoI A M n κ P (Go.Proofs.Ytghfodjefjijdaa.raise mo (κ v) (mo (κ t) + 1)) := by
  obtain ⟨h1, h2⟩ := hk.bd v t (.inr ha)
  have h3 := hk.le v t (.inr ha)
  have h4 := h.le (κ t)
  refine h.raise hk h1 hP (by omega) (.inr (.mark ha ?_))
  rcases h.at_ (κ t) with e | ⟨u, hu, e, hw⟩
  · rw [e]; exact .nil _
  · exact Wy.rch (hk.rch t u h2 hu e.symm) hw
/-- What was gone through of one thing stays right. -/
theorem raise_keep {mo κ : Nat → Nat} {v t x : Nat} (h : mo (κ t) ≤ mo (κ v)) : raise mo (κ v) x (κ t) ≤ raise mo (κ v) x (κ v) := by
  by_cases e : κ t = κ v
  · rw [e]; exact Nat.le_refl _
  · rw [raise_other _ _ e]
    exact Nat.le_trans h (raise_ge _ _ _ _)
theorem raise_new {mo κ : Nat → Nat} {v t : Nat} : raise mo (κ v) (mo (κ t)) (κ t) ≤ raise mo (κ v) (mo (κ t)) (κ v) := by
  by_cases e : κ t = κ v
  · rw [e]; exact Nat.le_refl _
  · rw [raise_other _ _ e, raise_same]
    exact Nat.le_max_right _ _
theorem raise_keepM {mo κ : Nat → Nat} {v t x : Nat} (h : κ t < κ v ∧ mo (κ t) + 1 ≤ mo (κ v)) : κ t < κ v ∧ raise mo (κ v) x (κ t) + 1 ≤ raise mo (κ v) x (κ v) := by
  refine ⟨h.1, ?_⟩
  rw [raise_other _ _ (show κ t ≠ κ v by omega)]
  exact Nat.le_trans h.2 (raise_ge _ _ _ _)
theorem raise_newM {mo κ : Nat → Nat} {v t : Nat} (h : κ t < κ v) : κ t < κ v ∧ raise mo (κ v) (mo (κ t) + 1) (κ t) + 1 ≤ raise mo (κ v) (mo (κ t) + 1) (κ v) := by
  refine ⟨h, ?_⟩
  rw [raise_other _ _ (show κ t ≠ κ v by omega), raise_same]
  exact Nat.le_max_right _ _
/-- The best of all things gone through. -/
structure BeI (A M : Nat → Nat → Prop) (n : Nat) (κ mo : Nat → Nat) (P : Nat → Prop) (b : Nat) : Prop where
  at_ : b = 0 ∨ ∃ u, u < n ∧ Wy A M u b
  up : ∀ u, P u → mo (κ u) ≤ b
  le : b ≤ n
theorem BeI.add {κ mo mo' : Nat → Nat} {P : Nat → Prop} {b v : Nat} (h : BeI A M n κ mo P b) (hk : KnT A M n κ) (hv : v < n) (hm : MoI A M n κ P mo') (ho : ∀ k, k ≠ κ v → mo' k = mo k) : BeI A M n κ mo' (fun u => P u ∨ u = v) (max b (mo' (κ v))) := by
  refine ⟨?_, fun u hu => ?_, ?_⟩
  · rcases Nat.le_total b (mo' (κ v)) with h1 | h1
    · rw [Nat.max_eq_right h1]
      rcases hm.at_ (κ v) with e | ⟨u, hu, _, hw⟩
      · exact .inl e
      · exact .inr ⟨u, hu, hw⟩
    · rw [Nat.max_eq_left h1]
      exact h.at_
  · rcases hu with hu | rfl
    · by_cases e : κ u = κ v
      · rw [e]; exact Nat.le_max_right _ _
      · rw [ho _ e]; exact Nat.le_trans (h.up u hu) (Nat.le_max_left _ _)
    · exact Nat.le_max_right _ _
  · have h1 := hm.le (κ v)
    have h2 := hk.lt v hv
    have h3 := h.le
    exact Nat.max_le.2 ⟨h3, by omega⟩
theorem BeI.most {κ mo : Nat → Nat} {P : Nat → Prop} {b : Nat} (h : BeI A M n κ mo P b) (hk : KnT A M n κ) (hm : MoI A M n κ P mo) (hP : ∀ u, u < n → P u) : IsMost A M n b ∧ b ≤ n :=
  ⟨⟨h.at_, fun u _ hu hw => Nat.le_trans (hw.le_of (B := fun u => mo (κ u)) (fun u v e => (hm.old u (hP u (hk.bd u v (.inl e)).1)).a v e) (fun u v e => ((hm.old u (hP u (hk.bd u v (.inr e)).1)).m v e).2)) (h.up u (hP u hu))⟩, h.le⟩
/-- What the code answers of Most. -/
structure MostTo (A M : Nat → Nat → Prop) (n r : Nat) (ok : Bool) : Prop where
  yes : ok = true → IsMost A M n r ∧ r ≤ n
  no : ok = false → r = 0 ∧ ∃ u, u < n ∧ ∀ c, Wy A M u c
/-- The sum of the first ones. -/
def sumTo (b : Nat → Nat) : Nat → Nat
  | 0 => 0
  | i + 1 => sumTo b i + b i
theorem sumTo_upd {b : Nat → Nat} {i x : Nat} (h : b i < x) : ∀ k, i < k → sumTo b k + 1 ≤ sumTo (upd b i x) k := by
  have h0 : ∀ k, k ≤ i → sumTo (upd b i x) k = sumTo b k := by
    intro k
    induction k with
    | zero => exact fun _ => rfl
    | succ k ih =>
      intro hk
      show sumTo (upd b i x) k + upd b i x k = sumTo b k + b k
      rw [ih (by omega), upd_other _ _ (by omega)]
  intro k
  induction k with
  | zero => exact fun h => absurd h (Nat.not_lt_zero _)
  | succ k ih =>
    intro hk
    show sumTo b k + b k + 1 ≤ sumTo (upd b i x) k + upd b i x k
    by_cases e : k = i
    · subst e
      rw [h0 k (Nat.le_refl _), upd_same]
      omega
    · rw [upd_other _ _ e]
      have := ih (by omega)
      omega
theorem sumTo_le {b : Nat → Nat} {x : Nat} : ∀ k, (∀ i, i < k → b i ≤ x) → sumTo b k ≤ k * x
  | 0, _ => Nat.zero_le _
  | k + 1, h => by
    have h1 := sumTo_le k (fun i hi => h i (Nat.lt_succ_of_lt hi))
    have h2 := h k (Nat.lt_succ_self _)
    show sumTo b k + b k ≤ _
    rw [Nat.succ_mul]
    omega
/-- The greatest of the first ones. -/
def maxTo (b : Nat → Nat) : Nat → Nat
  | 0 => 0
  | i + 1 => max (maxTo b i) (b i)
theorem maxTo_ge {b : Nat → Nat} : ∀ {k i : Nat}, i < k → b i ≤ maxTo b k
  | k + 1, i, h => by
    show b i ≤ max (maxTo b k) (b k)
    rcases Nat.lt_succ_iff_lt_or_eq.1 h with h | rfl
    · exact Nat.le_trans (maxTo_ge h) (Nat.le_max_left _ _)
    · exact Nat.le_max_right _ _
theorem maxTo_at (b : Nat → Nat) : ∀ k, maxTo b k = 0 ∨ ∃ i, i < k ∧ maxTo b k = b i
  | 0 => .inl rfl
  | k + 1 => by
    show max (maxTo b k) (b k) = 0 ∨ ∃ i, i < k + 1 ∧ max (maxTo b k) (b k) = b i
    rcases Nat.le_total (maxTo b k) (b k) with h | h
    · rw [Nat.max_eq_right h]
      exact .inr ⟨k, Nat.lt_succ_self _, rfl⟩
    · rw [Nat.max_eq_left h]
      rcases maxTo_at b k with e | ⟨i, hi, e⟩
      · exact .inl e
      · exact .inr ⟨i, Nat.lt_succ_of_lt hi, e⟩
/-- The document's answer, as it goes: C: what was found right since the round began. -/
structure RmI (A M : Nat → Nat → Prop) (n : Nat) (C : Nat → Nat → Prop) (D : Nat → Nat → Prop) (round : Nat) (more : Bool) (top : Nat) (b : Nat → Nat) : Prop where
  wy : ∀ u, u < n → Wy A M u (b u)
  top : ∀ u, u < n → b u ≤ top
  su : (if more then round + 1 else round) ≤ sumTo b n
  c : more = false → ∀ u v, C u v → b v ≤ b u
  d : more = false → ∀ u v, D u v → b v + 1 ≤ b u
def No2 : Nat → Nat → Prop := fun _ _ => False
theorem RmI.start : RmI A M n No2 No2 0 false 0 (fun _ => 0) := ⟨fun u _ => .nil u, fun _ _ => Nat.le_refl _, Nat.zero_le _, fun _ _ _ h => h.elim, fun _ _ _ h => h.elim⟩
variable {C D C' D' : Nat → Nat → Prop} {round top i k : Nat} {more : Bool} {b : Nat → Nat}
theorem RmI.arrow (h : RmI A M n C D round more top b) (hi : i < n) (hk : k < n) (ha : A i k) (hl : b i < b k) : RmI A M n C' D' round true top (upd b i (b k)) := by
  refine ⟨fun u hu => ?_, fun u hu => ?_, ?_, fun e => (by cases e), fun e => (by cases e)⟩
  · by_cases e : u = i
    · rw [e, upd_same]; exact .step ha (h.wy k hk)
    · rw [upd_other _ _ e]; exact h.wy u hu
  · by_cases e : u = i
    · rw [e, upd_same]; exact h.top k hk
    · rw [upd_other _ _ e]; exact h.top u hu
  · have h1 := sumTo_upd hl n hi
    have h2 := h.su
    rw [if_pos rfl]
    split at h2 <;> omega
theorem RmI.marked (h : RmI A M n C D round more top b) (hi : i < n) (hk : k < n) (ha : M i k) (hl : b i < b k + 1) : RmI A M n C' D' round true (top + 1) (upd b i (b k + 1)) := by
  refine ⟨fun u hu => ?_, fun u hu => ?_, ?_, fun e => (by cases e), fun e => (by cases e)⟩
  · by_cases e : u = i
    · rw [e, upd_same]; exact .mark ha (h.wy k hk)
    · rw [upd_other _ _ e]; exact h.wy u hu
  · by_cases e : u = i
    · rw [e, upd_same]; have := h.top k hk; omega
    · rw [upd_other _ _ e]; have := h.top u hu; omega
  · have h1 := sumTo_upd hl n hi
    have h2 := h.su
    rw [if_pos rfl]
    split at h2 <;> omega
theorem RmI.pass (h : RmI A M n C D round more top b) (hc : more = false → ∀ u v, C' u v → C u v ∨ b v ≤ b u) (hd : more = false → ∀ u v, D' u v → D u v ∨ b v + 1 ≤ b u) {top' : Nat} (ht : top ≤ top') : RmI A M n C' D' round more top' b :=
  ⟨h.wy, fun u hu => Nat.le_trans (h.top u hu) ht, h.su, fun e u v x => (hc e u v x).elim (h.c e u v) id, fun e u v x => (hd e u v x).elim (h.d e u v) id⟩
theorem RmI.next (h : RmI A M n C D round true top b) {t : Nat} (ht : ∀ u, u < n → b u ≤ t) : RmI A M n No2 No2 (round + 1) false t b := by
  refine ⟨h.wy, ht, ?_, fun _ _ _ x => x.elim, fun _ _ _ x => x.elim⟩
  have := h.su
  rw [if_pos rfl] at this
  rw [if_neg (by simp)]
  exact this
theorem RmI.done (h : RmI A M n C D round false top b) (hA : ∀ u v, A u v → C u v) (hM : ∀ u v, M u v → D u v) : IsMost A M n (maxTo b n) := by
  refine ⟨?_, fun u _ hu hw => Nat.le_trans (hw.le_of (B := b) (fun u v e => h.c rfl u v (hA u v e)) (fun u v e => h.d rfl u v (hM u v e))) (maxTo_ge hu)⟩
  rcases maxTo_at b n with e | ⟨i, hi, e⟩
  · exact .inl e
  · rw [e]; exact .inr ⟨i, hi, h.wy i hi⟩
theorem RmI.end_ (h : RmI A M n C D round false (n + 1) b) : round ≤ n * (n + 1) := by
  have h1 := h.su
  rw [if_neg (by simp)] at h1
  exact Nat.le_trans h1 (sumTo_le n h.top)
/-- What the document answers of Most. -/
structure RMostTo (A M : Nat → Nat → Prop) (n : Nat) (r : Int) : Prop where
  ex : (∃ c : Nat, r = (c : Int) ∧ IsMost A M n c) ∨ r = -1 ∧ ∃ u c, u < n ∧ n < c ∧ Wy A M u c
theorem MostTo.agree {r : Nat} {ok : Bool} {x : Int} (h : MostTo A M n r ok) (k : RMostTo A M n x) : ok = decide (0 ≤ x) ∧ (r : Int) = max x 0 := by
  cases ok with
  | true =>
    obtain ⟨h1, h2⟩ := h.yes rfl
    rcases k.ex with ⟨c, rfl, hc⟩ | ⟨rfl, u, c, hu, hc, hw⟩
    · rw [h1.uniq hc]
      refine ⟨by simp, by omega⟩
    · have := h1.up u c hu hw
      omega
  | false =>
    obtain ⟨rfl, u, hu, hw⟩ := h.no rfl
    rcases k.ex with ⟨c, rfl, hc⟩ | ⟨rfl, _⟩
    · have := hc.up u (c + 1) hu (hw _)
      omega
    · exact ⟨by decide, by decide⟩
end
end Go.Proofs.Ytghfodjefjijdaa
