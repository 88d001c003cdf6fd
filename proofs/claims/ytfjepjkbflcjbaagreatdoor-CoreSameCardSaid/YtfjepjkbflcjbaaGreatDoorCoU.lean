/- core.tally: why it tells the number that is made node by node. -/
import Derived.Test.YtfjepjkbflcjbaaGreatDoorCoT
namespace Go.Proofs.YtfjepjkbflcjbaaGreatDoor
section
open Go Go.RowKit
/-- A number made of a core, node by node. -/
def tallyM (num : Co → Int → Int → Int) : Co → Int
  | .nil => 0
  | .node k s z a b => num (.node k s z a b) (tallyM num a) (tallyM num b)
/-- A node on the path. -/
structure KE where
  q : Nat
  k : Int
  s : W4
  z : Bool
  a : Co
  b : Co
  pa : Option Nat
  pb : Option Nat
def KE.co (x : KE) : Co := .node x.k x.s x.z x.a x.b
structure KEAt (w : World) (x : KE) : Prop where
  hb : w.heap[x.q]? = some (coOb x.k x.s x.z (kPtr x.pa) (kPtr x.pb))
  ca : CoAt w x.a (kPtr x.pa)
  cb : CoAt w x.b (kPtr x.pb)
theorem KEAt.co {w : World} {x : KE} (h : KEAt w x) : CoAt w x.co (kPtr (some x.q)) := .node _ _ _ _ _ _ _ _ h.hb h.ca h.cb
theorem kptr_of {w : World} {c : Co} {v : Value} (h : CoAt w c v) : ∃ p, v = kPtr p := by
  cases h with
  | nil => exact ⟨none, rfl⟩
  | node k s z a b q va vb hb ha hc => exact ⟨some q, rfl⟩
theorem ke_of {w : World} {c : Co} {q : Nat} (h : CoAt w c (kPtr (some q))) : ∃ x : KE, x.q = q ∧ x.co = c ∧ KEAt w x := by
  cases h with
  | node k s z a b q va vb hb ha hc =>
    obtain ⟨pa, rfl⟩ := kptr_of ha
    obtain ⟨pb, rfl⟩ := kptr_of hc
    exact ⟨⟨q, k, s, z, a, b, pa, pb⟩, rfl, rfl, hb, ha, hc⟩
def pend (D : List (Option Nat × Int)) (p : Option Nat) (c : Co) : Nat := if (kgotD D p).2 then 0 else 2 * coSize c
def meas (D : List (Option Nat × Int)) (P : List KE) : Nat := (P.map fun x => 1 + pend D x.pa x.a + pend D x.pb x.b).sum
theorem pend_le (D : List (Option Nat × Int)) (p : Option Nat) (c : Co) : pend D p c ≤ 2 * coSize c := by
  unfold pend
  split <;> omega
theorem pend_put (D : List (Option Nat × Int)) (k : Option Nat) (v : Int) (p : Option Nat) (c : Co) : pend (kputD D k v) p c ≤ pend D p c := by
  unfold pend
  rw [kgotD_put]
  by_cases h : p = k
  · rw [if_pos h]
    simp
  · rw [if_neg h]
    exact Nat.le_refl _
theorem pend_hit (D : List (Option Nat × Int)) (k : Option Nat) (v : Int) (c : Co) : pend (kputD D k v) k c = 0 := by
  unfold pend
  rw [kgotD_put, if_pos rfl]
  rfl
theorem meas_put (D : List (Option Nat × Int)) (k : Option Nat) (v : Int) (P : List KE) : meas (kputD D k v) P ≤ meas D P := by
  unfold meas
  induction P with
  | nil => exact Nat.le_refl _
  | cons x r ih =>
    simp only [List.map_cons, List.sum_cons]
    have := pend_put D k v x.pa x.a
    have := pend_put D k v x.pb x.b
    omega
theorem meas_snoc (D : List (Option Nat × Int)) (P : List KE) (x : KE) : meas D (P ++ [x]) = meas D P + (1 + pend D x.pa x.a + pend D x.pb x.b) := by
  unfold meas
  rw [List.map_append, List.sum_append]
  simp
/-- What holds of the path and of what is known. -/
structure TalI (num : Co → Int → Int → Int) (w : World) (q0 : Nat) (D : List (Option Nat × Int)) (P : List KE) : Prop where
  at_ : ∀ x ∈ P, KEAt w x
  inc : P.Pairwise fun x y => coSize y.co < coSize x.co
  dd : ∀ k v, kgotD D k = (v, true) → (k = none ∧ v = 0) ∨ ∃ q c, k = some q ∧ CoAt w c (kPtr (some q)) ∧ ((v = -1 ∧ ∃ x ∈ P, x.q = q) ∨ v = tallyM num c)
  nl : kgotD D none = (0, true)
  ks : ∀ p ∈ D, IsK w p.1
  on : ∀ x ∈ P, kgotD D (some x.q) = (-1, true)
  rt : ∃ v, kgotD D (some q0) = (v, true)
theorem isK_of {w : World} {c : Co} {p : Option Nat} (h : CoAt w c (kPtr p)) : IsK w p := by
  intro a e
  subst e
  obtain ⟨x, rfl, _, hx⟩ := ke_of h
  exact ⟨_, _, hx.hb⟩
theorem mem_kput {D : List (Option Nat × Int)} {q : Option Nat} {v : Int} {p : Option Nat × Int} (h : p ∈ kputD D q v) : p ∈ D ∨ p = (q, v) := by
  induction D with
  | nil => exact .inr (by simpa [kputD] using h)
  | cons d D ih =>
    rw [kputD] at h
    split at h
    · rcases List.mem_cons.1 h with h | h
      · exact .inr h
      · exact .inl (List.mem_cons_of_mem _ h)
    · rcases List.mem_cons.1 h with h | h
      · exact .inl (h ▸ List.mem_cons_self ..)
      · rcases ih h with h | h
        · exact .inl (List.mem_cons_of_mem _ h)
        · exact .inr h
theorem coSize_part (x : KE) : coSize x.a < coSize x.co ∧ coSize x.b < coSize x.co := by
  unfold KE.co
  rw [coSize]
  omega
/-- What is known of a part of the last node: it isn't on the path. -/
theorem TalI.part {num : Co → Int → Int → Int} {w : World} {q0 : Nat} {D : List (Option Nat × Int)} {P : List KE} {x : KE} (h : TalI num w q0 D (P ++ [x])) {c : Co} {p : Option Nat} (hc : CoAt w c (kPtr p)) (hs : coSize c < coSize x.co) {v : Int} (hv : kgotD D p = (v, true)) : v = tallyM num c := by
  rcases h.dd p v hv with ⟨rfl, rfl⟩ | ⟨q, c', rfl, hc', ⟨rfl, y, hy, rfl⟩ | rfl⟩
  · cases hc; rfl
  · have e : y.co = c := (h.at_ y hy).co.uniq hc
    rcases List.mem_append.1 hy with hy | hy
    · have := (List.pairwise_append.1 h.inc).2.2 y hy x (by simp)
      rw [e] at this
      omega
    · obtain rfl : y = x := by simpa using hy
      rw [e] at hs
      omega
  · rw [hc'.uniq hc]
/-- A part that isn't known is entered. -/
theorem TalI.enter {num : Co → Int → Int → Int} {w : World} {q0 : Nat} {D : List (Option Nat × Int)} {P : List KE} {x y : KE} (h : TalI num w q0 D (P ++ [x])) (hy : KEAt w y) (hs : coSize y.co < coSize x.co) (hn : (kgotD D (some y.q)).2 = false) :
    TalI num w q0 (kputD D (some y.q) (-1)) (P ++ [x] ++ [y]) := by
  refine ⟨fun z hz => ?_, ?_, fun k v hv => ?_, ?_, fun p hp => ?_, fun z hz => ?_, ?_⟩
  · rcases List.mem_append.1 hz with hz | hz
    · exact h.at_ z hz
    · obtain rfl : z = y := by simpa using hz
      exact hy
  · rw [List.pairwise_append]
    refine ⟨h.inc, List.pairwise_singleton _ _, fun z hz u hu => ?_⟩
    obtain rfl : u = y := by simpa using hu
    rcases List.mem_append.1 hz with hz | hz
    · have := (List.pairwise_append.1 h.inc).2.2 z hz x (by simp)
      omega
    · obtain rfl : z = x := by simpa using hz
      exact hs
  · rw [kgotD_put] at hv
    split at hv
    · rename_i e
      injection hv with hv _
      exact .inr ⟨y.q, y.co, e, hy.co, .inl ⟨hv.symm, y, by simp, rfl⟩⟩
    · rcases h.dd k v hv with h1 | ⟨q, c, h1, h2, ⟨h3, z, hz, h4⟩ | h3⟩
      · exact .inl h1
      · exact .inr ⟨q, c, h1, h2, .inl ⟨h3, z, List.mem_append_left _ hz, h4⟩⟩
      · exact .inr ⟨q, c, h1, h2, .inr h3⟩
  · rw [kgotD_put, if_neg (by simp)]
    exact h.nl
  · rcases mem_kput hp with hp | rfl
    · exact h.ks p hp
    · exact isK_of hy.co
  · rw [kgotD_put]
    split
    · rfl
    · rename_i e
      rcases List.mem_append.1 hz with hz | hz
      · exact h.on z hz
      · obtain rfl : z = y := by simpa using hz
        exact absurd rfl e
  · obtain ⟨v, hv⟩ := h.rt
    rw [kgotD_put]
    split
    · exact ⟨_, rfl⟩
    · exact ⟨v, hv⟩
/-- The last node is told. -/
theorem TalI.told {num : Co → Int → Int → Int} {w : World} {q0 : Nat} {D : List (Option Nat × Int)} {P : List KE} {x : KE} (h : TalI num w q0 D (P ++ [x])) : TalI num w q0 (kputD D (some x.q) (tallyM num x.co)) P := by
  have hx := h.at_ x (by simp)
  have hne : ∀ z ∈ P, z.q ≠ x.q := fun z hz e => by
    have h1 := (List.pairwise_append.1 h.inc).2.2 z hz x (by simp)
    have h2 := (h.at_ z (List.mem_append_left _ hz)).co
    rw [e] at h2
    rw [h2.uniq hx.co] at h1
    omega
  refine ⟨fun z hz => h.at_ z (List.mem_append_left _ hz), (List.pairwise_append.1 h.inc).1, fun k v hv => ?_, ?_, fun p hp => ?_, fun z hz => ?_, ?_⟩
  · rw [kgotD_put] at hv
    split at hv
    · rename_i e
      injection hv with hv _
      exact .inr ⟨x.q, x.co, e, hx.co, .inr hv.symm⟩
    · rename_i e
      rcases h.dd k v hv with h1 | ⟨q, c, rfl, h2, ⟨h3, z, hz, rfl⟩ | h3⟩
      · exact .inl h1
      · rcases List.mem_append.1 hz with hz | hz
        · exact .inr ⟨_, c, rfl, h2, .inl ⟨h3, z, hz, rfl⟩⟩
        · obtain rfl : z = x := by simpa using hz
          exact absurd rfl e
      · exact .inr ⟨q, c, rfl, h2, .inr h3⟩
  · rw [kgotD_put, if_neg (by simp)]
    exact h.nl
  · rcases mem_kput hp with hp | rfl
    · exact h.ks p hp
    · exact isK_of hx.co
  · rw [kgotD_put, if_neg (fun e => hne z hz (Option.some.inj e))]
    exact h.on z (List.mem_append_left _ hz)
  · obtain ⟨v, hv⟩ := h.rt
    rw [kgotD_put]
    split
    · exact ⟨_, rfl⟩
    · exact ⟨v, hv⟩
theorem TalI.done {num : Co → Int → Int → Int} {w : World} {q0 : Nat} {c0 : Co} {D : List (Option Nat × Int)} (h : TalI num w q0 D []) (hc : CoAt w c0 (kPtr (some q0))) : kgotD D (some q0) = (tallyM num c0, true) := by
  obtain ⟨v, hv⟩ := h.rt
  rcases h.dd _ v hv with ⟨h1, _⟩ | ⟨q, c, e, h2, ⟨_, z, hz, _⟩ | h3⟩
  · cases h1
  · cases hz
  · obtain rfl := Option.some.inj e
    rw [hv, h3, h2.uniq hc]
theorem TalI.start (num : Co → Int → Int → Int) {w : World} {y : KE} (hy : KEAt w y) : TalI num w y.q (kputD [(none, 0)] (some y.q) (-1)) [y] := by
  refine ⟨fun z hz => ?_, List.pairwise_singleton _ _, fun k v hv => ?_, rfl, fun p hp => ?_, fun z hz => ?_, ⟨-1, ?_⟩⟩
  · obtain rfl : z = y := by simpa using hz
    exact hy
  · rw [kgotD_put] at hv
    split at hv
    · rename_i e
      injection hv with hv _
      exact .inr ⟨y.q, y.co, e, hy.co, .inl ⟨hv.symm, y, by simp, rfl⟩⟩
    · rw [kgotD] at hv
      split at hv
      · rename_i e
        injection hv with hv _
        exact .inl ⟨e, hv.symm⟩
      · rw [kgotD] at hv
        cases hv
  · rcases mem_kput hp with hp | rfl
    · obtain rfl : p = (none, 0) := by simpa using hp
      intro a e
      cases e
    · exact isK_of hy.co
  · obtain rfl : z = y := by simpa using hz
    rw [kgotD_put, if_pos rfl]
  · rw [kgotD_put, if_pos rfl]
end
end Go.Proofs.YtfjepjkbflcjbaaGreatDoor
