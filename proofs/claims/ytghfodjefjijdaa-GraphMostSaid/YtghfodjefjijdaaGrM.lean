/- Plain mathematics: what is reached along arrows; how knots are found by going as deep as one can. -/
import Derived.Test.YtghfodjefjijdaaRows
namespace Go.Proofs.Ytghfodjefjijdaa
section
/-- What is reached along arrows. -/
inductive Rch (E : Nat → Nat → Prop) : Nat → Nat → Prop
  | refl (u : Nat) : Rch E u u
  | tail {u v w : Nat} : Rch E u v → E v w → Rch E u w
theorem Rch.trans {E : Nat → Nat → Prop} {u v w : Nat} (h : Rch E u v) (k : Rch E v w) : Rch E u w := by
  induction k with
  | refl => exact h
  | tail _ e ih => exact .tail ih e
theorem Rch.one {E : Nat → Nat → Prop} {u v : Nat} (h : E u v) : Rch E u v := .tail (.refl u) h
theorem Rch.head {E : Nat → Nat → Prop} {u v w : Nat} (e : E u v) (h : Rch E v w) : Rch E u w := (Rch.one e).trans h
theorem Rch.mono {E F : Nat → Nat → Prop} (hEF : ∀ u v, E u v → F u v) {u v : Nat} (h : Rch E u v) : Rch F u v := by
  induction h with
  | refl => exact .refl _
  | tail _ e ih => exact .tail ih (hEF _ _ e)
/-- What holds of the first thing and goes along arrows holds of all that is reached. -/
theorem Rch.keeps {E : Nat → Nat → Prop} {Q : Nat → Prop} (hQ : ∀ u v, Q u → E u v → Q v) {u v : Nat} (h : Rch E u v) (hu : Q u) : Q v := by
  induction h with
  | refl => exact hu
  | tail _ e ih => exact hQ _ _ ih e
theorem Rch.cases_head {E : Nat → Nat → Prop} {u w : Nat} (h : Rch E u w) : u = w ∨ ∃ v, E u v ∧ Rch E v w := by
  induction h with
  | refl => exact .inl rfl
  | tail _ e ih =>
    rcases ih with rfl | ⟨v, e1, h1⟩
    · exact .inr ⟨_, e, .refl _⟩
    · exact .inr ⟨v, e1, .tail h1 e⟩
theorem nodup_len : ∀ (n : Nat) (l : List Nat), l.Nodup → (∀ x ∈ l, x < n) → l.length ≤ n
  | 0, l, _, h => by
    cases l with
    | nil => exact Nat.le_refl _
    | cons x r => exact absurd (h x (List.mem_cons_self ..)) (Nat.not_lt_zero _)
  | n + 1, l, hd, h => by
    have h1 := nodup_len n (l.erase n) (hd.erase n) (fun x hx => by
      have h2 := (hd.mem_erase_iff).1 hx
      have := h x h2.2
      have := h2.1
      omega)
    have h3 : l.length ≤ (l.erase n).length + 1 := by
      rw [List.length_erase]
      split <;> omega
    omega
/-- A function, turned at one place. -/
def upd {α : Type} (f : Nat → α) (i : Nat) (x : α) : Nat → α := fun j => if j = i then x else f j
theorem upd_same {α : Type} (f : Nat → α) (i : Nat) (x : α) : upd f i x i = x := if_pos rfl
theorem upd_other {α : Type} (f : Nat → α) {i j : Nat} (x : α) (h : j ≠ i) : upd f i x j = f j := if_neg h
/-- What a seeker of knots knows. -/
structure Sk where
  times : Nat
  met : Nat → Nat
  low : Nat → Nat
  path : List (Nat × List Nat)
  opn : List Nat
  knots : Nat
  kn : Nat → Int
  done : List Nat
/-- .. and why it is right; X: such arrows need not have been looked at. -/
structure Inv (E : Nat → Nat → Prop) (n : Nat) (X : Nat → Nat → Prop) (s : Sk) : Prop where
  mle : ∀ v, s.met v ≤ s.times
  inj : ∀ u v, s.met u = s.met v → s.met u ≠ 0 → u = v
  mn : ∀ v, s.met v ≠ 0 → v < n
  on : ∀ v, v ∈ s.opn ↔ s.met v ≠ 0 ∧ s.kn v = -1
  srt : s.opn.Pairwise (fun a b => s.met a < s.met b)
  pin : ∀ f ∈ s.path, f.1 ∈ s.opn
  psrt : s.path.Pairwise (fun a b => s.met a.1 < s.met b.1)
  pe : ∀ f ∈ s.path, ∀ w ∈ f.2, E f.1 w
  dn : ∀ v, v ∈ s.done ↔ s.kn v ≠ -1
  dnd : s.done.Nodup
  dsrt : s.done.Pairwise (fun a b => s.kn a ≤ s.kn b)
  km : ∀ v, s.kn v ≠ -1 → s.met v ≠ 0 ∧ 0 ≤ s.kn v ∧ s.kn v < s.knots
  cl : ∀ v w, s.kn v ≠ -1 → E v w → s.kn w ≠ -1 ∧ s.kn w ≤ s.kn v
  sc : ∀ u v, s.kn u ≠ -1 → s.kn u = s.kn v → Rch E u v
  lo : ∀ v ∈ s.opn, ∃ w ∈ s.opn, s.met w = s.low v ∧ Rch E v w
  lle : ∀ v ∈ s.opn, s.low v ≤ s.met v
  np : ∀ v ∈ s.opn, (∀ f ∈ s.path, f.1 ≠ v) → s.low v < s.met v
  seg : ∀ v ∈ s.opn, ∃ f ∈ s.path, s.met f.1 ≤ s.met v
  rp : ∀ f ∈ s.path, ∀ v ∈ s.opn, s.met f.1 ≤ s.met v → Rch E f.1 v
  ex : ∀ f ∈ s.path, ∀ v ∈ s.opn, s.met f.1 ≤ s.met v → (∀ g ∈ s.path, s.met f.1 < s.met g.1 → s.met v < s.met g.1) → ∀ w, ¬ X v w → E v w → (∀ g ∈ s.path, g.1 = v → w ∉ g.2) → s.met w ≠ 0 ∧ (s.kn w ≠ -1 ∨ s.low f.1 ≤ s.met w)
  tm : s.times = s.opn.length + s.done.length
  ks : s.knots ≤ s.done.length
def NoX : Nat → Nat → Prop := fun _ _ => False
/-- The one arrow from u to t. -/
def OneX (u t : Nat) : Nat → Nat → Prop := fun v w => v = u ∧ w = t
theorem Inv.opn_nodup {E : Nat → Nat → Prop} {n : Nat} {X : Nat → Nat → Prop} {s : Sk} (h : Inv E n X s) : s.opn.Nodup :=
  h.srt.imp (fun {a b} hab e => by subst e; exact Nat.lt_irrefl _ hab)
theorem Inv.times_le {E : Nat → Nat → Prop} {n : Nat} {X : Nat → Nat → Prop} {s : Sk} (h : Inv E n X s) : s.times ≤ n := by
  rw [h.tm, ← List.length_append]
  refine nodup_len n _ (List.nodup_append.2 ⟨h.opn_nodup, h.dnd, fun a ha b hb e => ?_⟩) (fun x hx => ?_)
  · subst e
    exact (h.dn a).1 hb ((h.on a).1 ha).2
  · rcases List.mem_append.1 hx with hx | hx
    · exact h.mn x ((h.on x).1 hx).1
    · exact h.mn x (h.km x ((h.dn x).1 hx)).1
theorem Inv.times_lt {E : Nat → Nat → Prop} {n : Nat} {X : Nat → Nat → Prop} {s : Sk} (h : Inv E n X s) {v : Nat} (hv : v < n) (hm : s.met v = 0) : s.times < n := by
  have h0 : (v :: (s.opn ++ s.done)).length ≤ n := by
    refine nodup_len n _ (List.nodup_cons.2 ⟨fun hx => ?_, List.nodup_append.2 ⟨h.opn_nodup, h.dnd, fun a ha b hb e => ?_⟩⟩) (fun x hx => ?_)
    · rcases List.mem_append.1 hx with hx | hx
      · exact ((h.on v).1 hx).1 hm
      · exact (h.km v ((h.dn v).1 hx)).1 hm
    · subst e
      exact (h.dn a).1 hb ((h.on a).1 ha).2
    · rcases List.mem_cons.1 hx with rfl | hx
      · exact hv
      · rcases List.mem_append.1 hx with hx | hx
        · exact h.mn x ((h.on x).1 hx).1
        · exact h.mn x (h.km x ((h.dn x).1 hx)).1
  rw [List.length_cons, List.length_append, ← h.tm] at h0
  omega
theorem Inv.path_lt {E : Nat → Nat → Prop} {n : Nat} {X : Nat → Nat → Prop} {s : Sk} (h : Inv E n X s) : ∀ f ∈ s.path, f.1 < n := fun f hf => h.mn _ ((h.on _).1 (h.pin f hf)).1
theorem Inv.path_len {E : Nat → Nat → Prop} {n : Nat} {X : Nat → Nat → Prop} {s : Sk} (h : Inv E n X s) : s.path.length ≤ n := by
  have := nodup_len n (s.path.map (·.1)) (List.pairwise_map.2 (h.psrt.imp (fun {a b} hab e => by
    have e' : a.1 = b.1 := e
    rw [e'] at hab
    exact Nat.lt_irrefl _ hab))) (fun x hx => by
    obtain ⟨f, hf, rfl⟩ := List.mem_map.1 hx
    exact h.path_lt f hf)
  simpa using this
/-- At the start. -/
def Sk.start : Sk := { times := 0, met := fun _ => 0, low := fun _ => 0, path := [], opn := [], knots := 0, kn := fun _ => -1, done := [] }
theorem Inv.begin (E : Nat → Nat → Prop) (n : Nat) : Inv E n NoX Sk.start where
  mle _ := Nat.le_refl _
  inj u v _ h := absurd rfl h
  mn v h := absurd rfl h
  on v := by simp [Sk.start]
  srt := by simp [Sk.start]
  pin f h := by simp [Sk.start] at h
  psrt := by simp [Sk.start]
  pe f h := by simp [Sk.start] at h
  dn v := by simp [Sk.start]
  dnd := by simp [Sk.start]
  dsrt := by simp [Sk.start]
  km v h := absurd rfl h
  cl v w h := absurd rfl h
  sc u v h := absurd rfl h
  lo v h := by simp [Sk.start] at h
  lle v h := by simp [Sk.start] at h
  np v h := by simp [Sk.start] at h
  seg v h := by simp [Sk.start] at h
  rp f h := by simp [Sk.start] at h
  ex f h := by simp [Sk.start] at h
  tm := rfl
  ks := Nat.le_refl _
theorem Inv.weaken {E : Nat → Nat → Prop} {n : Nat} {X Y : Nat → Nat → Prop} {s : Sk} (h : Inv E n X s) (hXY : ∀ v w, X v w → Y v w) : Inv E n Y s :=
  { h with ex := fun f hf v hv h1 h2 w hw => h.ex f hf v hv h1 h2 w (fun hx => hw (hXY v w hx)) }
/-- The next arrow is taken off. -/
theorem Inv.drop {E : Nat → Nat → Prop} {n : Nat} {s : Sk} {P : List (Nat × List Nat)} {u t : Nat} {r : List Nat} (h : Inv E n NoX s) (hp : s.path = P ++ [(u, t :: r)]) : Inv E n (OneX u t) { s with path := P ++ [(u, r)] } where
  mle := h.mle
  inj := h.inj
  mn := h.mn
  on := h.on
  srt := h.srt
  pin f hf := by
    rcases List.mem_append.1 hf with hf | hf
    · exact h.pin f (by rw [hp]; exact List.mem_append_left _ hf)
    · rw [List.mem_singleton] at hf
      subst hf
      exact h.pin (u, t :: r) (by rw [hp]; simp)
  psrt := by
    have h1 := h.psrt
    rw [hp] at h1
    rw [List.pairwise_append] at h1 ⊢
    refine ⟨h1.1, by simp, fun a ha b hb => ?_⟩
    rw [List.mem_singleton] at hb
    subst hb
    exact h1.2.2 a ha (u, t :: r) (by simp)
  pe f hf w hw := by
    rcases List.mem_append.1 hf with hf | hf
    · exact h.pe f (by rw [hp]; exact List.mem_append_left _ hf) w hw
    · rw [List.mem_singleton] at hf
      subst hf
      exact h.pe (u, t :: r) (by rw [hp]; simp) w (List.mem_cons_of_mem _ hw)
  dn := h.dn
  dnd := h.dnd
  dsrt := h.dsrt
  km := h.km
  cl := h.cl
  sc := h.sc
  lo := h.lo
  lle := h.lle
  np v hv hf := h.np v hv (fun f hf' => by
    rw [hp] at hf'
    rcases List.mem_append.1 hf' with hf' | hf'
    · exact hf f (List.mem_append_left _ hf')
    · rw [List.mem_singleton] at hf'
      subst hf'
      exact hf (u, r) (by simp))
  seg v hv := by
    obtain ⟨f, hf, hl⟩ := h.seg v hv
    rw [hp] at hf
    rcases List.mem_append.1 hf with hf | hf
    · exact ⟨f, List.mem_append_left _ hf, hl⟩
    · rw [List.mem_singleton] at hf
      subst hf
      exact ⟨(u, r), by simp, hl⟩
  rp f hf v hv hl := by
    rcases List.mem_append.1 hf with hf | hf
    · exact h.rp f (by rw [hp]; exact List.mem_append_left _ hf) v hv hl
    · rw [List.mem_singleton] at hf
      subst hf
      exact h.rp (u, t :: r) (by rw [hp]; simp) v hv hl
  ex f hf v hv hl hg w hw he hx := by
    have hg' : ∀ g ∈ s.path, s.met f.1 < s.met g.1 → s.met v < s.met g.1 := fun g hg1 => by
      rw [hp] at hg1
      rcases List.mem_append.1 hg1 with hg1 | hg1
      · exact hg g (List.mem_append_left _ hg1)
      · rw [List.mem_singleton] at hg1
        subst hg1
        exact hg (u, r) (by simp)
    have hx' : ∀ g ∈ s.path, g.1 = v → w ∉ g.2 := fun g hg1 e hm => by
      rw [hp] at hg1
      rcases List.mem_append.1 hg1 with hg1 | hg1
      · exact hx g (List.mem_append_left _ hg1) e hm
      · rw [List.mem_singleton] at hg1
        subst hg1
        rcases List.mem_cons.1 hm with rfl | hm
        · exact hw ⟨e.symm, rfl⟩
        · exact hx (u, r) (by simp) e hm
    rcases List.mem_append.1 hf with hf | hf
    · exact h.ex f (by rw [hp]; exact List.mem_append_left _ hf) v hv hl hg' w (fun x => x) he hx'
    · rw [List.mem_singleton] at hf
      subst hf
      exact h.ex (u, t :: r) (by rw [hp]; simp) v hv hl hg' w (fun x => x) he hx'
  tm := h.tm
  ks := h.ks
/-- A thing whose knot is known. -/
theorem Inv.known {E : Nat → Nat → Prop} {n : Nat} {s : Sk} {u t : Nat} (h : Inv E n (OneX u t) s) (ht : s.kn t ≠ -1) : Inv E n NoX s := by
  refine { h with ex := fun f hf v hv h1 h2 w _ he hx => ?_ }
  by_cases hw : w = t
  · subst hw
    exact ⟨(h.km w ht).1, .inl ht⟩
  · exact h.ex f hf v hv h1 h2 w (fun e => hw e.2) he hx
theorem Inv.top_lt {E : Nat → Nat → Prop} {n : Nat} {X : Nat → Nat → Prop} {s : Sk} {u : Nat} {P : List (Nat × List Nat)} {r : List Nat} (h : Inv E n X s) (hp : s.path = P ++ [(u, r)]) : ∀ f ∈ P, s.met f.1 < s.met u := fun f hf => by
  have h5 := h.psrt
  rw [hp, List.pairwise_append] at h5
  exact h5.2.2 f hf (u, r) (by simp)
theorem Inv.top_le {E : Nat → Nat → Prop} {n : Nat} {X : Nat → Nat → Prop} {s : Sk} {u : Nat} {P : List (Nat × List Nat)} {r : List Nat} (h : Inv E n X s) (hp : s.path = P ++ [(u, r)]) : ∀ f ∈ s.path, f = (u, r) ∨ f ∈ P ∧ s.met f.1 < s.met u := fun f hf => by
  rw [hp] at hf
  rcases List.mem_append.1 hf with hf | hf
  · exact .inr ⟨hf, h.top_lt hp f hf⟩
  · exact .inl (List.mem_singleton.1 hf)
/-- A thing that is open: what stands at the top reaches it. -/
theorem Inv.lower {E : Nat → Nat → Prop} {n : Nat} {s : Sk} {t u : Nat} {P : List (Nat × List Nat)} {r : List Nat} (h : Inv E n (OneX u t) s) (hp : s.path = P ++ [(u, r)]) (ht : s.kn t = -1) (hm : s.met t ≠ 0) (he : E u t) :
    Inv E n NoX { s with low := upd s.low u (min (s.low u) (s.met t)) } where
  mle := h.mle
  inj := h.inj
  mn := h.mn
  on := h.on
  srt := h.srt
  pin := h.pin
  psrt := h.psrt
  pe := h.pe
  dn := h.dn
  dnd := h.dnd
  dsrt := h.dsrt
  km := h.km
  cl := h.cl
  sc := h.sc
  lo v hv := by
    obtain ⟨w, hw, h1, h2⟩ := h.lo v hv
    by_cases e : v = u
    · subst e
      by_cases hle : s.low v ≤ s.met t
      · exact ⟨w, hw, by simp only [upd_same]; rw [Nat.min_eq_left hle]; exact h1, h2⟩
      · exact ⟨t, (h.on t).2 ⟨hm, ht⟩, by simp only [upd_same]; rw [Nat.min_eq_right (by omega)], Rch.one he⟩
    · exact ⟨w, hw, by simp only [upd_other _ _ e]; exact h1, h2⟩
  lle v hv := by
    by_cases e : v = u
    · subst e
      simp only [upd_same]
      exact Nat.le_trans (Nat.min_le_left _ _) (h.lle v hv)
    · simp only [upd_other _ _ e]
      exact h.lle v hv
  np v hv hf := by
    have e : v ≠ u := fun e => hf (u, r) (by rw [hp]; simp) e.symm
    simp only [upd_other _ _ e]
    exact h.np v hv hf
  seg := h.seg
  rp := h.rp
  ex f hf v hv h1 h2 w _ hew hx := by
    have hlow : upd s.low u (min (s.low u) (s.met t)) f.1 ≤ s.low f.1 := by
      by_cases e : f.1 = u
      · rw [e, upd_same]; exact Nat.min_le_left _ _
      · rw [upd_other _ _ e]; exact Nat.le_refl _
    by_cases hw : v = u ∧ w = t
    · obtain ⟨rfl, rfl⟩ := hw
      refine ⟨hm, .inr ?_⟩
      rcases h.top_le hp f hf with rfl | ⟨_, hl⟩
      · show upd s.low v (min (s.low v) (s.met w)) v ≤ s.met w
        rw [upd_same]; exact Nat.min_le_right _ _
      · exact absurd (h2 (v, r) (by show _ ∈ s.path; rw [hp]; simp) hl) (Nat.lt_irrefl _)
    · obtain ⟨h3, h4⟩ := h.ex f hf v hv h1 h2 w hw hew hx
      exact ⟨h3, h4.imp id (fun h4 => Nat.le_trans hlow h4)⟩
  tm := h.tm
  ks := h.ks
/-- A thing that was not met: it is gone to. -/
theorem Inv.enter {E : Nat → Nat → Prop} {n : Nat} {X : Nat → Nat → Prop} {s : Sk} {t : Nat} {L : List Nat} (h : Inv E n X s) (ht : t < n) (hm : s.met t = 0) (hX : ∀ v w, X v w → w = t) (hr : ∀ f ∈ s.path, Rch E f.1 t) (hL : ∀ w, w ∈ L ↔ E t w) :
    Inv E n NoX { s with times := s.times + 1, met := upd s.met t (s.times + 1), low := upd s.low t (s.times + 1), opn := s.opn ++ [t], path := s.path ++ [(t, L)] } := by
  have hkt : s.kn t = -1 := Classical.byContradiction fun hk => (h.km t hk).1 hm
  have hno : t ∉ s.opn := fun hx => ((h.on t).1 hx).1 hm
  have ne : ∀ v ∈ s.opn, v ≠ t := fun v hv e => hno (e ▸ hv)
  have hle := h.mle
  have um : ∀ v ∈ s.opn, upd s.met t (s.times + 1) v = s.met v := fun v hv => upd_other _ _ (ne v hv)
  have ul : ∀ v ∈ s.opn, upd s.low t (s.times + 1) v = s.low v := fun v hv => upd_other _ _ (ne v hv)
  have pm : ∀ f ∈ s.path, upd s.met t (s.times + 1) f.1 = s.met f.1 := fun f hf => um _ (h.pin f hf)
  have pl : ∀ f ∈ s.path, upd s.low t (s.times + 1) f.1 = s.low f.1 := fun f hf => ul _ (h.pin f hf)
  refine { mle := fun v => ?_, inj := fun u v e h0 => ?_, mn := fun v h0 => ?_, on := fun v => ?_, srt := ?_, pin := fun f hf => ?_, psrt := ?_, pe := fun f hf w hw => ?_, dn := h.dn, dnd := h.dnd, dsrt := h.dsrt, km := fun v hk => ?_, cl := h.cl, sc := h.sc, lo := fun v hv => ?_, lle := fun v hv => ?_, np := fun v hv hf => ?_, seg := fun v hv => ?_, rp := fun f hf v hv hl => ?_, ex := fun f hf v hv hl hg w _ he hx => ?_, tm := ?_, ks := h.ks }
  · show upd s.met t (s.times + 1) v ≤ s.times + 1
    unfold upd
    split
    · exact Nat.le_refl _
    · exact Nat.le_succ_of_le (hle v)
  · replace e : upd s.met t (s.times + 1) u = upd s.met t (s.times + 1) v := e
    replace h0 : upd s.met t (s.times + 1) u ≠ 0 := h0
    have hu := hle u
    have hv := hle v
    by_cases e1 : u = t <;> by_cases e2 : v = t
    · rw [e1, e2]
    · rw [e1, upd_same, upd_other _ _ e2] at e
      omega
    · rw [e2, upd_same, upd_other _ _ e1] at e
      omega
    · rw [upd_other _ _ e1, upd_other _ _ e2] at e
      rw [upd_other _ _ e1] at h0
      exact h.inj u v e h0
  · by_cases e1 : v = t
    · rw [e1]; exact ht
    · replace h0 : upd s.met t (s.times + 1) v ≠ 0 := h0
      rw [upd_other _ _ e1] at h0
      exact h.mn v h0
  · show v ∈ s.opn ++ [t] ↔ upd s.met t (s.times + 1) v ≠ 0 ∧ s.kn v = -1
    by_cases e1 : v = t
    · subst e1
      simp [upd_same, hkt]
    · rw [upd_other _ _ e1, ← h.on v]
      simp [e1]
  · show (s.opn ++ [t]).Pairwise (fun a b => upd s.met t (s.times + 1) a < upd s.met t (s.times + 1) b)
    rw [List.pairwise_append]
    refine ⟨h.srt.imp_of_mem (fun {a b} ha hb hab => by rw [um a ha, um b hb]; exact hab), by simp, fun a ha b hb => ?_⟩
    rw [List.mem_singleton] at hb
    subst hb
    rw [um a ha, upd_same]
    exact Nat.lt_succ_of_le (hle a)
  · show f.1 ∈ s.opn ++ [t]
    rcases List.mem_append.1 hf with hf | hf
    · exact List.mem_append_left _ (h.pin f hf)
    · rw [List.mem_singleton.1 hf]; simp
  · show (s.path ++ [(t, L)]).Pairwise (fun a b => upd s.met t (s.times + 1) a.1 < upd s.met t (s.times + 1) b.1)
    rw [List.pairwise_append]
    refine ⟨h.psrt.imp_of_mem (fun {a b} ha hb hab => by rw [pm a ha, pm b hb]; exact hab), by simp, fun a ha b hb => ?_⟩
    rw [List.mem_singleton] at hb
    subst hb
    rw [pm a ha, upd_same]
    exact Nat.lt_succ_of_le (hle _)
  · rcases List.mem_append.1 hf with hf | hf
    · exact h.pe f hf w hw
    · rw [List.mem_singleton.1 hf] at hw ⊢
      exact (hL w).1 hw
  · obtain ⟨h1, h2⟩ := h.km v hk
    refine ⟨?_, h2⟩
    show upd s.met t (s.times + 1) v ≠ 0
    rw [upd_other _ _ (fun e => by rw [e] at h1; exact h1 hm)]
    exact h1
  · rcases List.mem_append.1 hv with hv | hv
    · obtain ⟨w, hw, h1, h2⟩ := h.lo v hv
      exact ⟨w, List.mem_append_left _ hw, by show upd s.met t (s.times + 1) w = upd s.low t (s.times + 1) v; rw [um w hw, ul v hv]; exact h1, h2⟩
    · rw [List.mem_singleton] at hv
      subst hv
      exact ⟨v, by simp, by show upd s.met v (s.times + 1) v = upd s.low v (s.times + 1) v; rw [upd_same, upd_same], .refl _⟩
  · show upd s.low t (s.times + 1) v ≤ upd s.met t (s.times + 1) v
    rcases List.mem_append.1 hv with hv | hv
    · rw [um v hv, ul v hv]; exact h.lle v hv
    · rw [List.mem_singleton] at hv
      subst hv
      rw [upd_same, upd_same]; exact Nat.le_refl _
  · show upd s.low t (s.times + 1) v < upd s.met t (s.times + 1) v
    rcases List.mem_append.1 hv with hv | hv
    · rw [um v hv, ul v hv]; exact h.np v hv (fun f hf' => hf f (List.mem_append_left _ hf'))
    · rw [List.mem_singleton] at hv
      subst hv
      exact absurd rfl (hf (v, L) (by simp))
  · rcases List.mem_append.1 hv with hv | hv
    · obtain ⟨f, hf, hl⟩ := h.seg v hv
      exact ⟨f, List.mem_append_left _ hf, by show upd s.met t (s.times + 1) f.1 ≤ upd s.met t (s.times + 1) v; rw [pm f hf, um v hv]; exact hl⟩
    · rw [List.mem_singleton] at hv
      subst hv
      exact ⟨(v, L), by simp, Nat.le_refl _⟩
  · replace hl : upd s.met t (s.times + 1) f.1 ≤ upd s.met t (s.times + 1) v := hl
    rcases List.mem_append.1 hv with hv | hv
    · rcases List.mem_append.1 hf with hf | hf
      · rw [pm f hf, um v hv] at hl
        exact h.rp f hf v hv hl
      · rw [List.mem_singleton.1 hf, um v hv, upd_same] at hl
        have := hle v
        omega
    · rw [List.mem_singleton] at hv
      subst hv
      rcases List.mem_append.1 hf with hf | hf
      · exact hr f hf
      · rw [List.mem_singleton.1 hf]; exact .refl _
  · replace hl : upd s.met t (s.times + 1) f.1 ≤ upd s.met t (s.times + 1) v := hl
    replace hg : ∀ g ∈ s.path ++ [(t, L)], upd s.met t (s.times + 1) f.1 < upd s.met t (s.times + 1) g.1 → upd s.met t (s.times + 1) v < upd s.met t (s.times + 1) g.1 := hg
    replace hx : ∀ g ∈ s.path ++ [(t, L)], g.1 = v → w ∉ g.2 := hx
    show upd s.met t (s.times + 1) w ≠ 0 ∧ (s.kn w ≠ -1 ∨ upd s.low t (s.times + 1) f.1 ≤ upd s.met t (s.times + 1) w)
    rcases List.mem_append.1 hv with hv | hv
    · rcases List.mem_append.1 hf with hf | hf
      · rw [pm f hf, um v hv] at hl
        by_cases hwt : w = t
        · rw [hwt, upd_same, pl f hf]
          have h1 := h.lle f.1 (h.pin f hf)
          have := hle f.1
          exact ⟨by omega, .inr (by omega)⟩
        · obtain ⟨h3, h4⟩ := h.ex f hf v hv hl (fun g hg1 hg2 => by
            have := hg g (List.mem_append_left _ hg1)
            rw [pm f hf, pm g hg1, um v hv] at this
            exact this hg2) w (fun e => hwt (hX v w e)) he (fun g hg1 => hx g (List.mem_append_left _ hg1))
          rw [upd_other _ _ hwt, pl f hf]
          exact ⟨h3, h4⟩
      · rw [List.mem_singleton.1 hf, um v hv, upd_same] at hl
        have := hle v
        omega
    · rw [List.mem_singleton] at hv
      subst hv
      exact absurd ((hL w).2 he) (hx (v, L) (by simp) rfl)
  · show s.times + 1 = (s.opn ++ [t]).length + s.done.length
    have := h.tm
    simp
    omega
/-- Gone back from a thing that reaches one met ahead of it. -/
theorem Inv.back {E : Nat → Nat → Prop} {n : Nat} {s : Sk} {u t : Nat} {P : List (Nat × List Nat)} {r : List Nat} (h : Inv E n NoX s) (hp : s.path = P ++ [(u, r)] ++ [(t, [])]) (hlt : s.low t ≠ s.met t) :
    Inv E n NoX { s with path := P ++ [(u, r)], low := upd s.low u (min (s.low u) (s.low t)) } := by
  have hto : t ∈ s.opn := h.pin (t, []) (by rw [hp]; simp)
  have huo : u ∈ s.opn := h.pin (u, r) (by rw [hp]; simp)
  have hut : s.met u < s.met t := h.top_lt hp (u, r) (by simp)
  have hne : t ≠ u := fun e => by rw [e] at hut; exact Nat.lt_irrefl _ hut
  have hlt' : s.low t < s.met t := Nat.lt_of_le_of_ne (h.lle t hto) hlt
  have sub : ∀ f ∈ P ++ [(u, r)], f ∈ s.path := fun f hf => by rw [hp]; exact List.mem_append_left _ hf
  have lle : ∀ v, upd s.low u (min (s.low u) (s.low t)) v ≤ s.low v := fun v => by
    by_cases e : v = u
    · rw [e, upd_same]; exact Nat.min_le_left _ _
    · rw [upd_other _ _ e]; exact Nat.le_refl _
  have hps : (P ++ [(u, r)]).Pairwise (fun a b => s.met a.1 < s.met b.1) := by
    have := h.psrt
    rw [hp, List.pairwise_append] at this
    exact this.1
  have hul : ∀ f ∈ P ++ [(u, r)], f = (u, r) ∨ f ∈ P ∧ s.met f.1 < s.met u := fun f hf => by
    rcases List.mem_append.1 hf with hf | hf
    · rw [List.pairwise_append] at hps
      exact .inr ⟨hf, hps.2.2 f hf (u, r) (by simp)⟩
    · exact .inl (List.mem_singleton.1 hf)
  have hRut : Rch E u t := h.rp (u, r) (sub _ (by simp)) t hto (Nat.le_of_lt hut)
  refine { mle := h.mle, inj := h.inj, mn := h.mn, on := h.on, srt := h.srt, pin := fun f hf => h.pin f (sub f hf), psrt := hps, pe := fun f hf => h.pe f (sub f hf), dn := h.dn, dnd := h.dnd, dsrt := h.dsrt, km := h.km, cl := h.cl, sc := h.sc, lo := fun v hv => ?_, lle := fun v hv => Nat.le_trans (lle v) (h.lle v hv), np := fun v hv hf => ?_, seg := fun v hv => ?_, rp := fun f hf => h.rp f (sub f hf), ex := fun f hf v hv hl hg w _ he hx => ?_, tm := h.tm, ks := h.ks }
  · obtain ⟨w, hw, h1, h2⟩ := h.lo v hv
    by_cases e : v = u
    · subst e
      by_cases hle : s.low v ≤ s.low t
      · exact ⟨w, hw, by simp only [upd_same]; rw [Nat.min_eq_left hle]; exact h1, h2⟩
      · obtain ⟨w', hw', h1', h2'⟩ := h.lo t hto
        exact ⟨w', hw', by simp only [upd_same]; rw [Nat.min_eq_right (by omega)]; exact h1', hRut.trans h2'⟩
    · exact ⟨w, hw, by simp only [upd_other _ _ e]; exact h1, h2⟩
  · refine Nat.lt_of_le_of_lt (lle v) ?_
    by_cases e : v = t
    · rw [e]; exact hlt'
    · refine h.np v hv (fun f hf' => ?_)
      rw [hp] at hf'
      rcases List.mem_append.1 hf' with hf' | hf'
      · exact hf f hf'
      · rw [List.mem_singleton.1 hf']
        exact fun e' => e e'.symm
  · obtain ⟨f, hf, hl⟩ := h.seg v hv
    rw [hp] at hf
    rcases List.mem_append.1 hf with hf | hf
    · exact ⟨f, hf, hl⟩
    · rw [List.mem_singleton.1 hf] at hl
      exact ⟨(u, r), by simp, Nat.le_of_lt (Nat.lt_of_lt_of_le hut hl)⟩
  · replace hg : ∀ g ∈ P ++ [(u, r)], s.met f.1 < s.met g.1 → s.met v < s.met g.1 := hg
    replace hx : ∀ g ∈ P ++ [(u, r)], g.1 = v → w ∉ g.2 := hx
    replace hl : s.met f.1 ≤ s.met v := hl
    show s.met w ≠ 0 ∧ (s.kn w ≠ -1 ∨ upd s.low u (min (s.low u) (s.low t)) f.1 ≤ s.met w)
    have hx' : ∀ g ∈ s.path, g.1 = v → w ∉ g.2 := fun g hg1 e => by
      rw [hp] at hg1
      rcases List.mem_append.1 hg1 with hg1 | hg1
      · exact hx g hg1 e
      · rw [List.mem_singleton.1 hg1]; simp
    by_cases hvt : s.met v < s.met t
    · obtain ⟨h3, h4⟩ := h.ex f (sub f hf) v hv hl (fun g hg1 hg2 => by
        rw [hp] at hg1
        rcases List.mem_append.1 hg1 with hg1 | hg1
        · exact hg g hg1 hg2
        · rw [List.mem_singleton.1 hg1]; exact hvt) w (fun x => x) he hx'
      exact ⟨h3, h4.imp id (fun h4 => Nat.le_trans (lle _) h4)⟩
    · have hfu : f = (u, r) := by
        rcases hul f hf with e | ⟨_, hl2⟩
        · exact e
        · have := hg (u, r) (by simp) hl2
          have : s.met v < s.met u := this
          omega
      subst hfu
      obtain ⟨h3, h4⟩ := h.ex (t, []) (by rw [hp]; simp) v hv (Nat.le_of_not_lt hvt) (fun g hg1 hg2 => by
        rcases h.top_le hp g hg1 with rfl | ⟨_, hl2⟩
        · exact absurd hg2 (Nat.lt_irrefl _)
        · have hg2 : s.met t < s.met g.1 := hg2
          omega) w (fun x => x) he hx'
      refine ⟨h3, h4.imp id (fun h4 => ?_)⟩
      show upd s.low u (min (s.low u) (s.low t)) u ≤ _
      rw [upd_same]
      exact Nat.le_trans (Nat.min_le_right _ _) h4
/-- Gone back from a thing that reaches none met ahead of it: it and all open ones behind it are a knot. -/
theorem Inv.tie {E : Nat → Nat → Prop} {n : Nat} {s : Sk} {t : Nat} {P : List (Nat × List Nat)} {A Z : List Nat} {kn' : Nat → Int} (h : Inv E n NoX s) (hp : s.path = P ++ [(t, [])]) (hlt : s.low t = s.met t) (ho : s.opn = A ++ t :: Z)
    (hk1 : ∀ v ∈ t :: Z, kn' v = (s.knots : Int)) (hk2 : ∀ v, v ∉ t :: Z → kn' v = s.kn v) :
    Inv E n NoX { s with path := P, opn := A, kn := kn', knots := s.knots + 1, done := s.done ++ (t :: Z).reverse } := by
  have hto : t ∈ s.opn := h.pin (t, []) (by rw [hp]; simp)
  have hsrt := h.srt
  rw [ho, List.pairwise_append, List.pairwise_cons] at hsrt
  obtain ⟨sA, ⟨sT, sZ⟩, sAZ⟩ := hsrt
  have hB : ∀ v, v ∈ s.opn → (v ∈ t :: Z ↔ s.met t ≤ s.met v) := fun v hv => by
    constructor
    · intro hv'
      rcases List.mem_cons.1 hv' with rfl | hv'
      · exact Nat.le_refl _
      · exact Nat.le_of_lt (sT v hv')
    · intro hl
      rw [ho] at hv
      rcases List.mem_append.1 hv with hv | hv
      · have := sAZ v hv t (by simp)
        omega
      · exact hv
  have hBo : ∀ v ∈ t :: Z, v ∈ s.opn := fun v hv => by rw [ho]; exact List.mem_append_right _ hv
  have hAo : ∀ v ∈ A, v ∈ s.opn := fun v hv => by rw [ho]; exact List.mem_append_left _ hv
  have hA : ∀ v ∈ A, s.met v < s.met t := fun v hv => sAZ v hv t (by simp)
  have hBk : ∀ v ∈ t :: Z, s.kn v = -1 := fun v hv => ((h.on v).1 (hBo v hv)).2
  have hAk : ∀ v ∈ A, kn' v = s.kn v := fun v hv => hk2 v (fun hv' => by
    have h1 := (hB v (hAo v hv)).1 hv'
    have := hA v hv
    omega)
  have hdn : ∀ v, s.kn v ≠ -1 → kn' v = s.kn v := fun v hv => hk2 v (fun hv' => hv (hBk v hv'))
  have sub : ∀ f ∈ P, f ∈ s.path := fun f hf => by rw [hp]; exact List.mem_append_left _ hf
  -- arrows from the knot lead into it, or to what is known
  have c1 : ∀ v ∈ t :: Z, ∀ w, E v w → w ∈ t :: Z ∨ s.kn w ≠ -1 := fun v hv w he => by
    have hvl := (hB v (hBo v hv)).1 hv
    obtain ⟨h3, h4⟩ := h.ex (t, []) (by rw [hp]; simp) v (hBo v hv) hvl (fun g hg1 hg2 => by
        rcases h.top_le hp g hg1 with rfl | ⟨_, hl2⟩
        · exact absurd hg2 (Nat.lt_irrefl _)
        · have hg2 : s.met t < s.met g.1 := hg2
          omega) w (fun x => x) he (fun g hg1 e => by
        rcases h.top_le hp g hg1 with rfl | ⟨_, hl2⟩
        · simp
        · rw [e] at hl2
          omega)
    by_cases hk : s.kn w = -1
    · rcases h4 with h4 | h4
      · exact .inr h4
      · have h4 : s.low t ≤ s.met w := h4
        exact .inl ((hB w ((h.on w).2 ⟨h3, hk⟩)).2 (by omega))
    · exact .inr hk
  have c2 : ∀ v ∈ t :: Z, Rch E t v := fun v hv => h.rp (t, []) (by rw [hp]; simp) v (hBo v hv) ((hB v (hBo v hv)).1 hv)
  have c3 : ∀ (m : Nat) (v : Nat), v ∈ t :: Z → s.met v ≤ m → Rch E v t := by
    intro m
    induction m with
    | zero => exact fun v hv hm => absurd (Nat.le_zero.1 hm) ((h.on v).1 (hBo v hv)).1
    | succ m ih =>
      intro v hv hm
      by_cases e : v = t
      · rw [e]; exact .refl _
      · have hvl := (hB v (hBo v hv)).1 hv
        have hnp := h.np v (hBo v hv) (fun f hf e' => by
          rcases h.top_le hp f hf with rfl | ⟨_, hl2⟩
          · exact e e'.symm
          · rw [e'] at hl2
            omega)
        obtain ⟨w, hw, h1, h2⟩ := h.lo v (hBo v hv)
        have hwB : w ∈ t :: Z ∨ s.kn w ≠ -1 := h2.keeps (Q := fun w => w ∈ t :: Z ∨ s.kn w ≠ -1) (fun a b ha hab => by
          rcases ha with ha | ha
          · exact c1 a ha b hab
          · exact .inr (h.cl a b ha hab).1) (.inl hv)
        rcases hwB with hwB | hwB
        · exact h2.trans (ih w hwB (by omega))
        · exact absurd ((h.on w).1 hw).2 hwB
  refine { mle := h.mle, inj := h.inj, mn := h.mn, on := fun v => ?_, srt := sA, pin := fun f hf => ?_, psrt := ?_, pe := fun f hf => h.pe f (sub f hf), dn := fun v => ?_, dnd := ?_, dsrt := ?_, km := fun v hk => ?_, cl := fun v w hk he => ?_, sc := fun u v hk e => ?_, lo := fun v hv => ?_, lle := fun v hv => h.lle v (hAo v hv), np := fun v hv hf => ?_, seg := fun v hv => ?_, rp := fun f hf v hv => h.rp f (sub f hf) v (hAo v hv), ex := fun f hf v hv hl hg w _ he hx => ?_, tm := ?_, ks := ?_ }
  · show v ∈ A ↔ s.met v ≠ 0 ∧ kn' v = -1
    constructor
    · intro hv
      rw [hAk v hv]
      exact (h.on v).1 (hAo v hv)
    · rintro ⟨h1, h2⟩
      have hvB : v ∉ t :: Z := fun hv => by
        have := hk1 v hv
        omega
      rw [hk2 v hvB] at h2
      have := (h.on v).2 ⟨h1, h2⟩
      rw [ho] at this
      exact (List.mem_append.1 this).resolve_right hvB
  · have h1 := h.pin f (sub f hf)
    have h2 := h.top_lt hp f hf
    rw [ho] at h1
    refine (List.mem_append.1 h1).resolve_right (fun hv => ?_)
    have := (hB f.1 (h.pin f (sub f hf))).1 hv
    omega
  · have := h.psrt
    rw [hp, List.pairwise_append] at this
    exact this.1
  · show v ∈ s.done ++ (t :: Z).reverse ↔ kn' v ≠ -1
    rw [List.mem_append, List.mem_reverse]
    by_cases hv : v ∈ t :: Z
    · have := hk1 v hv
      exact ⟨fun _ => by omega, fun _ => .inr hv⟩
    · rw [hk2 v hv, ← h.dn v]
      exact ⟨fun h => h.resolve_right hv, .inl⟩
  · show (s.done ++ (t :: Z).reverse).Nodup
    refine List.nodup_append.2 ⟨h.dnd, (List.reverse_perm _).nodup_iff.2 ?_, fun a ha b hb e => ?_⟩
    · have := h.opn_nodup
      rw [ho, List.nodup_append] at this
      exact this.2.1
    · subst e
      exact (h.dn a).1 ha (hBk a (List.mem_reverse.1 hb))
  · show (s.done ++ (t :: Z).reverse).Pairwise (fun a b => kn' a ≤ kn' b)
    rw [List.pairwise_append]
    refine ⟨h.dsrt.imp_of_mem (fun {a b} ha hb hab => by rw [hdn a ((h.dn a).1 ha), hdn b ((h.dn b).1 hb)]; exact hab), ?_, fun a ha b hb => ?_⟩
    · refine List.Pairwise.imp_of_mem (R := fun _ _ => True) (fun {a b} ha hb _ => ?_) (List.pairwise_of_forall (fun _ _ => trivial))
      rw [hk1 a (List.mem_reverse.1 ha), hk1 b (List.mem_reverse.1 hb)]
      exact Int.le_refl _
    · rw [hdn a ((h.dn a).1 ha), hk1 b (List.mem_reverse.1 hb)]
      have := (h.km a ((h.dn a).1 ha)).2.2
      omega
  · show s.met v ≠ 0 ∧ 0 ≤ kn' v ∧ kn' v < ((s.knots + 1 : Nat) : Int)
    by_cases hv : v ∈ t :: Z
    · rw [hk1 v hv]
      exact ⟨((h.on v).1 (hBo v hv)).1, by omega, by omega⟩
    · replace hk : kn' v ≠ -1 := hk
      rw [hk2 v hv] at hk ⊢
      obtain ⟨h1, h2, h3⟩ := h.km v hk
      exact ⟨h1, h2, by omega⟩
  · replace hk : kn' v ≠ -1 := hk
    show kn' w ≠ -1 ∧ kn' w ≤ kn' v
    by_cases hv : v ∈ t :: Z
    · rw [hk1 v hv]
      rcases c1 v hv w he with hw | hw
      · rw [hk1 w hw]; exact ⟨by omega, Int.le_refl _⟩
      · rw [hdn w hw]
        have := (h.km w hw).2.2
        exact ⟨hw, by omega⟩
    · rw [hk2 v hv] at hk ⊢
      obtain ⟨h1, h2⟩ := h.cl v w hk he
      rw [hdn w h1]
      exact ⟨h1, h2⟩
  · replace hk : kn' u ≠ -1 := hk
    replace e : kn' u = kn' v := e
    by_cases hu : u ∈ t :: Z
    · by_cases hv : v ∈ t :: Z
      · exact (c3 _ u hu (Nat.le_refl _)).trans (c2 v hv)
      · rw [hk1 u hu, hk2 v hv] at e
        have h1 : s.kn v ≠ -1 := by omega
        have := (h.km v h1).2.2
        omega
    · rw [hk2 u hu] at e hk
      by_cases hv : v ∈ t :: Z
      · rw [hk1 v hv] at e
        have := (h.km u hk).2.2
        omega
      · rw [hk2 v hv] at e
        exact h.sc u v hk e
  · obtain ⟨w, hw, h1, h2⟩ := h.lo v (hAo v hv)
    refine ⟨w, ?_, h1, h2⟩
    have h3 := h.lle v (hAo v hv)
    have h4 := hA v hv
    have hw' := hw
    rw [ho] at hw'
    refine (List.mem_append.1 hw').resolve_right (fun hb => ?_)
    have := (hB w hw).1 hb
    omega
  · refine h.np v (hAo v hv) (fun f hf' e => ?_)
    rcases h.top_le hp f hf' with rfl | ⟨hf', _⟩
    · have := hA v hv
      have e : t = v := e
      rw [e] at this
      exact Nat.lt_irrefl _ this
    · exact hf f hf' e
  · obtain ⟨f, hf, hl⟩ := h.seg v (hAo v hv)
    rcases h.top_le hp f hf with rfl | ⟨hf, _⟩
    · have := hA v hv
      have hl : s.met t ≤ s.met v := hl
      omega
    · exact ⟨f, hf, hl⟩
  · obtain ⟨h3, h4⟩ := h.ex f (sub f hf) v (hAo v hv) hl (fun g hg1 hg2 => by
      rcases h.top_le hp g hg1 with rfl | ⟨hg1, _⟩
      · exact hA v hv
      · exact hg g hg1 hg2) w (fun x => x) he (fun g hg1 e => by
      rcases h.top_le hp g hg1 with rfl | ⟨hg1, _⟩
      · simp
      · exact hx g hg1 e)
    exact ⟨h3, h4.imp (fun h4 => by show kn' w ≠ -1; rw [hdn w h4]; exact h4) id⟩
  · show s.times = A.length + (s.done ++ (t :: Z).reverse).length
    have := h.tm
    rw [ho] at this
    simp at this ⊢
    omega
  · show s.knots + 1 ≤ (s.done ++ (t :: Z).reverse).length
    have := h.ks
    simp
    omega
/-- When the way is gone back whole, nothing is open. -/
theorem Inv.none_open {E : Nat → Nat → Prop} {n : Nat} {X : Nat → Nat → Prop} {s : Sk} (h : Inv E n X s) (hp : s.path = []) : s.opn = [] := by
  refine List.eq_nil_iff_forall_not_mem.2 (fun v hv => ?_)
  obtain ⟨f, hf, _⟩ := h.seg v hv
  rw [hp] at hf
  cases hf
/-- The first one of the way reaches none ahead of it. -/
theorem Inv.root_low {E : Nat → Nat → Prop} {n : Nat} {X : Nat → Nat → Prop} {s : Sk} {t : Nat} {r : List Nat} (h : Inv E n X s) (hp : s.path = [(t, r)]) : s.low t = s.met t := by
  have hto : t ∈ s.opn := h.pin (t, r) (by rw [hp]; simp)
  obtain ⟨w, hw, h1, _⟩ := h.lo t hto
  obtain ⟨f, hf, hl⟩ := h.seg w hw
  rw [hp, List.mem_singleton] at hf
  subst hf
  have := h.lle t hto
  have hl : s.met t ≤ s.met w := hl
  omega
/-- What is found at the end. -/
structure Tied (E : Nat → Nat → Prop) (n : Nat) (s : Sk) : Prop where
  kn : ∀ v, v < n → 0 ≤ s.kn v ∧ s.kn v < s.knots
  le : ∀ v w, v < n → Rch E v w → s.kn w ≤ s.kn v
  rch : ∀ u v, u < n → s.kn u = s.kn v → Rch E u v
  dn : ∀ v, v ∈ s.done ↔ v < n
  dnd : s.done.Nodup
  dsrt : s.done.Pairwise (fun a b => s.kn a ≤ s.kn b)
  ks : s.knots ≤ n
theorem Tied.same {E : Nat → Nat → Prop} {n : Nat} {s : Sk} (h : Tied E n s) {u v : Nat} (hu : u < n) (hv : v < n) : s.kn u = s.kn v ↔ Rch E u v ∧ Rch E v u :=
  ⟨fun e => ⟨h.rch u v hu e, h.rch v u hv e.symm⟩, fun ⟨h1, h2⟩ => Int.le_antisymm (h.le v u hv h2) (h.le u v hu h1)⟩
theorem Inv.tied {E : Nat → Nat → Prop} {n : Nat} {s : Sk} (h : Inv E n NoX s) (hp : s.path = []) (hm : ∀ v, v < n → s.met v ≠ 0) : Tied E n s := by
  have ho := h.none_open hp
  have hk : ∀ v, v < n → s.kn v ≠ -1 := fun v hv e => by
    have := (h.on v).2 ⟨hm v hv, e⟩
    rw [ho] at this
    cases this
  refine ⟨fun v hv => (h.km v (hk v hv)).2, fun v w hv hr => ?_, fun u v hu e => h.sc u v (hk u hu) e, fun v => ⟨fun hv => h.mn v (h.km v ((h.dn v).1 hv)).1, fun hv => (h.dn v).2 (hk v hv)⟩, h.dnd, h.dsrt, ?_⟩
  · have := hr.keeps (Q := fun w => s.kn w ≠ -1 ∧ s.kn w ≤ s.kn v) (fun a b ha hab => by
      obtain ⟨h1, h2⟩ := h.cl a b ha.1 hab
      exact ⟨h1, Int.le_trans h2 ha.2⟩) ⟨hk v hv, Int.le_refl _⟩
    exact this.2
  · have h1 := h.ks
    have h2 := nodup_len n s.done h.dnd (fun x hx => h.mn x (h.km x ((h.dn x).1 hx)).1)
    omega
end
end Go.Proofs.Ytghfodjefjijdaa
