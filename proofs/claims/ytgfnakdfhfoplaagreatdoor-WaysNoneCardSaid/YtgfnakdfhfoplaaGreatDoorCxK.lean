/- Slicing and maps on what is known. Generic over the program. -/
import Derived.Test.YtgfnakdfhfoplaaGreatDoorCxJ
namespace Go.Proofs.YtgfnakdfhfoplaaGreatDoor.Cx
open Go
section
variable {P : Program} {m m0 m1 m2 m3 : Mp} {s s1 s2 s3 : St} {w w1 w2 w3 : World}
/-! ### Slicing -/
def lowOf : Option Value → Option Nat
  | none => some 0
  | some (.int _ n) => some n.toNat
  | _ => none
/-- A slice of which the room is not known may be cut where that does not matter. -/
def sliceOk (P : Program) (s : St) (t : TypeId) (x : Value) (lo : Option Value) (mx : Option Value) : Bool := match P.underlying t, x with
  | some .string, _ => true
  | some (.array _ _), .pointer (some a) => live s a.block
  | some (.slice _), .slice (some ⟨b, _, none⟩) _ cap => live s b || (mx.isNone && (match lowOf lo with
    | some l => Nat.blt l cap || Nat.beq l 0
    | none => false))
  | some (.slice _), .slice none _ _ => true
  | _, _ => false
def OVR (m : Mp) (a b : Option Value) : Prop := a = none ∧ b = none ∨ ∃ v v', a = some v ∧ b = some v' ∧ VR m v v'
theorem OVR.mono {m m' : Mp} (hm : m.le m') {a b : Option Value} (h : OVR m a b) : OVR m' a b := by
  rcases h with h | ⟨v, v', h1, h2, h3⟩
  · exact .inl h
  · exact .inr ⟨v, v', h1, h2, h3.mono hm⟩
theorem sim_sliceBound {v v' : Value} (h : VR m0 v v') (y z : Nat) (hz : y ≤ z) (c : BoundsCode) : Sim P (fun _ a b => a = b ∧ a ≤ y ∧ (∀ n, lowOf (some v) = some n → a = n)) m0 (Instr.sliceBound v y c) (Instr.sliceBound v' z c) := by
  cases h with
  | int k n =>
    intro m s w hm ho x s2 hr
    have hr : arun P (if 0 ≤ n ∧ n ≤ (y : Int) then (Pure.pure n.toNat : Sem Nat) else boundsPanic k n y c) s = some (x, s2) := hr
    split at hr
    · rename_i hn
      have hr : some (n.toNat, s) = some (x, s2) := hr
      injection hr with hr; injection hr with e1 e2; subst e1; subst e2
      refine ⟨m, n.toNat, w, ?_, ⟨rfl, by omega, fun q hq => by injection hq⟩, .refl ho⟩
      show (if 0 ≤ n ∧ n ≤ (z : Int) then (Pure.pure n.toNat : Sem Nat) else boundsPanic k n z c).run P w = _
      rw [if_pos ⟨hn.1, by omega⟩]; rfl
    · rw [dead_bounds _ _ _ _ s] at hr; cases hr
  | _ => exact Dead.sim (Dead.left (fun _ => rfl) _)
theorem sim_sliceBounds {isS : Bool} {len cap x : Nat} {lo lo' hi hi' mx mx' : Option Value} (hl : OVR m0 lo lo') (hh : OVR m0 hi hi') (hm : OVR m0 mx mx') (hx : mx = none ∨ x = 0) :
    Sim P (fun _ p q => p.1 = q.1 ∧ p.2.1 = q.2.1 ∧ q.2.2 = p.2.2 + x ∧ (mx = none → p.2.2 = cap) ∧ (∀ n, lowOf lo = some n → p.1 = n)) m0 (Instr.sliceBounds isS len cap lo hi mx) (Instr.sliceBounds isS len (cap + x) lo' hi' mx') := by
  unfold Instr.sliceBounds
  rcases hm with ⟨rfl, rfl⟩ | ⟨v, v', rfl, rfl, hv⟩
  · refine Sim.bind (R := fun _ a b => a = cap ∧ b = cap + x) (Sim.pure ⟨rfl, rfl⟩ fun _ _ h => h) fun m1 a b hm1 hab => ?_
    obtain ⟨rfl, rfl⟩ := hab
    rcases hh with ⟨rfl, rfl⟩ | ⟨u, u', rfl, rfl, hu⟩
    · refine Sim.bind (R := fun _ a b => a = len ∧ b = len) (Sim.pure ⟨rfl, rfl⟩ fun _ _ h => h) fun m2 a2 b2 hm2 hab => ?_
      obtain ⟨rfl, rfl⟩ := hab
      rcases hl with ⟨rfl, rfl⟩ | ⟨v, v', rfl, rfl, hv⟩
      · exact Sim.pure ⟨rfl, rfl, rfl, fun _ => rfl, fun n hn => by injection hn⟩ fun _ _ h => h
      · refine Sim.bind (sim_sliceBound (hv.mono (hm1.trans hm2)) b2 b2 (Nat.le_refl _) _) fun m3 c d hm3 hcd => ?_
        obtain ⟨rfl, _, hn⟩ := hcd
        exact Sim.pure ⟨rfl, rfl, rfl, fun _ => rfl, hn⟩ fun _ _ h => h
    · refine Sim.bind (sim_sliceBound (hu.mono hm1) a (a + x) (by omega) _) fun m2 c d hm2 hcd => ?_
      obtain ⟨rfl, _, _⟩ := hcd
      rcases hl with ⟨rfl, rfl⟩ | ⟨v, v', rfl, rfl, hv⟩
      · exact Sim.pure ⟨rfl, rfl, rfl, fun _ => rfl, fun n hn => by injection hn⟩ fun _ _ h => h
      · refine Sim.bind (sim_sliceBound (hv.mono (hm1.trans hm2)) c c (Nat.le_refl _) _) fun m3 c d hm3 hcd => ?_
        obtain ⟨rfl, _, hn⟩ := hcd
        exact Sim.pure ⟨rfl, rfl, rfl, fun _ => rfl, hn⟩ fun _ _ h => h
  · have hx0 : x = 0 := by rcases hx with hx | hx; cases hx; exact hx
    subst hx0
    dsimp only
    refine Sim.bind (sim_sliceBound hv cap (cap + 0) (by omega) _) fun m1 a b hm1 hab => ?_
    obtain ⟨rfl, _, _⟩ := hab
    rcases hh with ⟨rfl, rfl⟩ | ⟨u, u', rfl, rfl, hu⟩
    · exact Dead.sim (Dead.left (fun _ => rfl) _)
    · refine Sim.bind (sim_sliceBound (hu.mono hm1) a a (Nat.le_refl _) _) fun m2 c d hm2 hcd => ?_
      obtain ⟨rfl, _, _⟩ := hcd
      rcases hl with ⟨rfl, rfl⟩ | ⟨v, v', rfl, rfl, hv⟩
      · exact Sim.pure ⟨rfl, rfl, rfl, (by intro h; cases h), fun n hn => by injection hn⟩ fun _ _ h => h
      · refine Sim.bind (sim_sliceBound (hv.mono (hm1.trans hm2)) c c (Nat.le_refl _) _) fun m3 c d hm3 hcd => ?_
        obtain ⟨rfl, _, hn⟩ := hcd
        exact Sim.pure ⟨rfl, rfl, rfl, (by intro h; cases h), hn⟩ fun _ _ h => h
theorem cut_rel {a a' : Addr} {b c o : Nat} (ha : a = ⟨b, o, none⟩ ∧ a' = ⟨c, o, none⟩) (hb : m b = some (c, 0)) (k n q : Nat) : VR m (.slice (some (a.add k)) n q) (.slice (some (a'.add k)) n q) := by
  obtain ⟨rfl, rfl⟩ := ha
  unfold Addr.add
  split
  · exact .slice hb
  · exact .slice hb
theorem Addr.add_zero' (a : Addr) : a.add 0 = a := if_pos rfl
theorem sliceAt_ok (h : Ok P m s w) {t : TypeId} {v v' : Value} {lo lo' hi hi' mx mx' : Option Value} (hv : VR m v v') (hl : OVR m lo lo') (hh : OVR m hi hi') (hm : OVR m mx mx') (hok : sliceOk P s t v lo mx = true) :
    SimAt P VR m s w (arun P (Instr.sliceAt t v lo hi mx) s) (Instr.sliceAt t v' lo' hi' mx') := by
  suffices hs : Sim P VR m (Instr.sliceAt t v lo hi mx) (Instr.sliceAt t v' lo' hi' mx') from hs.at h
  unfold Instr.sliceAt
  refine sim_under t fun d hd => ?_
  unfold sliceOk at hok
  rw [hd] at hok
  cases d with
  | array n e =>
    cases hv <;> first | (cases hok; done) | skip
    rename_i b c x o hb
    obtain ⟨o1, c1, cs, e1, g1, g2, _⟩ := live_ok h hok
    dsimp only at g2
    rw [hb] at g2; injection g2 with g2; injection g2 with _ g2; subst g2
    refine Sim.bind (R := fun _ p q => p = (⟨b, o, none⟩ : Addr) ∧ q = (⟨c, o, none⟩ : Addr)) (Sim.pure ⟨rfl, rfl⟩ fun _ _ h => h) fun m1 a a' hm1 ha => ?_
    obtain ⟨rfl, rfl⟩ := ha
    refine Sim.bind (sim_sliceBounds (x := 0) (hl.mono hm1) (hh.mono hm1) (hm.mono hm1) (.inr rfl)) fun m2 p q hm2 hpq => ?_
    obtain ⟨l, hi1, mm⟩ := p
    obtain ⟨l', hi2, mm'⟩ := q
    obtain ⟨h1, h2, h3, _⟩ := hpq
    dsimp only at h1 h2 h3
    subst h1; subst h2; subst h3
    refine Sim.quiet (.sizeOf e) fun z => sim_pureV ?_
    have hb := hm2 _ _ (hm1 _ _ hb)
    split
    · exact .slice hb
    · exact cut_rel ⟨rfl, rfl⟩ hb _ _ _
  | slice e =>
    dsimp only
    unfold Instr.slice
    refine sim_under t fun d2 hd2 => ?_
    rw [hd] at hd2; injection hd2 with hd2; subst hd2
    cases hv with
    | snil n k =>
      dsimp only
      refine Sim.bind (sim_sliceBounds (x := 0) hl hh hm (.inr rfl)) fun m2 p q hm2 hpq => ?_
      obtain ⟨l, hi1, mm⟩ := p
      obtain ⟨l', hi2, mm'⟩ := q
      obtain ⟨h1, h2, h3, _⟩ := hpq
      dsimp only at h1 h2 h3
      subst h1; subst h2; subst h3
      refine Sim.quiet (.sizeOf e) fun z => sim_pureV ?_
      have e1 : ∀ (c : Prop) [Decidable c] (k : Nat), (if c then (none : Option Addr) else Option.map (fun x : Addr => x.add k) none) = none := fun c _ k => by split <;> rfl
      simp only [e1]
      exact .snil _ _
    | slice hb =>
      rename_i b c x o n k
      dsimp only at hok ⊢
      have hcase : x = 0 ∨ (mx = none ∧ ∃ l, lowOf lo = some l ∧ (l < k ∨ l = 0)) := by
        rcases Bool.or_eq_true _ _ ▸ hok with h1 | h1
        · obtain ⟨o1, c1, cs, e1, g1, g2, _⟩ := live_ok h h1
          rw [hb] at g2; injection g2 with g2; injection g2 with _ g2; exact .inl g2
        · rw [Bool.and_eq_true] at h1
          obtain ⟨h1, h2⟩ := h1
          refine .inr ⟨(by cases mx; rfl; cases h1), ?_⟩
          cases hl2 : lowOf lo with
          | none => rw [hl2] at h2; cases h2
          | some l =>
            rw [hl2] at h2
            dsimp only at h2
            rw [Bool.or_eq_true, Nat.blt_eq, Nat.beq_eq] at h2
            exact ⟨l, rfl, h2⟩
      refine Sim.bind (sim_sliceBounds (x := x) hl hh hm (by rcases hcase with h1 | h1; exact .inr h1; exact .inl h1.1)) fun m2 p q hm2 hpq => ?_
      obtain ⟨l, hi1, mm⟩ := p
      obtain ⟨l', hi2, mm'⟩ := q
      obtain ⟨h1, h2, h3, h4, h5⟩ := hpq
      dsimp only at h1 h2 h3 h4 h5
      subst h1; subst h2; subst h3
      refine Sim.quiet (.sizeOf e) fun z => sim_pureV ?_
      have hb := hm2 _ _ hb
      rcases hcase with rfl | ⟨hmx, l0, hl0, hlt⟩
      · simp only [Nat.add_zero]
        split
        · exact .slice hb
        · simp only [Option.map_some]
          exact cut_rel ⟨rfl, rfl⟩ hb _ _ _
      · have e1 := h5 l0 hl0
        have e2 := h4 hmx
        subst e1; subst e2
        dsimp only
        rcases hlt with hlt | hlt
        · rw [if_neg (by omega), if_neg (by omega), show mm + x - l = (mm - l) + x by omega]
          simp only [Option.map_some, Addr.add]
          split <;> exact .slice hb
        · subst hlt
          simp only [Nat.zero_mul, Option.map_some, Addr.add_zero', ite_self, Nat.sub_zero]
          exact .slice hb
    | _ => first | (cases hok; done) | exact Sim.halt
  | string =>
    dsimp only
    unfold Instr.slice
    refine sim_under t fun d2 hd2 => ?_
    rw [hd] at hd2; injection hd2 with hd2; subst hd2
    cases hv with
    | string b =>
      dsimp only
      rcases hm with ⟨rfl, rfl⟩ | ⟨u, u', rfl, rfl, hu⟩
      · refine Sim.bind (sim_sliceBounds (x := 0) hl hh (.inl ⟨rfl, rfl⟩) (.inr rfl)) fun m2 p q hm2 hpq => ?_
        obtain ⟨l, hi1, mm⟩ := p
        obtain ⟨l', hi2, mm'⟩ := q
        obtain ⟨h1, h2, h3, _⟩ := hpq
        dsimp only at h1 h2 h3
        subst h1; subst h2
        exact sim_pureV (.string _)
      · exact Dead.sim (Dead.left (fun _ => rfl) _)
    | _ => exact Sim.halt
  | _ => cases hok
end
end Go.Proofs.YtgfnakdfhfoplaaGreatDoor.Cx
