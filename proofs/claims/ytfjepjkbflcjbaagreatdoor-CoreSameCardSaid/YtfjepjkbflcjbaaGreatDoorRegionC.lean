/- A region whose order is drawn, as RegionS has it, with one thing more: what is listed is closed under what must stand ahead. Generic over the program. -/
import Derived.Test.YtfjepjkbflcjbaaGreatDoorRegionS
namespace Go.Proofs.YtfjepjkbflcjbaaGreatDoor.Reg
open Go Go.RowKit
section
variable {P : Program} {ops : Array Oper} {Q : Exit → Act → World → Prop}
/-- Whatever is listed has all ahead of it listed. -/
def ClosedL (ops : Array Oper) (l : Array Bool) : Prop := ∀ (k : Nat) (o : Oper), ops[k]? = some o → l.getD k false = true → ∀ e ∈ o.after, Region.binds .any e = true → l.getD e.on false = true
/-- Does one operation stand behind another one? -/
def reach (ops : Array Oper) : Nat → Nat → Nat → Bool
  | 0, k, i => k == i
  | f + 1, k, i => k == i || match ops[k]? with
    | some o => o.after.any fun e => Region.binds .any e && reach ops f e.on i
    | none => false
theorem closed_reach {l : Array Bool} (h : ClosedL ops l) : ∀ (f k i : Nat), reach ops f k i = true → l.getD k false = true → l.getD i false = true
  | 0, k, i, hr, hk => by
    have e : k = i := by simpa [reach] using hr
    rw [← e]; exact hk
  | f + 1, k, i, hr, hk => by
    rw [reach, Bool.or_eq_true] at hr
    rcases hr with hr | hr
    · have e : k = i := by simpa using hr
      rw [← e]; exact hk
    · cases ho : ops[k]? with
      | none => rw [ho] at hr; cases hr
      | some o =>
        rw [ho] at hr
        simp only [Array.any_eq_true'] at hr
        obtain ⟨e, he, hb⟩ := hr
        rw [Bool.and_eq_true] at hb
        exact closed_reach h f e.on i hb.2 (h k o ho hk e he hb.1)
theorem closed_set {l : Array Bool} {k : Nat} {o : Oper} (h : ClosedL ops l) (ho : ops[k]? = some o) (hall : ∀ e ∈ o.after, Region.binds .any e = true → l.getD e.on false = true) : ClosedL ops (l.setIfInBounds k true) := by
  intro j p hp hl e he hb
  by_cases hjk : j = k
  · subst hjk
    rw [ho] at hp; obtain rfl := Option.some.inj hp
    exact getD_set_true (hall e he hb)
  · rw [getD_set_ne false (Ne.symm hjk)] at hl
    exact getD_set_true (h j p hp hl e he hb)
/-- What is asked of an operation. -/
def OpOKC (P : Program) (ops : Array Oper) (told : Nat → Value) (S : Array Bool → World → Prop) (a0 : Act) (k : Nat) (o : Oper) : Prop :=
  ∀ (listed : Array Bool) (A : Act) (w : World), InvS ops told S a0 listed A w → ClosedL ops listed → k < listed.size → listed.getD k false = false → (∀ e ∈ o.after, Region.binds .any e = true → listed.getD e.on false = true) →
    (Region.wanted o (yielded ops A.tmps) = true ∧ Yields P o A w fun v w' => v = told k ∧ S (listed.setIfInBounds k true) w') ∨
    (Region.wanted o (yielded ops A.tmps) = false ∧ told k = undef ∧ S (listed.setIfInBounds k true) w)
def AllOKC (P : Program) (ops : Array Oper) (told : Nat → Value) (S : Array Bool → World → Prop) (a0 : Act) : Nat → List Oper → Prop
  | _, [] => True
  | k, o :: r => OpOKC P ops told S a0 k o ∧ AllOKC P ops told S a0 (k + 1) r
theorem invS_weak {told : Nat → Value} {S S' : Array Bool → World → Prop} {a0 : Act} {listed : Array Bool} {A : Act} {w : World} (h : InvS ops told S a0 listed A w) (hS : S' listed w) : InvS ops told S' a0 listed A w :=
  ⟨h.size, h.len, h.defers, h.old, h.val, hS⟩
theorem yields_mono {o : Oper} {A : Act} {w : World} {R R' : Value → World → Prop} (h : Yields P o A w R) (hR : ∀ v w', R v w' → R' v w') : Yields P o A w R' := by
  unfold Yields at *
  generalize (execOp A.eval o).run P w = r at *
  cases r with
  | ok n w' =>
    cases n <;> simp only at h ⊢
    case value v => exact hR _ _ h
    case skip => exact hR _ _ h
    case enter f args => exact h.mono fun e w'' ⟨v, he, hr⟩ => ⟨v, he, hR _ _ hr⟩
  | _ => exact h
theorem allOKC_S {told : Nat → Value} {S : Array Bool → World → Prop} {a0 : Act} : ∀ (l : List Oper) (k : Nat), (∀ i o, l[i]? = some o → ops[k + i]? = some o) → AllOKC P ops told S a0 k l → AllOKS P ops told (fun l X => S l X ∧ ClosedL ops l) a0 k l
  | [], _, _, _ => trivial
  | o :: r, k, hl, h => by
    refine ⟨fun listed A w hI hin hun hall => ?_, allOKC_S r (k + 1) (fun i o hi => by rw [show k + 1 + i = k + (i + 1) by omega]; exact hl (i + 1) o (by simpa using hi)) h.2⟩
    have hc := closed_set hI.st.2 (hl 0 o rfl) hall
    rcases h.1 listed A w (invS_weak hI hI.st.1) hI.st.2 hin hun hall with ⟨h1, h2⟩ | ⟨h1, h2, h3⟩
    · exact .inl ⟨h1, yields_mono h2 fun v w' ⟨e, hs⟩ => ⟨e, hs, hc⟩⟩
    · exact .inr ⟨h1, h2, h3, hc⟩
/-- The theorem: S is what holds of the world once the listed operations are done. -/
theorem wp_region_C {id : Nat} {a : Act} {w : World} {l : List Oper} (told : Nat → Value) (S : Array Bool → World → Prop) (ks : List Nat) (hks : ks = List.range l.length) (hm : P.follows .mixedOrders = true) (hB : checkB l.toArray a.tmps.size = true)
    (h0 : S (Array.replicate l.length false) w.drew)
    (hok : AllOKC P l.toArray told S a 0 l)
    (hend : ∀ w', S (Array.replicate l.length true) w' → Q .normal { tmps := finalTmps l.toArray (fun i => .inl (told i)) (fun _ => 0) ks a.tmps, defers := a.defers } w') :
    (Code.region id l.toArray true).wp P Q a w := by
  refine wp_region_S told (fun l' X => S l' X ∧ ClosedL l.toArray l') ks hks hm hB ⟨h0, ?_⟩ (allOKC_S l 0 (fun i o hi => by simpa using hi) hok) (fun w' h => hend w' h.1)
  intro k o _ hl
  rw [show (Array.replicate l.length false).getD k false = false by rw [Array.getD_eq_getD_getElem?, Array.getElem?_replicate]; split <;> rfl] at hl
  cases hl
/-- Ahead of operation n the world is W0, behind it R holds of it. -/
structure OneC (n : Nat) (W0 : World) (R : World → Prop) (l : Array Bool) (X : World) : Prop where
  ahead : l.getD n false = false → X = W0
  done : l.getD n false = true → R X
theorem OneC.at {n i : Nat} {W0 : World} {R : World → Prop} {l : Array Bool} {X : World} (h : OneC n W0 R l X) (hcl : ClosedL ops l) (hr : reach ops 30 n i = true) (hun : l.getD i false = false) : W0 = X := by
  cases e : l.getD n false with
  | false => exact (h.ahead e).symm
  | true => rw [closed_reach hcl _ _ _ hr e] at hun; cases hun
theorem OneC.up {n i : Nat} {W0 : World} {R : World → Prop} {l : Array Bool} {X : World} (h : OneC n W0 R l X) (hi : i ≠ n) : OneC n W0 R (l.setIfInBounds i true) X := by
  refine ⟨fun e => ?_, fun e => ?_⟩
  · rw [getD_set_ne false hi] at e; exact h.ahead e
  · rw [getD_set_ne false hi] at e; exact h.done e
theorem OneC.put {n : Nat} {W0 Y : World} {R : World → Prop} {l : Array Bool} (hin : n < l.size) (hR : R Y) : OneC n W0 R (l.setIfInBounds n true) Y := by
  refine ⟨fun e => ?_, fun _ => hR⟩
  rw [set_self hin] at e; cases e
theorem OneC.start (n k : Nat) (W0 : World) (R : World → Prop) : OneC n W0 R (Array.replicate k false) W0 :=
  ⟨fun _ => rfl, fun e => by simp [Array.getD_eq_getD_getElem?, Array.getElem?_replicate] at e; split at e <;> simp_all⟩
end
end Go.Proofs.YtfjepjkbflcjbaaGreatDoor.Reg
