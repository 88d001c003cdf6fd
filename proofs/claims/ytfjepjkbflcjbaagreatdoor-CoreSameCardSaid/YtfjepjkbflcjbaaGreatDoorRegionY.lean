/- A region whose order is drawn, told ahead, whose last operation waits for all others and leaves no value: a store into memory that was there. -/
import Derived.Test.YtfjepjkbflcjbaaGreatDoorRegion
namespace Go.Proofs.YtfjepjkbflcjbaaGreatDoor.Reg
open Go Go.RowKit
section
variable {P : Program} {ops : Array Oper} {Q : Exit → Act → World → Prop}
/-- An operation that leaves no value may be called done. -/
theorem Inv.skip {told : Nat → Told} {a0 : Act} {w0 : World} {G : Nat → Nat} {listed : Array Bool} {A : Act} {w : World} {k : Nat} {o : Oper} (h : Inv ops told [] a0 w0 G listed A w) (ho : ops[k]? = some o) (hd : o.dst = none) :
    Inv ops told [] a0 w0 G (listed.setIfInBounds k true) A w := by
  have other : ∀ (i : Nat) (p : Oper) d, ops[i]? = some p → p.dst = some d → (listed.setIfInBounds k true).getD i false = true → listed.getD i false = true := by
    intro i p d hp hpd hl
    rcases set_true hl with e | hl
    · subst e
      rw [ho] at hp; obtain rfl := Option.some.inj hp
      rw [hd] at hpd; cases hpd
    · exact hl
  refine ⟨by simpa using h.size, h.len, h.defers, ?_, h.base, ?_, ?_, ?_, ?_⟩
  · exact fun d hdd => h.old d fun i o' ho' hl => hdd i o' ho' (getD_set_true hl)
  · exact fun i p d x hp hpd hx hl => h.val i p d x hp hpd hx (other i p d hp hpd hl)
  · exact fun i p d c hp hpd hc hl => h.mem i p d c hp hpd hc (other i p d hp hpd hl)
  · intro f hf; cases hf
  · exact fun i j p q d e c c' hp hpd hc hl hq hqd hc' hl' hne => h.apart i j p q d e c c' hp hpd hc (other i p d hp hpd hl) hq hqd hc' (other j q e hq hqd hl') hne
theorem none_ready {n : Nat} (hn : n = ops.size) : Region.ready .any ops (Array.replicate n true) = [] := by
  rw [List.eq_nil_iff_forall_not_mem]
  intro k hk
  obtain ⟨h0, o, ho, _⟩ := mem_ready.1 hk
  have := lt_of_get ho
  subst hn
  simp [this] at h0
theorem wpAny_done {fuel : Nat} {A : Act} {w : World} (h : Q .normal A w) : wpAny P .any ops Q fuel (Array.replicate ops.size true) A w := by
  have hr := none_ready (ops := ops) rfl
  cases fuel with
  | zero => exact ⟨hr, h⟩
  | succ n => exact ⟨fun _ => h, fun k hk => by rw [hr] at hk; cases hk⟩
theorem wpAny_postsY {told : Nat → Told} {kT : Nat} {oT : Oper} {a : Act} {w0 : World}
    (hd : ∀ (i j : Nat) (o p : Oper) d, ops[i]? = some o → ops[j]? = some p → o.dst = some d → p.dst = some d → i = j) (hs : ∀ (i : Nat) (o : Oper) d, ops[i]? = some o → o.dst = some d → d < a.tmps.size)
    (hT : ops[kT]? = some oT) (hTd : oT.dst = none) (hTall : ∀ i, i < ops.size → i ≠ kT → ∃ e ∈ oT.after, Region.binds .any e = true ∧ e.on = i)
    (back : ∀ (k : Nat) (o : Oper), ops[k]? = some o → ∀ e ∈ o.after, Region.binds .any e = true → e.on < k)
    (hok : ∀ (k : Nat) (o : Oper), ops[k]? = some o → k ≠ kT → OpOK P ops told [] a w0 k o)
    (hend : ∀ G A w', Inv ops told [] a w0 G (Array.replicate ops.size true) A w' → Region.wanted oT (yielded ops A.tmps) = true ∧ Yields P oT A w' fun _ w'' => Q .normal A w'') :
    ∀ (fuel : Nat) (G : Nat → Nat) (listed : Array Bool) (A : Act) (w : World), Inv ops told [] a w0 G listed A w → listed.getD kT true = false → (left ops.size listed).length ≤ fuel → wpAny P .any ops Q fuel listed A w
  | 0, G, listed, A, w, hI, hun0, hf => by
    exfalso
    have hnil : left ops.size listed = [] := List.length_eq_zero_iff.1 (Nat.le_zero.1 hf)
    have : kT ∈ left ops.size listed := by
      unfold left; rw [List.mem_filter]; exact ⟨List.mem_range.2 (lt_of_get hT), by rw [hun0]; rfl⟩
    rw [hnil] at this; cases this
  | fuel + 1, G, listed, A, w, hI, hun0, hf => by
    refine ⟨fun hr => by
      exfalso
      have hall := all_listed hI.size back hr
      subst hall
      simp [lt_of_get hT] at hun0, fun k hk => ?_⟩
    obtain ⟨h0, o, ho, hall⟩ := mem_ready.1 hk
    have hkn : k < ops.size := lt_of_get ho
    have hin : k < listed.size := by rw [hI.size]; exact hkn
    have hun := un_false h0
    have hl := left_lt hkn hI.size h0
    have hkf : ∀ f ∈ ([] : List Fill), f.1 ≠ k := fun f hf => by cases hf
    by_cases e : k = kT
    · subst e
      rw [hT] at ho; obtain rfl := Option.some.inj ho
      have hrep : listed.setIfInBounds k true = Array.replicate ops.size true := by
        apply Array.ext
        · simpa using hI.size
        · intro i h1 h2
          have hi : i < ops.size := by simpa using h2
          by_cases hik : i = k
          · subst hik; simp
          · obtain ⟨ed, hed, hb, hon⟩ := hTall i hi hik
            have := hall ed hed hb
            rw [hon] at this
            have hil : i < listed.size := by rw [hI.size]; exact hi
            simp [hil] at this
            have h3 : (listed.setIfInBounds k true)[i]? = some true := by rw [Array.getElem?_setIfInBounds_ne (Ne.symm hik), Array.getElem?_eq_getElem hil, this]
            rw [Array.getElem?_eq_getElem h1] at h3
            have h4 := Option.some.inj h3
            rw [h4]; simp
      have hI2 := hI.skip (k := k) hT hTd
      rw [hrep] at hI2
      obtain ⟨hw, hy⟩ := hend G A w hI2
      unfold wpOp
      simp only [hT]
      rw [if_pos hw]
      refine .inl (hy.wp fun v w' hg => ?_)
      rw [hTd, hrep]
      exact wpAny_done hg
    · have hop := hok k o ho e G listed A w hI hall
      have next : ∀ (A' : Act) (w' : World), (∃ G', Inv ops told [] a w0 G' (listed.setIfInBounds k true) A' w') → wpAny P .any ops Q fuel (listed.setIfInBounds k true) A' w' :=
        fun A' w' ⟨G', h'⟩ => wpAny_postsY hd hs hT hTd hTall back hok hend fuel G' _ A' w' h' (by rw [getD_set_ne true e]; exact hun0) (by omega)
      unfold wpOp
      simp only [ho]
      have hfi : ([] : List Fill).find? (fun f => f.1 == k) = none := rfl
      rw [hfi] at hop
      rcases hop with ⟨hw, hy⟩ | ⟨hw, hx⟩
      · rw [if_pos hw]
        exact .inl (hy.wp fun v w' hg => next _ _ (step_plain ho hd hs hkf hI hun hin v w' hg))
      · rw [if_neg (by rw [hw]; exact Bool.false_ne_true)]
        exact next _ _ (step_plain ho hd hs hkf hI hun hin undef w (by unfold Good; rw [hx]; exact ⟨rfl, Below.refl _ _⟩))
def AllOKY (P : Program) (ops : Array Oper) (told : Nat → Told) (a0 : Act) (w0 : World) : Nat → List Oper → Prop
  | _, [] => True
  | k, o :: r => OpOK P ops told [] a0 w0 k o ∧ AllOKY P ops told a0 w0 (k + 1) r
theorem allOKY_get {told : Nat → Told} {a0 : Act} {w0 : World} : ∀ (l : List Oper) (k : Nat), AllOKY P ops told a0 w0 k l → ∀ (i : Nat) (o : Oper), l[i]? = some o → OpOK P ops told [] a0 w0 (k + i) o
  | [], _, _, i, o, h => by cases i <;> cases h
  | p :: r, k, h, 0, o, ho => by
    obtain rfl : p = o := by simpa using ho
    exact h.1
  | p :: r, k, h, i + 1, o, ho => by
    have := allOKY_get r (k + 1) h.2 i o (by simpa using ho)
    rw [show k + (i + 1) = k + 1 + i by omega]
    exact this
/-- Does the last operation leave no value, and wait for all others? -/
def tailB (ops : Array Oper) (kT : Nat) : Bool :=
  match ops[kT]? with
  | some o => o.dst.isNone && (List.range ops.size).all fun i => i == kT || o.after.any fun e => Region.binds .any e && e.on == i
  | none => false
theorem tailB_spec {kT : Nat} (h : tailB ops kT = true) : ∃ oT, ops[kT]? = some oT ∧ oT.dst = none ∧ ∀ i, i < ops.size → i ≠ kT → ∃ e ∈ oT.after, Region.binds .any e = true ∧ e.on = i := by
  unfold tailB at h
  split at h
  · rename_i o ho
    simp only [Bool.and_eq_true, List.all_eq_true, List.mem_range, Bool.or_eq_true, beq_iff_eq] at h
    refine ⟨o, ho, by simpa using h.1, fun i hi hne => ?_⟩
    rcases h.2 i hi with e | e
    · exact absurd e hne
    · obtain ⟨ed, hed, hb⟩ := Array.any_eq_true'.1 e
      simp only [Bool.and_eq_true, beq_iff_eq] at hb
      exact ⟨ed, hed, hb.1, hb.2⟩
  · cases h
/-- The theorem: kT is the last operation's number. -/
theorem wp_region_toldY {id : Nat} {a : Act} {w : World} {l : List Oper} (kT : Nat) (oT : Oper) (told : Nat → Told) (ks : List Nat) (hks : ks = List.range l.length) (hlen : l.length = kT + 1) (hoT : l[kT]? = some oT) (hm : P.follows .mixedOrders = true) (hB : checkB l.toArray a.tmps.size = true) (hT : tailB l.toArray kT = true)
    (hok : AllOKY P l.toArray told a w.drew 0 (l.take kT))
    (hend : ∀ G w', Inv l.toArray told [] a w.drew G (Array.replicate l.length true) { tmps := finalTmps l.toArray told G ks a.tmps, defers := a.defers } w' →
      Region.wanted oT (yielded l.toArray (finalTmps l.toArray told G ks a.tmps)) = true ∧ Yields P oT { tmps := finalTmps l.toArray told G ks a.tmps, defers := a.defers } w' fun _ w'' => Q .normal { tmps := finalTmps l.toArray told G ks a.tmps, defers := a.defers } w'') :
    (Code.region id l.toArray true).wp P Q a w := by
  subst hks
  obtain ⟨hd, hs, back⟩ := checkB_spec hB
  obtain ⟨o', ho', hod, hall⟩ := tailB_spec hT
  have hoe : o' = oT := by
    have : l.toArray[kT]? = some oT := by simpa using hoT
    rw [this] at ho'; exact (Option.some.inj ho').symm
  subst hoe
  have rep : ∀ i, (Array.replicate l.toArray.size false).getD i false = false := by
    intro i
    rcases Nat.lt_or_ge i l.length with h | h
    · simp [h]
    · have : (Array.replicate l.length false)[i]? = none := Array.getElem?_eq_none (by simpa using h)
      simp [this]
  refine wp_region_any hm (wpAny_postsY (told := told) (w0 := w.drew) hd hs ho' hod hall back (fun k o ho hne => ?_) (fun G a' w' hI => ?_) _ (fun _ => 0) _ _ _ ?_ ?_ ?_)
  · have hk : k < kT := by
      have := lt_of_get ho
      simp at this; omega
    have := allOKY_get (l.take kT) 0 hok k o (by
      have h2 : l[k]? = some o := by simpa using ho
      rw [List.getElem?_take]; simp [hk, h2])
    simpa using this
  · have ht := hI.final hB
    have hdf := hI.defers
    obtain ⟨ts, ds⟩ := a'
    simp only at ht hdf
    subst ht hdf
    simp only [List.size_toArray] at hI ⊢
    exact hend G w' hI
  · refine ⟨by simp, rfl, rfl, fun _ _ => rfl, Below.refl _ _, ?_, ?_, ?_, ?_⟩
    · intro i o d x ho _ _ hl
      rw [rep] at hl; cases hl
    · intro i o d c ho _ _ hl
      rw [rep] at hl; cases hl
    · intro f hf
      cases hf
    · intro i j o p d e c c' ho _ _ hl
      rw [rep] at hl; cases hl
  · have : kT < l.length := by omega
    simp [this]
  · unfold left
    exact Nat.le_trans (List.length_filter_le _ _) (by simp)
end
end Go.Proofs.YtfjepjkbflcjbaaGreatDoor.Reg
