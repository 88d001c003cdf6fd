/- Slices that grow: the append on what is known. Generic over the program. -/
import Derived.Test.YtgfnakdfhfoplaaGreatDoorCxG
import Derived.Laws.AppendOwn
namespace Go.Proofs.YtgfnakdfhfoplaaGreatDoor.Cx
open Go
section
variable {P : Program} {m m0 m1 m2 m3 : Mp} {s s1 s2 s3 : St} {w w1 w2 w3 : World}
theorem Post.world (h : Post P m s w m2 s2 w2) (h1 : w3.heap = w2.heap) (h2 : w3.os = w2.os) (h3 : w3.output = w2.output) (h4 : w3.tape = w2.tape) : Post P m s w m2 s2 w3 :=
  ⟨⟨fun b o hb => by rw [h1]; exact h.ok.dom b o hb, h.ok.inj, h.ok.glob, h.ok.new⟩, h.ext, h.nx, h.dom, h.lc, h.wm, fun c hc hf => by rw [h1]; exact h.fr c hc hf, h.fresh, by rw [h1]; exact h.size, h2.trans h.os, h3.trans h.out, h4.trans h.tape, h.old, fun b o c x h5 h6 h7 => by rw [h1]; exact h.un b o c x h5 h6 h7⟩
/-- A block is known by a new number from now on. -/
theorem swap_ok (h : Ok P m s w) {b g x x2 : Nat} {o o2 : AObj} {o2' : Obj} (hlt : s.next < lim) (hbl : b < lim) (hb : s.heap.get b = some o) (hm : m b = some (g, x))
    (hh : ∀ c, c ≠ g → w2.heap[c]? = w.heap[c]?) (hg : w2.heap[g]? = some o2') (hs : w2.heap.size = w.heap.size) (h2 : w2.os = w.os) (h3 : w2.output = w.output) (h4 : w2.tape = w.tape)
    (hoo : OO P m x2 o2 o2') :
    Post P m s w (m.add s.next g x2) { heap := (s.heap.del b).set s.next o2, next := s.next + 1, wr := s.wr.set b () } w2 := by
  have hle : m.le (m.add s.next g x2) := Mp.le_add (h.new _ (Nat.le_refl _))
  have hget : ∀ j, ((s.heap.del b).set s.next o2).get j = if j = s.next then some o2 else if j = b then none else s.heap.get j := fun j => by
    rw [T.get_set hlt, T.get_del hbl]
  have hne : ∀ b o1, s.heap.get b = some o1 → b ≠ s.next := fun b o1 hb e => by
    obtain ⟨c, y, _, h1, _⟩ := h.dom b o1 hb
    rw [h.new b (by omega)] at h1; cases h1
  have hma : ∀ b, b ≠ s.next → (m.add s.next g x2) b = m b := fun b hb => if_neg hb
  have hcg : ∀ b1 o1 c y, b1 ≠ b → s.heap.get b1 = some o1 → m b1 = some (c, y) → c ≠ g := fun b1 o1 c y e1 h1 h5 e => e1 (h.inj b1 b o1 o c y x h1 hb h5 (by rw [hm, e]))
  refine ⟨⟨fun b1 o1 hb1 => ?_, fun b1 b2 o1 o3 c x1 x3 h1 h5 h6 h7 => ?_, fun q hq => hle _ _ (h.glob q hq), fun b1 hb1 => ?_⟩, hle, Nat.le_succ _, fun b1 hb1 h5 => ?_, fun b1 hb1 h5 => ?_, fun b1 hb1 => ?_, fun c hc hf => ?_, fun b1 c y h1 h5 => ?_, by rw [hs]; exact Nat.le_refl _, h2, h3, h4, fun b1 hb1 => hma b1 (Nat.ne_of_lt hb1), fun b1 o1 c y h1 h5 h6 => ?_⟩
  · dsimp only at hb1
    rw [hget] at hb1
    split at hb1
    · rename_i e; subst e; injection hb1 with hb1; subst hb1
      exact ⟨_, _, o2', Mp.add_self .., hg, hoo.mono hle⟩
    · split at hb1
      · cases hb1
      · rename_i e1 e2
        obtain ⟨c, y, o4, h1, h5, h6⟩ := h.dom b1 o1 hb1
        exact ⟨c, y, o4, hle _ _ h1, by rw [hh c (hcg b1 o1 c y e2 hb1 h1)]; exact h5, h6.mono hle⟩
  · dsimp only at h1 h5
    rw [hget] at h1 h5
    by_cases e1 : b1 = s.next <;> by_cases e2 : b2 = s.next
    · rw [e1, e2]
    · rw [if_neg e2] at h5
      split at h5
      · cases h5
      · rename_i e3
        rw [e1, Mp.add_self] at h6; rw [hma _ e2] at h7
        injection h6 with h6; injection h6 with e4 _
        exact absurd e4.symm (hcg b2 o3 c x3 e3 h5 h7)
    · rw [if_neg e1] at h1
      split at h1
      · cases h1
      · rename_i e3
        rw [e2, Mp.add_self] at h7; rw [hma _ e1] at h6
        injection h7 with h7; injection h7 with e4 _
        exact absurd e4.symm (hcg b1 o1 c x1 e3 h1 h6)
    · rw [if_neg e1] at h1; rw [if_neg e2] at h5; rw [hma _ e1] at h6; rw [hma _ e2] at h7
      split at h1
      · cases h1
      · split at h5
        · cases h5
        · exact h.inj b1 b2 o1 o3 c x1 x3 h1 h5 h6 h7
  · dsimp only at hb1
    rw [hma _ (by omega)]; exact h.new b1 (by omega)
  · dsimp only at h5
    rw [hget, if_neg (by omega)] at h5
    split at h5
    · exact absurd rfl h5
    · exact h5
  · dsimp only at h5 ⊢
    rw [T.get_set hbl] at h5
    rw [hget, if_neg (by omega)]
    split at h5
    · cases h5
    · rename_i e; rw [if_neg e]
  · dsimp only at hb1
    rw [T.get_set hbl] at hb1
    split at hb1
    · cases hb1
    · exact hb1
  · exact hh c fun e => hf b o x hb (by rw [hm, e])
  · by_cases e : b1 = s.next
    · rw [e, Mp.add_self] at h5; injection h5 with h5; injection h5 with e1 _; subst e1
      exact .inr ⟨b, o, x, hb, hm⟩
    · rw [hma _ e, h1] at h5; cases h5
  · dsimp only at h6
    rw [T.get_set hbl] at h6
    split at h6
    · cases h6
    · rename_i e1
      exact hh c (hcg b1 o1 c y e1 h1 h5)
def rd (s : St) (b : Nat) : Nat → Nat → Option (List Value)
  | _, 0 => some []
  | o, n + 1 => match getCell s ⟨b, o, none⟩ with
    | some v => bif one v then (match rd s b (o + 1) n with
      | some l => some (v :: l)
      | none => none) else none
    | none => none
theorem VR.oneCell {v v' : Value} (h : VR m v v') (h1 : one v = true) : v'.oneCell' = true := by cases h <;> first | rfl | cases h1
theorem rd_ok (h : Ok P m s w) {b c x : Nat} (hm : m b = some (c, x)) : ∀ (n o : Nat) {l : List Value}, rd s b o n = some l →
    ∃ l', LR m l l' ∧ l'.length = n ∧ (∀ j u, l'[j]? = some u → w.cell? ((⟨c, o, none⟩ : Addr).add j) = some u) ∧ ∀ u ∈ l', u.oneCell' = true
  | 0, o, l, hr => by injection hr with hr; subst hr; exact ⟨[], .nil, rfl, by simp, by simp⟩
  | n + 1, o, l, hr => by
    unfold rd at hr
    split at hr
    · rename_i v hv
      cases h1 : one v with
      | false => rw [h1] at hr; cases hr
      | true =>
        rw [h1] at hr
        simp only [cond] at hr
        split at hr
        · rename_i l2 h2
          injection hr with hr; subst hr
          obtain ⟨v', g1, g2, _⟩ := getCell_ok h (.mk hm) hv
          obtain ⟨l', k1, k2, k3, k4⟩ := rd_ok h hm n (o + 1) h2
          refine ⟨v' :: l', .cons g2 k1, by simp [k2], fun j u hj => ?_, fun u hu => ?_⟩
          · cases j with
            | zero => simp at hj; subst hj; exact g1
            | succ j =>
              have := k3 j u (by simpa using hj)
              rw [← this]
              unfold Addr.add
              by_cases e : j = 0
              · subst e; simp
              · rw [if_neg (by omega), if_neg e]; simp [Nat.add_assoc, Nat.add_comm 1 j]
          · rcases List.mem_cons.1 hu with e | e
            · subst e; exact g2.oneCell h1
            · exact k4 u e
        · cases hr
    · cases hr
end
end Go.Proofs.YtgfnakdfhfoplaaGreatDoor.Cx
