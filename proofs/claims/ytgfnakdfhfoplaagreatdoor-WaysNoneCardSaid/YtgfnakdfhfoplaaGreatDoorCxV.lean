/- What a run on what is known says of a call, for every order and every capacity. Generic over the program. -/
import Derived.Test.YtgfnakdfhfoplaaGreatDoorCxQ
import Derived.Below
import Derived.KernelRfl
namespace Go.Proofs.YtgfnakdfhfoplaaGreatDoor.Cx
open Go Go.RowKit
section
variable {P : Program} {F : T (Option FI)}
theorem ev_ok (hM : P.follows .mixedOrders = true) (hF : FOk P F) : ∀ (N : Nat) (task : Task) (s : St) (out : Out) (s' : St), ev P F N task s = some (out, s') → TaskOk P N task s out s'
  | 0, _, _, _, _, h => nomatch h
  | N + 1, task, s, out, s', h => step_ok hM hF (ev_ok hM hF N) task s out s' h
theorem ft_ok (h : P.funcs.size < lim) : FOk P (FT P) := fun g fi e => by
  unfold FT at e
  rw [T.get_ofList (by simpa using h), List.getElem?_map] at e
  cases hf : P.funcs.toList[g]? with
  | none => rw [hf] at e; cases e
  | some fn => rw [hf] at e; injection e with e; exact ⟨fn, by rwa [Array.getElem?_toList] at hf, e⟩
/-- What is known at first: one table. -/
def tabS (P : Program) (g n : Nat) (e : TypeId) (tab : T Value) : St := { heap := T.e.set g (.cells n tab e false), next := P.globals.size, wr := .e }
def isTrue (g : Nat) : Option (Out × St) → Bool
  | some (.val (.bool true), s) => (match s.wr.get g with
    | none => true
    | some _ => false)
  | _ => false
theorem run_true (hM : P.follows .mixedOrders = true) (hs : P.funcs.size < lim) {g f N : Nat} {e : TypeId} {cs : Array Value} {tab : T Value} {args : Array Value} {w : World} (hg : g < P.globals.size) (hl : g < lim) (hw : w.heap[g]? = some (.cells cs e (0, 0)))
    (ht : ∀ i v, tab.get i = some v → cs[i]? = some v ∧ flat1 v = true) (ha : ∀ v ∈ args, flat1 v = true) (hr : isTrue g (ev P (FT P) N (.call f args) (tabS P g cs.size e tab)) = true) :
    Calls P f args w fun x w' => x = .returned (.bool true) ∧ Below w.heap.size w w' := by
  unfold isTrue at hr
  split at hr
  rotate_left
  · cases hr
  rename_i s' he
  have hn : s'.wr.get g = none := by
    cases h : s'.wr.get g with
    | none => rfl
    | some u => rw [h] at hr; cases hr
  have hget : ∀ b o, (tabS P g cs.size e tab).heap.get b = some o → b = g ∧ o = .cells cs.size tab e false := fun b o h => by
    unfold tabS at h
    dsimp only at h
    rw [T.get_set hl, T.get_e] at h
    split at h
    · injection h with h; exact ⟨‹_›, h.symm⟩
    · cases h
  have hgg : (tabS P g cs.size e tab).heap.get g = some (.cells cs.size tab e false) := by
    unfold tabS; dsimp only; rw [T.get_set hl, if_pos rfl]
  have hok : Ok P (fun b => if b < P.globals.size then some (b, 0) else none) (tabS P g cs.size e tab) w := by
    refine ⟨fun b o h => ?_, fun b b' o o' c x x' h h' _ _ => (hget b o h).1.trans (hget b' o' h').1.symm, fun k hk => if_pos hk, fun b hb => if_neg (Nat.not_lt.2 hb)⟩
    obtain ⟨rfl, rfl⟩ := hget b o h
    refine ⟨b, 0, _, if_pos hg, hw, .exact rfl rfl fun i v hv => ?_⟩
    obtain ⟨h1, h2⟩ := ht i v hv
    refine ⟨?_, v, h1, vr_flat1 h2⟩
    rcases Nat.lt_or_ge i cs.size with h3 | h3
    · exact h3
    · rw [Array.getElem?_eq_none h3] at h1; cases h1
  refine (ev_ok hM (ft_ok hs) N _ _ _ _ he _ w args hok ⟨rfl, fun i hi => ?_⟩).mono fun x w' ⟨v', m1, e1, e2, e3⟩ => ?_
  · refine vr_flat1 (ha _ ?_)
    rw [Array.getD_eq_getD_getElem?, Array.getElem?_eq_getElem hi]
    exact Array.getElem_mem hi
  · cases e2
    refine ⟨e1, e3.os, e3.tape, e3.out, e3.size, fun k hk => ?_⟩
    by_cases hkg : k = g
    · subst hkg
      exact e3.un k _ k 0 hgg (if_pos hg) hn
    · refine e3.fr k hk fun b o x hb hm => ?_
      obtain ⟨rfl, _⟩ := hget b o hb
      rw [if_pos hg] at hm
      injection hm with hm; injection hm with hm
      exact hkg hm.symm
end
end Go.Proofs.YtgfnakdfhfoplaaGreatDoor.Cx
