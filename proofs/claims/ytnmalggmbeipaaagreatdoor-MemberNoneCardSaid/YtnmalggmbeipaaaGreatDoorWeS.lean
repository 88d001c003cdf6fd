/- A part of the proof. -/
import Derived.Test.YtnmalggmbeipaaaGreatDoorNatA
import Derived.Maps.RangeWalk
import Derived.Maps.Ext
import Derived.Test.YtnmalggmbeipaaaGreatDoorRa
import Derived.Maps.OwnSet
import Derived.Test.YtnmalggmbeipaaaGreatDoorRegion
import Derived.Test.YtnmalggmbeipaaaGreatDoorTa
import Derived.Maps.OwnOps
import Derived.Deep.DeepCutAuto
set_option maxRecDepth 100000
set_option maxHeartbeats 16000000
namespace Go.Proofs.YtnmalggmbeipaaaGreatDoor
section
section
open Go Go.RowKit
abbrev Wts := Nat -> Int
def tmW (f : Wts) (t : Int) (o : Nat) : Wts := fun p => if o <= p then ti t (f (p - o)) else 0
def smW (f g : Wts) : Wts := fun p => pl (f p) (g p)
def noneW : Wts := fun _ => 0
def unitW : Wts := fun p => if p = 0 then 1 else 0
structure WtOK (n : Nat) (f : Wts) : Prop where
 bd : ∀ p,0 <= f p /\ f p <= top
 out : ∀ p,n <= p -> f p = 0
theorem ti_zero_r (t : Int) : ti t 0 = 0 := by
 unfold ti;simp [cnt,sat,top]
theorem noneW_ok (n : Nat) : WtOK n noneW := ⟨fun _ => ⟨Int.le_refl _,by unfold noneW top;omega⟩,fun _ _ => rfl⟩
theorem unitW_ok : WtOK 1 unitW := ⟨fun p => by unfold unitW top;split <;> omega,fun p h => by unfold unitW;rw [if_neg (by omega)]⟩
theorem WtOK.mono {n m : Nat} {f : Wts} (h : WtOK n f) (hn : n <= m) : WtOK m f := ⟨h.bd,fun p hp => h.out p (by omega)⟩
theorem WtOK.tm {n : Nat} {f : Wts} (h : WtOK n f) (t : Int) (o : Nat) : WtOK (o + n) (tmW f t o) := by
 refine ⟨fun p => ?_,fun p hp => ?_⟩
 ·unfold tmW
  split
  ·exact ⟨ti_nn _ _,ti_le _ _⟩
  ·exact ⟨Int.le_refl _,by unfold top;omega⟩
 ·unfold tmW;rw [if_pos (by omega),h.out _ (by omega),ti_zero_r]
theorem WtOK.sm {n : Nat} {f g : Wts} (hf : WtOK n f) (hg : WtOK n g) : WtOK n (smW f g) :=
 ⟨fun p => ⟨pl_nn _ _,pl_le _ _⟩,fun p hp => by unfold smW;rw [hf.out p hp,hg.out p hp];rfl⟩
theorem tm_one {n : Nat} {f : Wts} (h : WtOK n f) : tmW f 1 0 = f := by
 funext p;unfold tmW;rw [if_pos (Nat.zero_le _),Nat.sub_zero,ti_one _ (h.bd p).1 (h.bd p).2]
theorem tm_zero (f : Wts) (o : Nat) : tmW f 0 o = noneW := by
 funext p;unfold tmW noneW
 split
 ·unfold ti;simp [cnt,sat,top]
 ·rfl
theorem sm_none_l {n : Nat} {f : Wts} (h : WtOK n f) : smW noneW f = f := by
 funext p;exact pl_zero _ (h.bd p).1 (h.bd p).2
theorem pl_comm' (a b : Int) : pl a b = pl b a := by unfold pl;rw [Int.add_comm]
theorem sm_none_r {n : Nat} {f : Wts} (h : WtOK n f) : smW f noneW = f := by
 funext p
 show pl (f p) 0 = f p
 rw [pl_comm',pl_zero _ (h.bd p).1 (h.bd p).2]
end
end
end Go.Proofs.YtnmalggmbeipaaaGreatDoor
namespace Go.Proofs.YtnmalggmbeipaaaGreatDoor
section
section
open Go Go.RowKit
abbrev kyW (p : Nat) : Lit := .int .i64 (p : Int)
theorem kyW_inj {p q : Nat} (h : kyW p = kyW q) : p = q := by
 simp only [kyW,Lit.int.injEq,true_and] at h;omega
structure WtD {H : Type} (D : DataW H) (f : Wts) : Prop where
 keys : ∀ k,Maps.has D k = true -> ∃ p : Nat,k = kyW p
 has : ∀ p : Nat,Maps.has D (kyW p) = decide (f p ≠ 0)
 at_ : ∀ p : Nat,f p ≠ 0 -> ∀ z,D.atKey (kyW p) z = .lit (.int .i64 (f p))
def updW (f : Wts) (p : Nat) (x : Int) : Wts := fun q => if q = p then x else f q
theorem WtD.empty {H : Type} : WtD (H := H) (.map []) noneW := ⟨fun k h => (by cases h),fun p => (show false = decide ((0 : Int) ≠ 0) from rfl),fun p h => absurd rfl h⟩
theorem WtD.put {H : Type} {D : DataW H} {f : Wts} (h : WtD D f) (hm : Maps.IsMap D) (p : Nat) {x : Int} (hx : x ≠ 0) : WtD (D.put (kyW p) (.lit (.int .i64 x))) (updW f p x) := by
 refine ⟨fun k hk => ?_,fun q => ?_,fun q hq z => ?_⟩
 ·by_cases e : k = kyW p
  ·exact ⟨p,e⟩
  ·rw [Maps.has_put_other e] at hk;exact h.keys k hk
 ·unfold updW
  by_cases e : q = p
  ·subst e;rw [Maps.has_put_same hm (show WideAt.IsKeyLit (kyW _) from trivial),if_pos rfl];simp [hx]
  ·rw [Maps.has_put_other (fun e2 => e (kyW_inj e2)),if_neg e];exact h.has q
 ·unfold updW at hq ⊢
  by_cases e : q = p
  ·subst e;rw [Maps.atKey_put_same hm (show WideAt.IsKeyLit (kyW _) from trivial),if_pos rfl]
  ·rw [if_neg e] at hq ⊢;rw [Maps.atKey_put_other (fun e2 => e (kyW_inj e2))];exact h.at_ q hq z
theorem WtD.get {H : Type} {D : DataW H} {f : Wts} (h : WtD D f) (p : Nat) : D.atKey (kyW p) (.lit (.int .i64 0)) = .lit (.int .i64 (f p)) := by
 by_cases e : f p = 0
 ·rw [Maps.atKey_of_not_has (by rw [h.has p,e];rfl),e]
 ·exact h.at_ p e _
def sofarW (s f : Wts) (t : Int) (o : Nat) (left : Lit -> Bool) : Wts := fun p => if o <= p /\ f (p - o) ≠ 0 /\ left (kyW (p - o)) = false then pl (s p) (ti t (f (p - o))) else s p
theorem sofar_start {H : Type} {D : DataW H} {f : Wts} (h : WtD D f) (s : Wts) (t : Int) (o : Nat) : sofarW s f t o (Maps.has D) = s := by
 funext p;unfold sofarW;rw [if_neg];rintro ⟨_,h1,h2⟩;rw [h.has] at h2;simp [h1] at h2
theorem sofar_end {n : Nat} {s f : Wts} (hs : WtOK n s) (t : Int) (o : Nat) {left : Lit -> Bool} (hl : ∀ k,left k = false) : sofarW s f t o left = smW s (tmW f t o) := by
 funext p;have z := pl_comm' (s p) 0;rw [pl_zero _ (hs.bd p).1 (hs.bd p).2] at z;unfold sofarW smW tmW
 by_cases h1 : o <= p
 ·rw [if_pos h1]
  by_cases h2 : f (p - o) = 0
  ·rw [if_neg (fun e => e.2.1 h2),h2,ti_zero_r,z]
  ·rw [if_pos ⟨h1,h2,hl _⟩]
 ·rw [if_neg (fun e => h1 e.1),if_neg h1,z]
theorem sofar_step {s f : Wts} {t : Int} {o q : Nat} {left : Lit -> Bool} (hf : f q ≠ 0) (hl : left (kyW q) = true) :
  sofarW s f t o left (q + o) = s (q + o) /\ sofarW s f t o (fun z => left z && !z.sameKey (kyW q)) = updW (sofarW s f t o left) (q + o) (pl (s (q + o)) (ti t (f q))) := by
 have e : q + o - o = q := by omega
 refine ⟨?_,?_⟩
 ·unfold sofarW;rw [e,if_neg];rintro ⟨_,_,h⟩;rw [hl] at h
  cases h
 ·funext p;unfold updW
  by_cases h : p = q + o
  ·subst h;rw [if_pos rfl];unfold sofarW;rw [e,if_pos ⟨by omega,hf,by show (left (kyW q) && !(kyW q).sameKey (kyW q)) = false;rw [WideAt.sameKey_self (show WideAt.IsKeyLit (kyW q) from trivial)];simp⟩]
  ·rw [if_neg h];unfold sofarW
   by_cases h1 : o <= p
   ·have hne : kyW (p - o) ≠ kyW q := fun e2 => h (by have := kyW_inj e2;omega)
    have hk := Maps.sameKey_ne hne;simp only [hk,Bool.not_false,Bool.and_true]
   ·rw [if_neg (fun e => h1 e.1),if_neg (fun e => h1 e.1)]
end
end
end Go.Proofs.YtnmalggmbeipaaaGreatDoor
namespace Go.Proofs.YtnmalggmbeipaaaGreatDoor
section
section
open Go Go.RowKit
theorem lawI : Maps.Keyed Tryz.prog 3 := Maps.int_keyed Tryz.underlying3
theorem zeroI (w : World) : (zeroValue 3).run Tryz.prog w = .ok (.int .i64 0) w := by kernel_rfl
def WtB (w : World) (b : Nat) (f : Wts) : Prop := ∃ D : DataW Nat,w.ownsMap Tryz.prog 3 (plainElem Tryz.prog 3) b (Maps.size D) D /\ WtD D f
def WtAt (w : World) (v : Value) (f : Wts) : Prop := (v = .map none /\ f = noneW) \/ ∃ b,v = .map (some b) /\ b < w.heap.size /\ WtB w b f /\ f ≠ noneW
theorem owns_tight {H : Type} {P : Program} {k : TypeId} {R : Value -> Option (DataW H × List MemPlace)} {w : World} {b n : Nat} {D : DataW H} (h : w.ownsMap P k R b n D) : w.ownsMap P k R b (Maps.size D) D := by
 obtain ⟨es,clock,hb,F,hs,hD⟩ := h;refine ⟨es,clock,hb,F,?_,hD⟩;subst hD
 show es.size <= ((es.toList.map _).foldr DataW.insert []).length
 rw [length_sorted];simp
theorem owns_kept {H : Type} {P : Program} {k : TypeId} {R : Value -> Option (DataW H × List MemPlace)} {w w' : World} {b n : Nat} {D : DataW H} (h : w.ownsMap P k R b n D) (e : w'.heap[b]? = w.heap[b]?) : w'.ownsMap P k R b n D := by
 obtain ⟨es,clock,h1,h2⟩ := h;exact ⟨es,clock,e.trans h1,h2⟩
theorem ranges_kept {H : Type} {P : Program} {k : TypeId} {R : Value -> Option (DataW H × List MemPlace)} {w w' : World} {b r n : Nat} {D : DataW H} {left : Lit -> Bool} {cnt : Nat} (h : w.ranges P k R b r n D left cnt) (e1 : w'.heap[b]? = w.heap[b]?) (e2 : w'.heap[r]? = w.heap[r]?) : w'.ranges P k R b r n D left cnt := by
 obtain ⟨es,clock,since,seen,c0,hb,F,hs,hD,hr,rest⟩ := h;exact ⟨es,clock,since,seen,c0,e1.trans hb,F,hs,hD,e2.trans hr,rest⟩
theorem WtB.kept {w w' : World} {b : Nat} {f : Wts} (h : WtB w b f) (e : w'.heap[b]? = w.heap[b]?) : WtB w' b f := by
 obtain ⟨D,h1,h3⟩ := h;exact ⟨D,owns_kept h1 e,h3⟩
theorem WtB.lt {w : World} {b : Nat} {f : Wts} (h : WtB w b f) : b < w.heap.size := by
 obtain ⟨D,h1,h3⟩ := h;exact h1.lt
theorem WtB.at_ {w : World} {b : Nat} {f : Wts} (h : WtB w b f) (hf : f ≠ noneW) : WtAt w (.map (some b)) f := .inr ⟨b,rfl,h.lt,h,hf⟩
theorem WtAt.up {w w' : World} {v : Value} {f : Wts} (h : WtAt w v f) (hb : Below w.heap.size w w') : WtAt w' v f := by
 rcases h with h | ⟨b,h1,h2,h3,h4⟩
 ·exact .inl h
 ·exact .inr ⟨b,h1,Nat.lt_of_lt_of_le h2 hb.size,h3.kept (hb.block b h2),h4⟩
theorem WtAt.none {w : World} : WtAt w (.map none) noneW := .inl ⟨rfl,rfl⟩
theorem len_keys {H : Type} : ∀ (N : Nat) (es : List (Lit × DataW H)),es.Pairwise (fun p q => p.1 ≠ q.1) -> (∀ p ∈ es,∃ n,n < N /\ p.1 = kyW n) -> es.length <= N
 | 0,[],_,_ => jN _
 | 0,p :: _,_,h => by
  obtain ⟨n,hn,_⟩ := h p (List.mem_cons_self ..);omega
 | N + 1,es,hp,h => by
  have hs := Maps.length_strike (k := kyW N) es hp
  have ih := len_keys N (es.filter fun p => !p.1.sameKey (kyW N)) (hp.filter _) (fun p hp' => by
   obtain ⟨h1,h2⟩ := List.mem_filter.1 hp';obtain ⟨n,hn,e⟩ := h p h1;refine ⟨n,?_,e⟩
   have : n ≠ N := fun e2 => by
    rw [e,e2,WideAt.sameKey_self (show WideAt.IsKeyLit (kyW N) from trivial)] at h2
    cases h2
   omega)
  split at hs <;> omega
theorem owns_size {w : World} {b n N : Nat} {D : DataW Nat} {f : Wts} (h : w.ownsMap Tryz.prog 3 (plainElem Tryz.prog 3) b n D) (hd : WtD D f) (hf : WtOK N f) : Maps.size D <= N := by
 obtain ⟨es,rfl,hp,hk⟩ := h.entries lawI;refine len_keys N es hp fun p hpm => ?_
 have hh : Maps.has (.map es) p.1 = true := by
  rw [Maps.has_eq];exact List.any_eq_true.2 ⟨p,hpm,WideAt.sameKey_self (hk p hpm)⟩
 obtain ⟨n,e⟩ := hd.keys _ hh;refine ⟨n,?_,e⟩;rw [e,hd.has] at hh;have h0 : f n ≠ 0 := by simpa using hh
 refine Nat.lt_of_not_le fun hle => h0 (hf.out n hle)
theorem owns_none {w : World} {b n : Nat} {D : DataW Nat} {f : Wts} (h : w.ownsMap Tryz.prog 3 (plainElem Tryz.prog 3) b n D) (hd : WtD D f) : Maps.size D = 0 ↔ f = noneW := by
 constructor
 ·intro h0;obtain ⟨es,rfl,hp,hk⟩ := h.entries lawI;obtain rfl : es = [] := List.eq_nil_of_length_eq_zero h0;funext p;have hh := hd.has p;have hh : false = decide (f p ≠ 0) := hh
  by_cases hn : f p = 0
  ·exact hn
  ·rw [jT hn] at hh
   cases hh
 ·intro h0;have := owns_size h hd (h0 ▸ noneW_ok 0);omega
theorem WtAt.len {w : World} {v : Value} {f : Wts} (h : WtAt w v f) : ∃ n : Nat,(∀ X ty,Below w.heap.size w X -> (Builtin.len_ #[194] ty #[v]).run Tryz.prog X = .ok (.int .i64 (n : Int)) X) /\ (n = 0 ↔ f = noneW) /\ ∀ N,WtOK N f -> n <= N := by
 rcases h with ⟨rfl,rfl⟩ | ⟨b,rfl,h1,⟨D,h2,h3⟩,_⟩
 ·exact ⟨0,fun X ty _ => Maps.len_nil Tryz.underlying194 ty,⟨fun _ => rfl,fun _ => rfl⟩,fun _ _ => Nat.zero_le _⟩
 ·exact ⟨Maps.size D,fun X ty hb => (owns_kept h2 (hb.block b h1)).len Tryz.underlying194 ty,owns_none h2 h3,fun N hN => owns_size h2 h3 hN⟩
end
end
end Go.Proofs.YtnmalggmbeipaaaGreatDoor
namespace Go.Proofs.YtnmalggmbeipaaaGreatDoor
section
section
open Go Go.RowKit
attribute [local go_sem ↓] Go.wp_at_zero Go.wp_at_succ
abbrev termOb (m : Option Nat) (t o : Int) : Obj := .cells #[.map m,.int .i64 t,.int .i64 o] 329
theorem counts_yes {w : World} {m : Option Nat} {f : Wts} (t o : Int) (h : WtAt w (.map m) f) (ht : 0 < t) (hf : f ≠ noneW) :
  Calls Tryz.prog 251 #[.agg #[.map m,.int .i64 t,.int .i64 o]] w fun e w' => e = .returned (.bool true) /\ Below w.heap.size w w' := by
 obtain ⟨n,hl,h0,_⟩ := h.len;have hl1 := fun ty => hl (w.alloc (termOb m t o)) ty (below1 _ _)
 have hn : 0 < n := Nat.pos_of_ne_zero fun e => hf (h0.1 e)
 clear hl h0 hf h
 go_enter Tryz.func251,Tryz.ntmps251
 go_wp2_with fail
 go_ret
 exact ⟨rfl,below1 _ _⟩
theorem counts_no {w : World} {m : Option Nat} {f : Wts} (t o : Int) (h : WtAt w (.map m) f) (ht : t = 0 \/ (0 < t /\ f = noneW)) :
  Calls Tryz.prog 251 #[.agg #[.map m,.int .i64 t,.int .i64 o]] w fun e w' => e = .returned (.bool false) /\ Below w.heap.size w w' := by
 obtain ⟨n,hl,h0,_⟩ := h.len;have hl1 := fun ty => hl (w.alloc (termOb m t o)) ty (below1 _ _)
 rcases ht with rfl | ⟨ht,hf⟩
 ·clear hl h0 h
  go_enter Tryz.func251,Tryz.ntmps251
  go_wp2_with fail
  go_ret
  exact ⟨rfl,below1 _ _⟩
 ·obtain rfl : n = 0 := h0.2 hf;clear hl h0 h hf
  go_enter Tryz.func251,Tryz.ntmps251
  go_wp2_with fail
  go_ret
  exact ⟨rfl,below1 _ _⟩
end
end
end Go.Proofs.YtnmalggmbeipaaaGreatDoor
namespace Go.Proofs.YtnmalggmbeipaaaGreatDoor
section
section
open Go Go.RowKit
attribute [local go_sem ↓] Go.wp_at_zero Go.wp_at_succ
theorem wf_i64' {x : Int} (h : -9223372036854775808 <= x /\ x <= 9223372036854775807) : (Lit.int .i64 x).wf = true := WalkArith.wf_i64 (by omega)
theorem wt_look {w : World} {b n : Nat} {D : DataW Nat} {f : Wts} (h : w.ownsMap Tryz.prog 3 (plainElem Tryz.prog 3) b n D) (hd : WtD D f) (p : Nat) (x : Int) (hp : p <= 1000000000) (hx : x = (p : Int)) :
  (Instr.lookup 194 (.map (some b)) (.int .i64 x) false).run Tryz.prog w = .ok (.int .i64 (f p)) w := by
 subst hx;obtain ⟨c,hrun,hat,_⟩ := h.lookup_int lawI Tryz.underlying194 Tryz.underlying3 (zeroI w) (Maps.keyOf_int_mk Tryz.underlying3 (wf_i64' (x := (p : Int)) ⟨by omega,by omega⟩));rw [hd.get p] at hat;injection hat with hat;injection hat with _ hat;rw [hrun,hat]
theorem wt_put {w : World} {b n : Nat} {D : DataW Nat} (h : w.ownsMap Tryz.prog 3 (plainElem Tryz.prog 3) b n D) (p : Nat) (x v : Int) (hp : p <= 1000000000) (hx : x = (p : Int)) (hv : 0 <= v /\ v <= top) (hn : n <= 1000000) :
  ∃ w',(Instr.mapUpdate 194 (.map (some b)) (.int .i64 x) (.int .i64 v)).run Tryz.prog w = .ok () w' /\ w'.ownsMap Tryz.prog 3 (plainElem Tryz.prog 3) b (n + 1) (D.put (kyW p) (.lit (.int .i64 v))) /\ w.grownBy w' (some b) := by
 subst hx;unfold top at hv;exact h.update lawI Tryz.underlying194 (by unfold maxLen;omega) (Maps.keyOf_int_mk Tryz.underlying3 (wf_i64' (x := (p : Int)) ⟨by omega,by omega⟩)) (plainElem_int Tryz.underlying3 (wf_i64' ⟨by omega,by omega⟩))
theorem grown_put {w X Y : World} {b : Nat} (h : Below w.heap.size w X) (g : X.grownBy Y (some b)) (_ : b < w.heap.size) : w.grownBy Y (some b) :=
 ⟨g.os.trans h.os,g.tape.trans h.tape,g.output.trans h.output,Nat.le_trans h.size g.size,fun i hi hne => (g.block i (Nat.lt_of_lt_of_le hi h.size) hne).trans (h.block i hi)⟩
theorem we_grown {w w1 : World} (r : Option Nat) (h : Below w.heap.size w w1) : w.grownBy w1 r := ⟨h.os,h.tape,h.output,h.size,fun k hk _ => h.block k hk⟩
theorem mul2_any (g : Nat) (a b : Int) (w : World) (ha : 0 <= a /\ a <= top) (hb : 0 <= b /\ b <= top) (h : w.heap[g]? = some (.cells #[.int .i64 a,.int .i64 b] 3 (0,0))) :
  Calls Tryz.prog 198 #[.slice (some ⟨g,0,none⟩) 2 2] w fun e w' => e = .returned (.int .i64 (ti a b)) /\ w' = w := by
 refine (mul_any g 0 2 2 (fun j => if j = 0 then a else b) w (by omega) (fun j hj => by split <;> omega) (fun j hj => ?_)).mono ?_
 ·obtain rfl | rfl : j = 0 \/ j = 1 := by omega
  ·exact (jC h 0).trans rfl
  ·exact (jC h 1).trans rfl
 ·rintro e w' ⟨rfl,rfl⟩;refine ⟨?_,rfl⟩;have e : fol ti 1 (fun j => if j = 0 then a else b) 2 = ti (ti 1 a) b := rfl;rw [e,ti_one a ha.1 ha.2]
theorem add2_any (g : Nat) (a b : Int) (w : World) (ha : 0 <= a /\ a <= top) (hb : 0 <= b /\ b <= top) (h : w.heap[g]? = some (.cells #[.int .i64 a,.int .i64 b] 3 (0,0))) :
  Calls Tryz.prog 39 #[.slice (some ⟨g,0,none⟩) 2 2] w fun e w' => e = .returned (.int .i64 (pl a b)) /\ w' = w := by
 refine (add_any g 0 2 2 (fun j => if j = 0 then a else b) w (by omega) (fun j hj => by split <;> omega) (fun j hj => ?_)).mono ?_
 ·obtain rfl | rfl : j = 0 \/ j = 1 := by omega
  ·exact (jC h 0).trans rfl
  ·exact (jC h 1).trans rfl
 ·rintro e w' ⟨rfl,rfl⟩;refine ⟨?_,rfl⟩;have e : fol pl 0 (fun j => if j = 0 then a else b) 2 = pl (pl 0 a) b := rfl;rw [e,pl_zero a ha.1 ha.2]
theorem sofar_ok {N : Nat} {s f : Wts} {o : Nat} (hs : WtOK (o + N) s) (hf : WtOK N f) (left : Lit -> Bool) (t : Int) : WtOK (o + N) (sofarW s f t o left) := by
 refine ⟨fun p => ?_,fun p hp => ?_⟩
 ·unfold sofarW
  split
  ·exact ⟨pl_nn _ _,pl_le _ _⟩
  ·exact hs.bd p
 ·unfold sofarW;rw [if_neg (fun e => e.2.1 (hf.out _ (by omega)))];exact hs.out p hp
theorem ti_pos {a b : Int} (ha : 0 < a /\ a <= top) (hb : b ≠ 0 /\ 0 <= b /\ b <= top) : 0 < ti a b := by
 unfold ti;rw [cnt_of (by omega),cnt_of (by omega)];have h1 : 0 < a * b := Int.mul_pos ha.1 (by omega);unfold sat top
 split <;> omega
theorem pl_ne {a b : Int} (ha : 0 <= a /\ a <= top) (hb : 0 < b /\ b <= top) : pl a b ≠ 0 := by
 unfold pl;rw [cnt_of ha.1,cnt_of (by omega)];unfold sat top
 split <;> omega
def adT (sb tb : Nat) (q o qo t n sv mv pv : Int) (gh : Nat -> Nat) : Nat -> Value
 | 0 => .map (some sb)
 | 1 => .int .i64 q
 | 2 => .pointer (some ⟨tb,2,none⟩)
 | 3 => .int .i64 o
 | 4 => .int .i64 qo
 | 5 => .map (some sb)
 | 6 => .int .i64 q
 | 7 => .pointer (some ⟨tb,2,none⟩)
 | 8 => .int .i64 o
 | 9 => .int .i64 qo
 | 10 => .int .i64 sv
 | 11 => .pointer (some ⟨tb,1,none⟩)
 | 12 => .int .i64 t
 | 13 => .int .i64 n
 | 14 => .slice (some ⟨gh 14,0,none⟩) 2 2
 | 15 => .int .i64 mv
 | 16 => .slice (some ⟨gh 16,0,none⟩) 2 2
 | 17 => .int .i64 pv
 | 18 => undef
 | _ => undef
def adOb (t n sv mv : Int) (_ : Nat -> Nat) : Nat -> Obj
 | 14 => .cells #[.int .i64 t,.int .i64 n] 3 (0,0)
 | _ => .cells #[.int .i64 sv,.int .i64 mv] 3 (0,0)
theorem adT_14 {sb tb b j : Nat} {q o qo t n sv mv pv : Int} {gh : Nat -> Nat} (h : j ≠ 14) : adT sb tb q o qo t n sv mv pv (Reg.updN gh 14 b) j = adT sb tb q o qo t n sv mv pv gh j := by
 unfold adT
 split <;> first | rfl | exact absurd rfl ‹_›
theorem adT_16 {sb tb b j : Nat} {q o qo t n sv mv pv : Int} {gh : Nat -> Nat} (h : j ≠ 16) : adT sb tb q o qo t n sv mv pv (Reg.updN gh 16 b) j = adT sb tb q o qo t n sv mv pv gh j := by
 unfold adT
 split <;> first | rfl | exact absurd rfl ‹_›
structure AddI (w : World) (sb tb b m : Nat) (t : Int) (o : Nat) (f s : Wts) (wr : World) (left : Lit -> Bool) (cnt : Nat) (D0 Ds : DataW Nat) : Prop where
 rg : wr.ranges Tryz.prog 3 (plainElem Tryz.prog 3) b (tb + 1) (Maps.size D0) D0 left cnt
 own : wr.ownsMap Tryz.prog 3 (plainElem Tryz.prog 3) sb (Maps.size Ds) Ds
 wt : WtD Ds (sofarW s f t o left)
 gr : w.grownBy wr (some sb)
 bx : wr.heap[tb]? = some (.cells #[.map (some b),.int .i64 t,.int .i64 (o : Int)] 329 (0,0))
theorem addto_any (w : World) (sb b N : Nat) (t : Int) (o : Nat) (f s : Wts) (hs : WtB w sb s) (hf : WtB w b f) (hne : b ≠ sb) (hF : WtOK N f) (hS : WtOK (o + N) s) (hN : o + N <= 100000) (ht : 0 < t /\ t <= top) :
  Calls Tryz.prog 253 #[.agg #[.map (some b),.int .i64 t,.int .i64 (o : Int)],.map (some sb)] w fun e w' => e = .returned (.tuple #[]) /\ w.grownBy w' (some sb) /\ WtB w' sb (smW s (tmW f t o)) := by
 obtain ⟨D0,hown,hd0⟩ := hf;obtain ⟨Ds0,hown2,hds0⟩ := hs;have hlb := hown.lt;have hlsb := hown2.lt;have e1 : (w.alloc (termOb (some b) t (o : Int))).heap.size = w.heap.size + 1 := by simp
 have HF := qhid hF;have HSO := qhid hS;have HD0 := qhid hd0;have HDS0 := qhid hds0;have HO2 := qhid hown2;have HT : Hid (0 <= t /\ t <= top) := qhid ⟨Int.le_of_lt ht.1,ht.2⟩;have HTP := qhid ht;clear hF hS hd0 hds0 hown2 ht
 go_enter Tryz.func253,Tryz.ntmps253
 go_wp2_with (first
  | (at_range;refine wpList_range_own _ rfl _ 194 rfl 3 3 lawI Tryz.underlying194 _ b _ _ rfl (hown.alloc _) ?_;intro w0 hrg0 hg0 hs0)
  | go_in)
 go_frame
 rw [e1] at hrg0 hs0 ⊢
 have HI0 : Hid (AddI w sb w.heap.size b 0 t o f s w0 (Maps.has D0) (Maps.size D0) D0 Ds0) := qhid (by
  have hg1 : w.grownBy w0 (some sb) := (we_grown (some sb) (below1 w (termOb (some b) t (o : Int)))).andThen hg0 (fun j hj => by cases hj);refine ⟨hrg0,owns_kept HO2.out ?_,?_,hg1,?_⟩
  ·exact (hg0.block sb (by rw [e1];omega) (by simp)).trans ((below1 w _).block sb hlsb)
  ·rw [sofar_start HD0.out];exact HDS0.out
  ·exact (hg0.block w.heap.size (by rw [e1];omega) (by simp)).trans (heap_new _ _))
 clear hrg0 hg0 HO2;obtain ⟨tb,htb⟩ : ∃ x,x = w.heap.size := ⟨_,rfl⟩;rw [<- htb] at HI0 ⊢;have HTBE := qhid htb;clear htb
 go_loopw [4] (fun _ wr => ∃ (left : Lit -> Bool) (cnt : Nat) (Ds : DataW Nat),Hid (AddI w sb tb b 0 t o f s wr left cnt D0 Ds))
  (fun _ wr => wr.rangeLeft b (tb + 1))
 case atStart => exact ⟨_,_,Ds0,HI0⟩
 case round =>
  obtain ⟨left,cnt,Ds,HI⟩ := hrel;have hrg := HI.out.rg
  go_upto_region 4 with (first
   | (at_next;refine wpList_next_ranges_ii _ rfl _ rfl 3 3 .i64 .i64 lawI Tryz.underlying3 Tryz.underlying3 b (tb + 1) _ _ _ _ rfl hrg ?_ ?_)
   | go_in)
  ·intro hc0 hl0
   go_wp2
   refine bodyPost_end (v := .tuple #[]) (by simp [results,Tryz.results253,go_sem]) rfl ⟨rfl,HI.out.gr,Ds,HI.out.own,?_⟩;have := HI.out.wt;rw [sofar_end HSO.out t o hl0] at this;exact this
  ·intro x c w1 cnt1 hwx hwc hlx hat hrg1 hlt hg1 hs1 hen
   have hk : Maps.has D0 (.int .i64 x) = true := by
    cases e : Maps.has D0 (.int .i64 x) with
    | true => rfl
    | false =>
     have h1 := Maps.atKey_of_not_has e (.lit (.int .i64 (c + 1)));rw [hat] at h1;injection h1 with h1;injection h1 with _ h1;omega
   obtain ⟨q,hq⟩ := HD0.out.keys _ hk;obtain rfl : x = (q : Int) := by simpa [kyW] using hq
   have hfq : f q ≠ 0 := by
    have := HD0.out.has q;rw [show Maps.has D0 (kyW q) = true from hk] at this;simpa using this.symm
   obtain rfl : c = f q := by
    have := HD0.out.at_ q hfq (.lit (.int .i64 0));rw [show D0.atKey (kyW q) _ = _ from hat _] at this;injection this with this;injection this with _ this
   have hqN : q < N := Nat.lt_of_not_le fun hle => hfq (HF.out.out q hle)
   obtain ⟨hst1,hst2⟩ := sofar_step (s := s) (t := t) (o := o) hfq hlx;have HTB : Hid (w1.heap[tb]? = some (.cells #[.map (some b),.int .i64 t,.int .i64 (o : Int)] 329 (0,0))) := qhid ((hg1.block tb (jS HI.out.bx) (by simp)).trans HI.out.bx);have HDS : Hid (w1.ownsMap Tryz.prog 3 (plainElem Tryz.prog 3) sb (Maps.size Ds) Ds) := qhid (owns_kept HI.out.own (hg1.block sb HI.out.own.lt (fun e => by have := Option.some.inj e;have := HTBE.out;omega)));have HWD : Hid (WtD Ds (sofarW s f t o left)) := qhid HI.out.wt;have HSZ : Hid (Maps.size Ds <= 1000000) := qhid (Nat.le_trans (owns_size HDS.out HWD.out (sofar_ok HSO.out HF.out left t)) (by omega));have HWR : Hid (IntKind.i64.wrap ((q : Int) + (o : Int)) = (q : Int) + (o : Int)) := qhid (by rw [IntKind.wrap_i64];omega);have HST1 := qhid hst1;have HST2 := qhid hst2;have HRG1 := qhid hrg1;have HLT := qhid hlt;have HRG := qhid hrg;have HG1 := qhid hg1;have HFQ := qhid hfq;clear hst1 hst2 hrg1 hlt hrg hg1 hfq hk hat hwx hwc hlx
   go_upto_region 4 with go_in
   refine Reg.wp_region_H (adT sb tb (q : Int) (o : Int) ((q : Int) + (o : Int)) t (f q) (s (q + o)) (ti t (f q)) (pl (s (q + o)) (ti t (f q)))) (Reg.GenH 18 (Reg.MkN w1 [14,16] (adOb t (f q) (s (q + o)) (ti t (f q)))) (fun _ X => w1.grownBy X (some sb) /\ X.ownsMap Tryz.prog 3 (plainElem Tryz.prog 3) sb (Maps.size Ds + 1) (Ds.put (kyW (q + o)) (.lit (.int .i64 (pl (s (q + o)) (ti t (f q)))))))) (fun _ => 0) [0,1,2,3,4,5,6,7,8,9,10,11,12,13,14,15,16,17,18] (by rfl) (by kernel_rfl) (by kernel_rfl) ?_ ?_ ?_
   ·exact Reg.GenH.start (Reg.MkN.start _ _)
   ·refine ⟨fun gh listed A X hI hcl hin hun hall => ⟨Reg.wanted_none rfl,?_⟩,?_⟩
    ·have e1 := hI.evo (d := 1) (by kernel_rfl) rfl;have hnn := Reg.un_of_reach hcl (n := 18) (i := 0) (by kernel_rfl) (by simpa using hun);have HS := hI.st.ahead hnn;have hX := HS.bel;clear hI hX;have HS2 := qhid HS;clear HS;unfold Reg.Yields
     go_simp
     exact Reg.GenH.step hnn (by decide) (fun _ _ => rfl) rfl (HS2.out.up (by simp) (Below.refl _ _))
    refine ⟨fun gh listed A X hI hcl hin hun hall => ⟨Reg.wanted_none rfl,?_⟩,?_⟩
    ·have e4 := hI.evo (d := 4) (by kernel_rfl) rfl;have hnn := Reg.un_of_reach hcl (n := 18) (i := 1) (by kernel_rfl) (by simpa using hun);have HS := hI.st.ahead hnn;have hX := HS.bel;clear hI hX;have HS2 := qhid HS;clear HS;unfold Reg.Yields
     go_simp
     exact Reg.GenH.step hnn (by decide) (fun _ _ => rfl) rfl (HS2.out.up (by simp) (Below.refl _ _))
    refine ⟨fun gh listed A X hI hcl hin hun hall => ⟨Reg.wanted_none rfl,?_⟩,?_⟩
    ·have e2 := hI.evo (d := 2) (by kernel_rfl) rfl;have hnn := Reg.un_of_reach hcl (n := 18) (i := 2) (by kernel_rfl) (by simpa using hun);have HS := hI.st.ahead hnn;have hX := HS.bel;clear hI hX;have HS2 := qhid HS;clear HS;unfold Reg.Yields
     go_simp
     exact Reg.GenH.step hnn (by decide) (fun _ _ => rfl) rfl (HS2.out.up (by simp) (Below.refl _ _))
    refine ⟨fun gh listed A X hI hcl hin hun hall => ⟨Reg.wanted_none rfl,?_⟩,?_⟩
    ·have e16 : A.tmps[16]? = some (.pointer (some ⟨tb,2,none⟩)) := hI.ev (i := 2) (d := 16) (by rfl) (hall ⟨2,.data⟩ (by simp) rfl);have hnn := Reg.un_of_reach hcl (n := 18) (i := 3) (by kernel_rfl) (by simpa using hun);have HS := hI.st.ahead hnn;have hX := HS.bel;have c2 := (jC (Reg.heap_kept_up HTB.out hX) 2).trans rfl;clear hI hX;have HS2 := qhid HS;clear HS;unfold Reg.Yields
     go_simp
     exact Reg.GenH.step hnn (by decide) (fun _ _ => rfl) rfl (HS2.out.up (by simp) (Below.refl _ _))
    refine ⟨fun gh listed A X hI hcl hin hun hall => ⟨Reg.wanted_none rfl,?_⟩,?_⟩
    ·have e15 : A.tmps[15]? = some (.int .i64 (q : Int)) := hI.ev (i := 1) (d := 15) (by rfl) (hall ⟨1,.data⟩ (by simp) rfl);have e17 : A.tmps[17]? = some (.int .i64 (o : Int)) := hI.ev (i := 3) (d := 17) (by rfl) (hall ⟨3,.data⟩ (by simp) rfl);have hnn := Reg.un_of_reach hcl (n := 18) (i := 4) (by kernel_rfl) (by simpa using hun);have HS := hI.st.ahead hnn;have hX := HS.bel;have hwr := HWR.out;clear hI hX;have HS2 := qhid HS;clear HS;unfold Reg.Yields
     go_simp
     exact Reg.GenH.step hnn (by decide) (fun _ _ => rfl) rfl (HS2.out.up (by simp) (Below.refl _ _))
    refine ⟨fun gh listed A X hI hcl hin hun hall => ⟨Reg.wanted_none rfl,?_⟩,?_⟩
    ·have e1 := hI.evo (d := 1) (by kernel_rfl) rfl;have hnn := Reg.un_of_reach hcl (n := 18) (i := 5) (by kernel_rfl) (by simpa using hun);have HS := hI.st.ahead hnn;have hX := HS.bel;clear hI hX;have HS2 := qhid HS;clear HS;unfold Reg.Yields
     go_simp
     exact Reg.GenH.step hnn (by decide) (fun _ _ => rfl) rfl (HS2.out.up (by simp) (Below.refl _ _))
    refine ⟨fun gh listed A X hI hcl hin hun hall => ⟨Reg.wanted_none rfl,?_⟩,?_⟩
    ·have e4 := hI.evo (d := 4) (by kernel_rfl) rfl;have hnn := Reg.un_of_reach hcl (n := 18) (i := 6) (by kernel_rfl) (by simpa using hun);have HS := hI.st.ahead hnn;have hX := HS.bel;clear hI hX;have HS2 := qhid HS;clear HS;unfold Reg.Yields
     go_simp
     exact Reg.GenH.step hnn (by decide) (fun _ _ => rfl) rfl (HS2.out.up (by simp) (Below.refl _ _))
    refine ⟨fun gh listed A X hI hcl hin hun hall => ⟨Reg.wanted_none rfl,?_⟩,?_⟩
    ·have e2 := hI.evo (d := 2) (by kernel_rfl) rfl;have hnn := Reg.un_of_reach hcl (n := 18) (i := 7) (by kernel_rfl) (by simpa using hun);have HS := hI.st.ahead hnn;have hX := HS.bel;clear hI hX;have HS2 := qhid HS;clear HS;unfold Reg.Yields
     go_simp
     exact Reg.GenH.step hnn (by decide) (fun _ _ => rfl) rfl (HS2.out.up (by simp) (Below.refl _ _))
    refine ⟨fun gh listed A X hI hcl hin hun hall => ⟨Reg.wanted_none rfl,?_⟩,?_⟩
    ·have e21 : A.tmps[21]? = some (.pointer (some ⟨tb,2,none⟩)) := hI.ev (i := 7) (d := 21) (by rfl) (hall ⟨7,.data⟩ (by simp) rfl);have hnn := Reg.un_of_reach hcl (n := 18) (i := 8) (by kernel_rfl) (by simpa using hun);have HS := hI.st.ahead hnn;have hX := HS.bel;have c2 := (jC (Reg.heap_kept_up HTB.out hX) 2).trans rfl;clear hI hX;have HS2 := qhid HS;clear HS;unfold Reg.Yields
     go_simp
     exact Reg.GenH.step hnn (by decide) (fun _ _ => rfl) rfl (HS2.out.up (by simp) (Below.refl _ _))
    refine ⟨fun gh listed A X hI hcl hin hun hall => ⟨Reg.wanted_none rfl,?_⟩,?_⟩
    ·have e20 : A.tmps[20]? = some (.int .i64 (q : Int)) := hI.ev (i := 6) (d := 20) (by rfl) (hall ⟨6,.data⟩ (by simp) rfl);have e22 : A.tmps[22]? = some (.int .i64 (o : Int)) := hI.ev (i := 8) (d := 22) (by rfl) (hall ⟨8,.data⟩ (by simp) rfl);have hnn := Reg.un_of_reach hcl (n := 18) (i := 9) (by kernel_rfl) (by simpa using hun);have HS := hI.st.ahead hnn;have hX := HS.bel;have hwr := HWR.out;clear hI hX;have HS2 := qhid HS;clear HS;unfold Reg.Yields
     go_simp
     exact Reg.GenH.step hnn (by decide) (fun _ _ => rfl) rfl (HS2.out.up (by simp) (Below.refl _ _))
    refine ⟨fun gh listed A X hI hcl hin hun hall => ⟨Reg.wanted_none rfl,?_⟩,?_⟩
    ·have e19 : A.tmps[19]? = some (.map (some sb)) := hI.ev (i := 5) (d := 19) (by rfl) (hall ⟨5,.data⟩ (by simp) rfl);have e23 : A.tmps[23]? = some (.int .i64 ((q : Int) + (o : Int))) := hI.ev (i := 9) (d := 23) (by rfl) (hall ⟨9,.data⟩ (by simp) rfl);have hnn := Reg.un_of_reach hcl (n := 18) (i := 10) (by kernel_rfl) (by simpa using hun);have HS := hI.st.ahead hnn;have hX := HS.bel;have hlk := wt_look (owns_kept HDS.out (hX.block sb HDS.out.lt)) HWD.out (q + o) ((q : Int) + (o : Int)) (by omega) (by omega);rw [HST1.out] at hlk;clear hI hX;have HS2 := qhid HS;clear HS;unfold Reg.Yields
     go_simp
     exact Reg.GenH.step hnn (by decide) (fun _ _ => rfl) rfl (HS2.out.up (by simp) (Below.refl _ _))
    refine ⟨fun gh listed A X hI hcl hin hun hall => ⟨Reg.wanted_none rfl,?_⟩,?_⟩
    ·have e2 := hI.evo (d := 2) (by kernel_rfl) rfl;have hnn := Reg.un_of_reach hcl (n := 18) (i := 11) (by kernel_rfl) (by simpa using hun);have HS := hI.st.ahead hnn;have hX := HS.bel;clear hI hX;have HS2 := qhid HS;clear HS;unfold Reg.Yields
     go_simp
     exact Reg.GenH.step hnn (by decide) (fun _ _ => rfl) rfl (HS2.out.up (by simp) (Below.refl _ _))
    refine ⟨fun gh listed A X hI hcl hin hun hall => ⟨Reg.wanted_none rfl,?_⟩,?_⟩
    ·have e25 : A.tmps[25]? = some (.pointer (some ⟨tb,1,none⟩)) := hI.ev (i := 11) (d := 25) (by rfl) (hall ⟨11,.data⟩ (by simp) rfl);have hnn := Reg.un_of_reach hcl (n := 18) (i := 12) (by kernel_rfl) (by simpa using hun);have HS := hI.st.ahead hnn;have hX := HS.bel;have c1 := (jC (Reg.heap_kept_up HTB.out hX) 1).trans rfl;clear hI hX;have HS2 := qhid HS;clear HS;unfold Reg.Yields
     go_simp
     exact Reg.GenH.step hnn (by decide) (fun _ _ => rfl) rfl (HS2.out.up (by simp) (Below.refl _ _))
    refine ⟨fun gh listed A X hI hcl hin hun hall => ⟨Reg.wanted_none rfl,?_⟩,?_⟩
    ·have e5 := hI.evo (d := 5) (by kernel_rfl) rfl;have hnn := Reg.un_of_reach hcl (n := 18) (i := 13) (by kernel_rfl) (by simpa using hun);have HS := hI.st.ahead hnn;have hX := HS.bel;clear hI hX;have HS2 := qhid HS;clear HS;unfold Reg.Yields
     go_simp
     exact Reg.GenH.step hnn (by decide) (fun _ _ => rfl) rfl (HS2.out.up (by simp) (Below.refl _ _))
    refine ⟨fun gh listed A X hI hcl hin hun hall => ⟨Reg.wanted_none rfl,?_⟩,?_⟩
    ·have e26 : A.tmps[26]? = some (.int .i64 t) := hI.ev (i := 12) (d := 26) (by rfl) (hall ⟨12,.data⟩ (by simp) rfl);have e27 : A.tmps[27]? = some (.int .i64 (f q)) := hI.ev (i := 13) (d := 27) (by rfl) (hall ⟨13,.data⟩ (by simp) rfl);have hnn := Reg.un_of_reach hcl (n := 18) (i := 14) (by kernel_rfl) (by simpa using hun);have HS := hI.st.ahead hnn;have hX := HS.bel;clear hI hX;have HS2 := qhid HS;clear HS;unfold Reg.Yields
     go_simp
     exact Reg.GenH.step hnn (by decide) (fun j hj => adT_14 (fun e => by rw [e] at hj;rw [hj] at hun;cases hun)) rfl (HS2.out.new X.heap.size (fun _ _ _ _ => rfl) (below1 _ _) (jN _) (heap_new _ _))
    refine ⟨fun gh listed A X hI hcl hin hun hall => ⟨Reg.wanted_none rfl,?_⟩,?_⟩
    ·have e28 : A.tmps[28]? = some (.slice (some ⟨gh 14,0,none⟩) 2 2) := hI.ev (i := 14) (d := 28) (by rfl) (hall ⟨14,.data⟩ (by simp) rfl);have hnn := Reg.un_of_reach hcl (n := 18) (i := 15) (by kernel_rfl) (by simpa using hun);have HS := hI.st.ahead hnn;have hX := HS.bel;have h14 := (HS.at_ 14 (by simp) (hall ⟨14,.data⟩ (by simp) rfl)).2;have HM := qhid (mul2_any (gh 14) t (f q) X HT.out (HF.out.bd q) h14);clear h14;clear hI hX;have HS2 := qhid HS;clear HS;unfold Reg.Yields
     go_simp
     exact HM.out.mono fun e w2 ⟨he,hw⟩ => ⟨_,he,by rw [hw];exact Reg.GenH.step hnn (by decide) (fun _ _ => rfl) rfl (HS2.out.up (by simp) (Below.refl _ _))⟩
    refine ⟨fun gh listed A X hI hcl hin hun hall => ⟨Reg.wanted_none rfl,?_⟩,?_⟩
    ·have e24 : A.tmps[24]? = some (.int .i64 (s (q + o))) := hI.ev (i := 10) (d := 24) (by rfl) (hall ⟨10,.data⟩ (by simp) rfl);have e29 : A.tmps[29]? = some (.int .i64 (ti t (f q))) := hI.ev (i := 15) (d := 29) (by rfl) (hall ⟨15,.data⟩ (by simp) rfl);have hnn := Reg.un_of_reach hcl (n := 18) (i := 16) (by kernel_rfl) (by simpa using hun);have HS := hI.st.ahead hnn;have hX := HS.bel;clear hI hX;have HS2 := qhid HS;clear HS;unfold Reg.Yields
     go_simp
     exact Reg.GenH.step hnn (by decide) (fun j hj => adT_16 (fun e => by rw [e] at hj;rw [hj] at hun;cases hun)) rfl (HS2.out.new X.heap.size (fun _ _ _ _ => rfl) (below1 _ _) (jN _) (heap_new _ _))
    refine ⟨fun gh listed A X hI hcl hin hun hall => ⟨Reg.wanted_none rfl,?_⟩,?_⟩
    ·have e30 : A.tmps[30]? = some (.slice (some ⟨gh 16,0,none⟩) 2 2) := hI.ev (i := 16) (d := 30) (by rfl) (hall ⟨16,.data⟩ (by simp) rfl);have hnn := Reg.un_of_reach hcl (n := 18) (i := 17) (by kernel_rfl) (by simpa using hun);have HS := hI.st.ahead hnn;have hX := HS.bel;have h16 := (HS.at_ 16 (by simp) (hall ⟨16,.data⟩ (by simp) rfl)).2;have HM := qhid (add2_any (gh 16) (s (q + o)) (ti t (f q)) X (HSO.out.bd _) ⟨ti_nn _ _,ti_le _ _⟩ h16);clear h16;clear hI hX;have HS2 := qhid HS;clear HS;unfold Reg.Yields
     go_simp
     exact HM.out.mono fun e w2 ⟨he,hw⟩ => ⟨_,he,by rw [hw];exact Reg.GenH.step hnn (by decide) (fun _ _ => rfl) rfl (HS2.out.up (by simp) (Below.refl _ _))⟩
    refine ⟨fun gh listed A X hI hcl hin hun hall => ⟨Reg.wanted_none rfl,?_⟩,?_⟩
    ·have e14 : A.tmps[14]? = some (.map (some sb)) := hI.ev (i := 0) (d := 14) (by rfl) (hall ⟨0,.data⟩ (by simp) rfl);have e18 : A.tmps[18]? = some (.int .i64 ((q : Int) + (o : Int))) := hI.ev (i := 4) (d := 18) (by rfl) (hall ⟨4,.data⟩ (by simp) rfl);have e31 : A.tmps[31]? = some (.int .i64 (pl (s (q + o)) (ti t (f q)))) := hI.ev (i := 17) (d := 31) (by rfl) (hall ⟨17,.data⟩ (by simp) rfl);have hnn : listed.getD 18 false = false := by simpa using hun
     have HS := hI.st.ahead hnn;have hX := HS.bel;obtain ⟨Y,hup,hY,hgY⟩ := wt_put (owns_kept HDS.out (hX.block sb HDS.out.lt)) (q + o) ((q : Int) + (o : Int)) (pl (s (q + o)) (ti t (f q))) (by omega) (by omega) ⟨pl_nn _ _,pl_le _ _⟩ HSZ.out;clear hI hX;have HS2 := qhid HS;clear HS;unfold Reg.Yields
     go_simp
     exact Reg.GenH.put hin rfl ⟨grown_put HS2.out.bel hgY HDS.out.lt,hY⟩
    trivial
   ·intro gh X hS;have HR := qhid (hS.done (by rfl));clear hS;simp [Reg.finalTmps,Reg.dstAt,Reg.valOf,adT];have HG2 : Hid (w.grownBy X (some sb)) := qhid ((HI.out.gr.andThen HG1.out (fun j hj => .inl (by have := Option.some.inj hj;have := HTBE.out;omega))).andThen HR.out.1 (fun j hj => .inr hj))
    go_wp2_with fail
    go_roundw
    case rel =>
     refine ⟨_,cnt1,_,qhid ⟨ranges_kept HRG1.out (HR.out.1.block b HRG1.out.owns.lt (fun e => hne (Option.some.inj e))) (HR.out.1.block (tb + 1) HRG1.out.lt (fun e => by have := Option.some.inj e;have := HTBE.out;omega)),owns_tight HR.out.2,?_,HG2.out,(HR.out.1.block tb (jS HTB.out) (fun e => by have := Option.some.inj e;have := HTBE.out;omega)).trans HTB.out⟩⟩;rw [HST2.out];exact HWD.out.put HDS.out.isMap (q + o) (pl_ne (HSO.out.bd _) ⟨ti_pos HTP.out ⟨HFQ.out,HF.out.bd q⟩,ti_le _ _⟩)
    case measure =>
     rw [(ranges_kept HRG1.out (HR.out.1.block b HRG1.out.owns.lt (fun e => hne (Option.some.inj e))) (HR.out.1.block (tb + 1) HRG1.out.lt (fun e => by have := Option.some.inj e;have := HTBE.out;omega))).left_eq,HRG.out.left_eq];exact HLT.out
end
end
end Go.Proofs.YtnmalggmbeipaaaGreatDoor
namespace Go.Proofs.YtnmalggmbeipaaaGreatDoor
section
section
open Go Go.RowKit
attribute [local go_sem ↓] Go.wp_at_zero Go.wp_at_succ
theorem mm_wt (n : Int) (w : World) : (Instr.makeMap 194 (some (.int .i64 n))).run Tryz.prog w = .ok (.map (some w.heap.size)) (w.alloc (.map #[] 0)) := by
 unfold Instr.makeMap;simp [run_underlying Tryz.underlying194,asInt,asIntOf]
theorem term_cells {w : World} {b : Nat} {m : Option Nat} {t o : Int} (h : w.heap[b]? = some (.cells #[.map m,.int .i64 t,.int .i64 o] 329 (0,0))) :
  w.cell? ⟨b,0,none⟩ = some (.map m) /\ w.cell? ⟨b,1,none⟩ = some (.int .i64 t) /\ w.cell? ⟨b,2,none⟩ = some (.int .i64 o) :=
 ⟨(jC h 0).trans rfl,(jC h 1).trans rfl,(jC h 2).trans rfl⟩
theorem ne_none {f : Wts} (h : f ≠ noneW) : ∃ p,f p ≠ 0 :=
 Classical.byContradiction fun e => h (by
  funext p
  exact Classical.byContradiction fun e2 => e ⟨p,e2⟩)
theorem tm_ne {f : Wts} {N : Nat} {t : Int} {o : Nat} (hf : f ≠ noneW) (hF : WtOK N f) (ht : 0 < t /\ t <= top) : tmW f t o ≠ noneW := by
 obtain ⟨p,hp⟩ := ne_none hf;intro e;have h := congrFun e (p + o);unfold tmW noneW at h;rw [if_pos (by omega),show p + o - o = p by omega] at h;have := ti_pos ht ⟨hp,hF.bd p⟩;omega
theorem sm_ne {f g : Wts} {N : Nat} (hf : f ≠ noneW) (hF : WtOK N f) (hG : ∀ p,0 <= g p /\ g p <= top) : smW f g ≠ noneW := by
 obtain ⟨p,hp⟩ := ne_none hf;intro e;have h := congrFun e p;unfold smW noneW at h;rw [pl_comm' (f p) (g p)] at h;have := hF.bd p;exact pl_ne (hG p) (by omega) h
theorem tm_nothing {f : Wts} {t : Int} {o : Nat} (ht : t = 0 \/ (0 < t /\ f = noneW)) : tmW f t o = noneW := by
 rcases ht with rfl | ⟨_,rfl⟩
 ·exact tm_zero f o
 ·funext p;unfold tmW noneW;rw [ti_zero_r,ite_self]
theorem wt_made (w : World) : WtB (w.alloc (.map #[] 0)) w.heap.size noneW := ⟨.map [],World.ownsMap_made _ _ _ _,WtD.empty⟩
theorem WtAt.block {w : World} {m : Option Nat} {f : Wts} (h : WtAt w (.map m) f) (hf : f ≠ noneW) : ∃ b,m = some b /\ WtB w b f := by
 rcases h with ⟨_,h⟩ | ⟨b,h1,_,h3,_⟩
 ·exact absurd h hf
 ·injection h1 with h1;exact ⟨b,h1,h3⟩
theorem below_grown {w w1 w2 : World} {b : Nat} (h : Below w.heap.size w w1) (g : w1.grownBy w2 (some b)) (hb : w.heap.size <= b) : Below w.heap.size w w2 :=
 ⟨g.os.trans h.os,g.tape.trans h.tape,g.output.trans h.output,Nat.le_trans h.size g.size,fun k hk => (g.block k (Nat.lt_of_lt_of_le hk h.size) (fun e => by have := Option.some.inj e;omega)).trans (h.block k hk)⟩
theorem alone_any (w : World) (m : Option Nat) (f : Wts) (N : Nat) (t : Int) (o : Nat) (h : WtAt w (.map m) f) (hF : WtOK N f) (hN : o + N <= 100000) (ht : 0 <= t /\ t <= top) :
  Calls Tryz.prog 252 #[.agg #[.map m,.int .i64 t,.int .i64 (o : Int)]] w fun e w' => ∃ m',e = .returned (.map m') /\ WtAt w' (.map m') (tmW f t o) /\ Below w.heap.size w w' := by
 have hw1 : WtAt (w.alloc (termOb m t o)) (.map m) f := h.up (below1 _ _)
 by_cases hc : t = 0 \/ (0 < t /\ f = noneW)
 ·rw [tm_nothing hc];have HC := qhid (counts_no t (o : Int) hw1 hc);clear h hF hN ht hw1 hc
  go_enter Tryz.func252,Tryz.ntmps252
  go_wp2_with fail
  refine HC.out.mono ?_;rintro e w2 ⟨rfl,hb⟩
  go_wp2_with fail
  go_ret
  exact ⟨_,rfl,.inl ⟨rfl,rfl⟩,(below1 w _).trans (hb.mono (below1 w _).size)⟩
 ·have ht1 : 0 < t := by
   have h0 : t ≠ 0 := fun e => hc (.inl e)
   omega
  have hf : f ≠ noneW := fun e => hc (.inr ⟨ht1,e⟩)
  obtain ⟨b,rfl,hB⟩ := h.block hf;obtain ⟨n,hl,_,_⟩ := h.len;have HC := qhid (counts_yes t (o : Int) hw1 ht1 hf);have HB := qhid hB;have HF := qhid hF;have HT : Hid (0 < t /\ t <= top) := qhid ⟨ht1,ht.2⟩;have HL := qhid hl;have HH := qhid h;have HFN := qhid hf;have HBX := qhid (heap_new w (termOb (some b) t (o : Int)));have hmm := mm_wt;clear h hF ht hw1 hc hf hB hl ht1
  by_cases h1 : t = 1 /\ o = 0
  ·obtain ⟨rfl,rfl⟩ := h1;rw [tm_one HF.out]
   go_enter Tryz.func252,Tryz.ntmps252
   go_wp2_with fail
   refine HC.out.mono ?_;rintro e w2 ⟨rfl,hb⟩;obtain ⟨c0,c1,c2⟩ := term_cells (Reg.heap_kept_up HBX.out hb)
   go_wp2_with fail
   go_ret
   have hb2 := (below1 w (termOb (some b) 1 ((0 : Nat) : Int))).trans (hb.mono (below1 w _).size);exact ⟨_,rfl,HH.out.up hb2,hb2⟩
  ·have h2 : (t == 1) = false \/ (t = 1 /\ ((o : Int) == 0) = false) := by
    by_cases e : t = 1
    ·refine .inr ⟨e,?_⟩;have : o ≠ 0 := fun e2 => h1 ⟨e,e2⟩
     simpa using this
    ·exact .inl (by simpa using e)
   clear h1
   rcases h2 with h2 | ⟨rfl,h2⟩
   all_goals
    go_enter Tryz.func252,Tryz.ntmps252
    go_wp2_with fail
    refine HC.out.mono ?_;rintro e w2 ⟨rfl,hb⟩;have hbx := Reg.heap_kept_up HBX.out hb;obtain ⟨c0,c1,c2⟩ := term_cells hbx;have hb2 := (below1 w (termOb (some b) _ (o : Int))).trans (hb.mono (below1 w _).size);have hl2 := fun ty => HL.out w2 ty hb2
    have HB2 := qhid hb2;have hsz := hb2.size;clear hb2 hb;obtain ⟨c0',c1',c2'⟩ := term_cells (Reg.heap_kept_up hbx (below1 w2 (.map #[] 0)));clear hbx
    go_wp2_with fail
    refine (addto_any _ w2.heap.size b N _ o f noneW (wt_made w2) ((HB.out.kept (HB2.out.block b HB.out.lt)).kept ((below1 w2 _).block b (Nat.lt_of_lt_of_le HB.out.lt hsz))) (by have := HB.out.lt;omega) HF.out (noneW_ok _) hN HT.out).mono ?_;rintro e w4 ⟨rfl,hg,hB4⟩;rw [sm_none_l (HF.out.tm _ o)] at hB4;have HG := qhid hg;have HB4 := qhid hB4;clear hg hB4
    go_wp2_with fail
    go_ret
    exact ⟨_,rfl,HB4.out.at_ (tm_ne HFN.out HF.out HT.out),below_grown (HB2.out.trans ((below1 w2 _).mono hsz)) HG.out hsz⟩
theorem sum_any (w : World) (m k : Option Nat) (f g : Wts) (N M : Nat) (t u : Int) (o p : Nat) (h : WtAt w (.map m) f) (h' : WtAt w (.map k) g) (hF : WtOK N f) (hG : WtOK M g) (hN : o + p + N + M <= 100000) (ht : 0 <= t /\ t <= top) (hu : 0 <= u /\ u <= top) :
  Calls Tryz.prog 234 #[.agg #[.map m,.int .i64 t,.int .i64 (o : Int)],.agg #[.map k,.int .i64 u,.int .i64 (p : Int)]] w fun e w' => ∃ m',e = .returned (.map m') /\ WtAt w' (.map m') (smW (tmW f t o) (tmW g u p)) /\ Below w.heap.size w w' := by
 obtain ⟨w1,hw1⟩ : ∃ X,X = (w.alloc (termOb m t o)).alloc (termOb k u p) := ⟨_,rfl⟩;have hb1 : Below w.heap.size w w1 := by rw [hw1];exact below2 _ _ _
 have hba : w1.heap[w.heap.size]? = some (.cells #[.map m,.int .i64 t,.int .i64 (o : Int)] 329 (0,0)) := by rw [hw1];exact Reg.heap_kept_up (heap_new w (termOb m t o)) (below1 _ _)
 have hbb : w1.heap[w.heap.size + 1]? = some (.cells #[.map k,.int .i64 u,.int .i64 (p : Int)] 329 (0,0)) := by
  rw [hw1,show w.heap.size + 1 = (w.alloc (termOb m t o)).heap.size by simp];exact heap_new _ _
 have HF := qhid hF;have HG := qhid hG;have HT := qhid ht;have HU := qhid hu;have HA := qhid h;have HB := qhid h';have HB1 := qhid hb1;have HBA := qhid hba;have HBB := qhid hbb;have HW1 := qhid hw1;have hsz := hb1.size;clear hF hG ht hu h h' hb1 hba hbb hw1
 by_cases hc : t = 0 \/ (0 < t /\ f = noneW)
 ·rw [tm_nothing hc,sm_none_l (HG.out.tm u p)];have HC := qhid (counts_no t (o : Int) (HA.out.up HB1.out) hc);clear hc
  go_enter Tryz.func234,Tryz.ntmps234
  go_wp2_with fail
  rw [show (w.alloc (termOb m t o)).alloc (termOb k u p) = w1 from HW1.out.symm];refine HC.out.mono ?_;rintro e w2 ⟨rfl,hb⟩;have HB2 : Hid (Below w.heap.size w w2) := qhid (HB1.out.trans (hb.mono hsz));obtain ⟨c0,c1,c2⟩ := term_cells (Reg.heap_kept_up HBB.out hb);clear hb
  go_wp2_with fail
  refine (alone_any w2 k g M u p (HB.out.up HB2.out) HG.out (by omega) HU.out).mono ?_;rintro e w3 ⟨m',rfl,hv,hb3⟩;have HV := qhid hv;have HB3 := qhid hb3;clear hv hb3
  go_wp2_with fail
  go_ret
  exact ⟨_,rfl,HV.out,HB2.out.trans (HB3.out.mono HB2.out.size)⟩
 ·have ht1 : 0 < t := by
   have h0 : t ≠ 0 := fun e => hc (.inl e)
   have := HT.out.1;omega
  have hf : f ≠ noneW := fun e => hc (.inr ⟨ht1,e⟩)
  have HC := qhid (counts_yes t (o : Int) (HA.out.up HB1.out) ht1 hf);have HTP := qhid ht1;have HFN := qhid hf;clear hc hf ht1
  by_cases hd : u = 0 \/ (0 < u /\ g = noneW)
  ·rw [tm_nothing hd,sm_none_r (HF.out.tm t o)];have HDD := qhid hd;clear hd
   go_enter Tryz.func234,Tryz.ntmps234
   go_wp2_with fail
   rw [show (w.alloc (termOb m t o)).alloc (termOb k u p) = w1 from HW1.out.symm];refine HC.out.mono ?_;rintro e w2 ⟨rfl,hb⟩;have HB2 : Hid (Below w.heap.size w w2) := qhid (HB1.out.trans (hb.mono hsz));have HBA2 := qhid (Reg.heap_kept_up HBA.out hb);obtain ⟨c0,c1,c2⟩ := term_cells (Reg.heap_kept_up HBB.out hb);clear hb
   go_wp2_with fail
   refine (counts_no u (p : Int) (HB.out.up HB2.out) HDD.out).mono ?_;rintro e w3 ⟨rfl,hb⟩;have HB3 : Hid (Below w.heap.size w w3) := qhid (HB2.out.trans (hb.mono HB2.out.size));clear c0 c1 c2;obtain ⟨c0,c1,c2⟩ := term_cells (Reg.heap_kept_up HBA2.out hb);clear hb
   go_wp2_with fail
   refine (alone_any w3 m f N t o (HA.out.up HB3.out) HF.out (by omega) HT.out).mono ?_;rintro e w4 ⟨m',rfl,hv,hb4⟩;have HV := qhid hv;have HB4 := qhid hb4;clear hv hb4
   go_wp2_with fail
   go_ret
   exact ⟨_,rfl,HV.out,HB3.out.trans (HB4.out.mono HB3.out.size)⟩
  ·have hu1 : 0 < u := by
    have h0 : u ≠ 0 := fun e => hd (.inl e)
    have := HU.out.1;omega
   have hg : g ≠ noneW := fun e => hd (.inr ⟨hu1,e⟩)
   obtain ⟨b,rfl,hbf⟩ := HA.out.block HFN.out;obtain ⟨d,rfl,hdg⟩ := HB.out.block hg;obtain ⟨n1,hl1,_,hn1⟩ := HA.out.len;obtain ⟨n2,hl2,_,hn2⟩ := HB.out.len;have hn1 := hn1 N HF.out;have hn2 := hn2 M HG.out;have HL1 := qhid hl1;have HL2 := qhid hl2;have HBF := qhid hbf;have HDG := qhid hdg;have HGN := qhid hg;have hmm := mm_wt;have HUP := qhid hu1;clear hd hg hu1 hl1 hl2 hbf hdg
   go_enter Tryz.func234,Tryz.ntmps234
   go_wp2_with fail
   rw [show (w.alloc (termOb (some b) t o)).alloc (termOb (some d) u p) = w1 from HW1.out.symm];refine HC.out.mono ?_;rintro e w2 ⟨rfl,hb⟩;have HB2 : Hid (Below w.heap.size w w2) := qhid (HB1.out.trans (hb.mono hsz));have HBA2 := qhid (Reg.heap_kept_up HBA.out hb);have HBB2 := qhid (Reg.heap_kept_up HBB.out hb);obtain ⟨c0,c1,c2⟩ := term_cells HBB2.out;clear hb
   go_wp2_with fail
   refine (counts_yes u (p : Int) (HB.out.up HB2.out) HUP.out HGN.out).mono ?_;rintro e w3 ⟨rfl,hb⟩;have HB3 : Hid (Below w.heap.size w w3) := qhid (HB2.out.trans (hb.mono HB2.out.size));have HBA3 := qhid (Reg.heap_kept_up HBA2.out hb);have HBB3 := qhid (Reg.heap_kept_up HBB2.out hb);clear c0 c1 c2 hb HBA2 HBB2 HBA HBB;obtain ⟨a0,a1,a2⟩ := term_cells HBA3.out;obtain ⟨c0,c1,c2⟩ := term_cells HBB3.out;have hla := fun ty => HL1.out w3 ty HB3.out
   have hlb := fun ty => HL2.out w3 ty HB3.out
   obtain ⟨wm,hwm⟩ : ∃ X,X = w3.alloc (.map #[] 0) := ⟨_,rfl⟩;have hbm : Below w3.heap.size w3 wm := by rw [hwm];exact below1 _ _
   obtain ⟨d0,d1,d2⟩ := term_cells (Reg.heap_kept_up HBA3.out hbm);have HBM := qhid hbm;have HWM := qhid hwm;have hs3 := HB3.out.size;have hk1 := jS HBB3.out;have hmk : ∀ n : Int,(Instr.makeMap 194 (some (.int .i64 n))).run Tryz.prog w3 = .ok (.map (some w3.heap.size)) wm := fun n => by rw [hwm];exact mm_wt n w3
   clear hbm hmm hwm
   go_wp2_with fail
   refine (addto_any wm w3.heap.size b N t o f noneW (by rw [HWM.out];exact wt_made w3) (HBF.out.kept ((HB3.out.trans (HBM.out.mono hs3)).block b HBF.out.lt)) (by have := HBF.out.lt;omega) HF.out (noneW_ok _) (by omega) ⟨HTP.out,HT.out.2⟩).mono ?_;rintro e w4 ⟨rfl,hg,hB4⟩;rw [sm_none_l (HF.out.tm t o)] at hB4;have HG4 := qhid hg;have HB4 := qhid hB4;have hb4 : Below w.heap.size w w4 := below_grown (HB3.out.trans (HBM.out.mono hs3)) hg hs3;obtain ⟨e0,e1,e2⟩ := term_cells ((hg.block (w.heap.size + 1) (Nat.lt_of_lt_of_le hk1 HBM.out.size) (fun e => by have := Option.some.inj e;omega)).trans (Reg.heap_kept_up HBB3.out HBM.out));have HBE := qhid hb4;clear hg hB4 hb4 a0 a1 a2 c0 c1 c2 d0 d1 d2
   go_wp2_with fail
   refine (addto_any w4 w3.heap.size d (o + N + M) u p g (tmW f t o) HB4.out (HDG.out.kept (HBE.out.block d HDG.out.lt)) (by have := HDG.out.lt;omega) (HG.out.mono (by omega)) ((HF.out.tm t o).mono (by omega)) (by omega) ⟨HUP.out,HU.out.2⟩).mono ?_;rintro e w5 ⟨rfl,hg,hB5⟩;have HG5 := qhid hg;have HB5 := qhid hB5;clear hg hB5 e0 e1 e2
   go_wp2_with fail
   go_ret
   exact ⟨_,rfl,HB5.out.at_ (sm_ne (tm_ne HFN.out HF.out ⟨HTP.out,HT.out.2⟩) (HF.out.tm t o) (HG.out.tm u p).bd),below_grown HBE.out HG5.out hs3⟩
end
end
end Go.Proofs.YtnmalggmbeipaaaGreatDoor
