/- A part of the proof. -/
import Derived.Test.YtnmalggmbeipaaaGreatDoorCoN
import Derived.Test.YtnmalggmbeipaaaGreatDoorPbU
set_option maxRecDepth 100000
set_option maxHeartbeats 16000000
namespace Go.Proofs.YtnmalggmbeipaaaGreatDoor
section
open Go Go.RowKit
attribute [local go_sem ↓] Go.wp_at_zero Go.wp_at_succ
attribute [local go_sem] eq4
theorem sz_many {k : Int} (hk : k ≠ 6) (s : W4) (lo hi : Int) (z : Bool) (a b : Nat) {l : List Tr} (hl : 0 < l.length) : szT (.mk k s lo hi z a b l) = addS ((l.length : Int) - 1) (l.map szT) := by
 rw [szT,szTs_map];unfold szK;rw [if_neg (fun e => by rw [List.map_eq_nil_iff] at e;subst e;simp at hl),if_neg hk,List.length_map]
theorem cof_any {t : Tr} (h : RtT t) : trSize t <= 1000000000 -> OfC t := by
 induction h with
 | empty a b => exact fun _ => of_step 0 noW 0 0 false a b [] (by simp) (fun h => absurd h (by simp))
 | set s a b hs => exact fun _ => of_step 1 s 0 0 false a b [] (by simp) (fun h => absurd h (by simp))
 | group k a b u hk hu ih =>
  intro hz;rw [trSize,trSizes,trSizes] at hz;refine of_step k noW 0 0 false a b [u] (by simp) (fun hl AA q mb w hN hmb hM => ?_);rw [sz_many (by rcases hk with rfl | rfl <;> decide) _ _ _ _ _ _ hl];exact made_many k (by rcases hk with rfl | rfl <;> decide) noW 0 0 false a b [u] (fun x hx => by obtain rfl : x = u := (by simpa using hx);exact ih (by omega)) hl (by simp) (fun x hx => by obtain rfl : x = u := (by simpa using hx);exact (szT_bd _ (by omega)).2) AA q mb w hN hmb hM
 | cat a b l hl hi h ih =>
  intro hz;rw [trSize] at hz;have hsl := trSizes_len l;refine of_step 4 noW 0 0 false a b l (by omega) (fun hl AA q mb w hN hmb hM => ?_);rw [sz_many (by decide) _ _ _ _ _ _ hl];exact made_many 4 (by decide) noW 0 0 false a b l (fun x hx => ih x hx (by have := trSize_mem hx;omega)) hl (by omega) (fun x hx => (szT_bd _ (by have := trSize_mem hx;omega)).2) AA q mb w hN hmb hM
 | alt a b l hl hi h ih =>
  intro hz;rw [trSize] at hz;have hsl := trSizes_len l;refine of_step 5 noW 0 0 false a b l (by omega) (fun hl AA q mb w hN hmb hM => ?_);rw [sz_many (by decide) _ _ _ _ _ _ hl];exact made_many 5 (by decide) noW 0 0 false a b l (fun x hx => ih x hx (by have := trSize_mem hx;omega)) hl (by omega) (fun x hx => (szT_bd _ (by have := trSize_mem hx;omega)).2) AA q mb w hN hmb hM
 | rep lo hi z a b u hc hu h ih =>
  intro hz;rw [trSize,trSizes,trSizes] at hz
  obtain ⟨h1,h2,h3⟩ : 0 <= lo /\ lo <= countM hi /\ countM hi <= 1000 := by
   unfold countedR at hc;simpa using hc
  have hh : hi = -1 \/ (lo <= hi /\ hi <= 1000) := by
   by_cases hm : hi = -1
   ·exact .inl hm
   ·right
    unfold countM at h2 h3;rw [if_neg hm] at h2 h3;exact ⟨h2,h3⟩
  refine of_step 6 noW lo hi z a b [u] (by simp) (fun hl AA q mb w hN hmb hM => ?_)
  have e : szT (.mk 6 noW lo hi z a b [u]) = repM (szT u) lo hi := by
   rw [szT,szTs_map];rfl
  rw [e];exact made_rep noW lo hi z a b u (ih (by omega)) ⟨h1,by omega⟩ hh (szT_bd _ (by omega)).2 AA q mb w hN hmb hM
theorem adL_last (xs : List Int) (x : Int) (h : 1 <= x) : 1 <= adL (xs ++ [x]) := by
 unfold adL;rw [List.foldl_append]
 show 1 <= pl _ x
 generalize xs.foldl pl 0 = a;unfold pl sat;have := cnt_nn a;have : cnt x = x := cnt_of (by omega)
 split
 ·omega
 ·unfold top;omega
theorem addS_pos (a : Int) (xs : List Int) (h : xs ≠ []) (hx : ∀ x ∈ xs,1 <= x) : 1 <= addS a xs := by
 obtain ⟨ys,y,rfl⟩ : ∃ ys y,xs = ys ++ [y] := ⟨_,_,(List.dropLast_concat_getLast h).symm⟩;unfold addS;rw [List.foldl_append];exact adL_last [_] y (hx y (by simp))
theorem szT_pos {t : Tr} (h : RtT t) : 1 <= szT t := by
 induction h with
 | empty a b => rw [szT,szTs];decide
 | set s a b hs => rw [szT,szTs];unfold szK;rw [if_pos rfl];omega
 | group k a b u hk hu ih =>
  rw [sz_many (by rcases hk with rfl | rfl <;> decide) _ _ _ _ _ _ (by simp)];exact addS_pos _ _ (by simp) (fun x hx => by obtain rfl : x = szT u := (by simpa using hx);exact ih)
 | cat a b l hl hi h ih =>
  rw [sz_many (by decide) _ _ _ _ _ _ (by omega)];exact addS_pos _ _ (by rw [Ne,List.map_eq_nil_iff];intro e;subst e;simp at hl) (fun x hx => by obtain ⟨u,hu,rfl⟩ := List.mem_map.1 hx;exact ih u hu)
 | alt a b l hl hi h ih =>
  rw [sz_many (by decide) _ _ _ _ _ _ (by omega)];exact addS_pos _ _ (by rw [Ne,List.map_eq_nil_iff];intro e;subst e;simp at hl) (fun x hx => by obtain ⟨u,hu,rfl⟩ := List.mem_map.1 hx;exact ih u hu)
 | rep lo hi z a b u hc hu h ih =>
  have e : szT (.mk 6 noW lo hi z a b [u]) = repM (szT u) lo hi := by
   rw [szT,szTs_map];rfl
  rw [e];unfold repM
  split
  ·exact adL_last [_,_] 1 (by omega)
  ·split
   ·omega
   ·split
    ·exact adL_last [_] _ ih
    ·exact adL_last [_,_,_] 2 (by omega)
def addM (m : Int) : Int := if m = 0 then 0 else if m = 3 then 6 else 3
theorem cismode_yes (m : Int) (w : World) (h : 0 <= m /\ m < 4) : Calls Tryz.prog 32 #[.int .i64 m] w fun e w' => e = .returned (.bool true) /\ w = w' := by
 obtain ⟨h1,h2⟩ := h
 go_enter Tryz.func32,Tryz.ntmps32
 go_wp2_with fail
 go_ret
 exact ⟨rfl,rfl⟩
theorem caddedby_any (m : Int) (w : World) (h : 0 <= m /\ m < 4) : Calls Tryz.prog 56 #[.int .i64 m] w fun e w' => e = .returned (.int .i64 (addM m)) /\ Below w.heap.size w w' := by
 have hm : m = 0 \/ m = 1 \/ m = 2 \/ m = 3 := by omega
 clear h
 rcases hm with rfl | rfl | rfl | rfl
 ·have hix : (Instr.index 186 (.agg #[.int .i64 0,.int .i64 1,.int .i64 1,.int .i64 2]) (.int .i64 0)).run Tryz.prog w = .ok (.int .i64 0) w := by kernel_rfl
  go_enter Tryz.func56,Tryz.ntmps56
  go_wp2_with fail
  go_ret
  exact ⟨rfl,Below.refl _ _⟩
 ·have hix : (Instr.index 186 (.agg #[.int .i64 0,.int .i64 1,.int .i64 1,.int .i64 2]) (.int .i64 1)).run Tryz.prog w = .ok (.int .i64 1) w := by kernel_rfl
  go_enter Tryz.func56,Tryz.ntmps56
  go_wp2_with fail
  go_ret
  exact ⟨rfl,Below.refl _ _⟩
 ·have hix : (Instr.index 186 (.agg #[.int .i64 0,.int .i64 1,.int .i64 1,.int .i64 2]) (.int .i64 2)).run Tryz.prog w = .ok (.int .i64 1) w := by kernel_rfl
  go_enter Tryz.func56,Tryz.ntmps56
  go_wp2_with fail
  go_ret
  exact ⟨rfl,Below.refl _ _⟩
 ·have hix : (Instr.index 186 (.agg #[.int .i64 0,.int .i64 1,.int .i64 1,.int .i64 2]) (.int .i64 3)).run Tryz.prog w = .ok (.int .i64 2) w := by kernel_rfl
  go_enter Tryz.func56,Tryz.ntmps56
  go_wp2_with fail
  go_ret
  exact ⟨rfl,Below.refl _ _⟩
theorem adL_two (x y : Int) (hx : 1 <= x) (hy : 0 <= y) : 1 <= adL [x,y] := by
 show 1 <= pl (pl 0 x) y
 have h0 : cnt 0 = 0 := rfl;have h1 : cnt x = x := cnt_of (by omega);have h2 : cnt y = y := cnt_of hy
 have h3 : 1 <= pl 0 x := by
  unfold pl sat;rw [h0,h1]
  split
  ·omega
  ·unfold top;omega
 have h4 : cnt (pl 0 x) = pl 0 x := cnt_of (by omega);generalize pl 0 x = a at *;unfold pl sat;rw [h4,h2]
 split
 ·omega
 ·unfold top;omega
theorem addM_nn (m : Int) : 0 <= addM m /\ addM m <= 6 := by
 unfold addM
 split
 ·omega
 ·split <;> omega
theorem cmeasure_ok (m : Int) (hm : 0 <= m /\ m < 4) {t : Tr} (hR : RtT t) (hr : foldR rightN t <= 200) (hz : trSize t <= 1000000000) (A : Nat -> Prop) (q : Nat) (w : World) (hN : NdAt w A t (ndPtr q)) :
  Calls Tryz.prog 19 #[ndPtr q,.int .i64 m] w fun e w' => e = .returned (.int .i64 (adL [szT t,addM m])) /\ Below w.heap.size w w' := by
 have hN' : NdAt w (fun b => b < w.heap.size) t (ndPtr q) := hN.mono (fun b hb _ => hb);have RI := sright_any A t q w hN (by omega);rw [jT hr] at RI;have HRI := qhid RI;have HIM := qhid (cismode_yes m w hm);have HOF := qhid (cof_any hR hz);have HAB := qhid (fun X => caddedby_any m X hm);have HN := qhid hN';have HBD := qhid (And.intro (szT_bd t hz).2 (show addM m <= top by have := (addM_nn m).2;unfold top;omega));have hmm := @run_makeMap Tryz.prog;obtain ⟨sz,hs⟩ : ∃ sz,szT t = sz := ⟨_,rfl⟩;obtain ⟨am,ha⟩ : ∃ am,addM m = am := ⟨_,rfl⟩;have HS := qhid hs;have HA := qhid ha;rw [hs,ha] at HBD ⊢;clear hN hN' RI hm hR hr hz hs ha
 go_enter Tryz.func19,Tryz.ntmps19
 go_wp2_with fail
 refine HIM.out.mono ?_;rintro e wx ⟨rfl,rfl⟩
 go_wp2_with fail
 refine HRI.out.mono ?_;rintro e w2 ⟨rfl,hb2⟩;have HB2 := qhid hb2;clear hb2 HIM HRI;obtain ⟨w3,hw3⟩ : ∃ X,X = w2.alloc (.map #[] 0) := ⟨_,rfl⟩;have b3 : Below w2.heap.size w2 w3 := by rw [hw3];exact below1 _ _
 have HB3 := qhid (HB2.out.trans (b3.mono HB2.out.size));have hmp : w3.heap[w2.heap.size]? = some (.map #[] 0) := by rw [hw3];exact heap_new w2 _
 have HO := qhid (HOF.out (fun b => b < w.heap.size) q w2.heap.size w3 (HN.out.up HB3.out) (fun b hb => by have := HB2.out.size;omega) ⟨[],⟨#[],0,hmp,rfl⟩,fun p hp => by cases hp⟩);clear hmp b3
 go_wp2_with fail
 clear hmm;rw [<- hw3];clear hw3;refine HO.out.mono ?_;rintro e w4 ⟨he,g4,_⟩;rw [HS.out] at he;subst he;have HB4 := qhid (HB3.out.grown g4 HB3.out.size (fun k e => by cases e;exact HB2.out.size));clear g4 HO
 go_wp2_with fail
 refine (HAB.out w4).mono ?_;rintro e w5 ⟨he,hb5⟩;rw [HA.out] at he;subst he;have HB5 := qhid (HB4.out.trans (hb5.mono HB4.out.size));clear hb5;obtain ⟨w6,hw6⟩ : ∃ Y,Y = w5.alloc (.cells #[.int .i64 sz,.int .i64 am] 3) := ⟨_,rfl⟩;have b6 : Below w5.heap.size w5 w6 := by rw [hw6];exact below1 _ _
 have K6 := qhid (add_cells w5.heap.size 2 [sz,am] w6 (by simp) (fun z hz => by
  simp only [List.mem_cons,List.not_mem_nil,or_false] at hz
  rcases hz with h | h
  ·rw [h];exact HBD.out.1
  ·rw [h];exact HBD.out.2
  ) (by rw [hw6];exact heap_new w5 _))
 have HB6 := qhid (HB5.out.trans (b6.mono HB5.out.size));clear b6
 go_wp2_with fail
 rw [<- hw6];clear hw6;refine K6.out.mono ?_;rintro e wz ⟨rfl,hz⟩;obtain rfl : w6 = wz := hz;clear K6
 go_wp2_with fail
 go_ret
 exact ⟨rfl,HB6.out⟩
def BuiltC (_w w' : World) (m : Int) (t : Tr) (v : Value) (e : Int) : Prop :=
 (4096 < adL [szT t,addM m] /\ v = .pointer none /\ e = 3) \/ (adL [szT t,addM m] <= 4096 /\ e = 0 /\ CoAt w' (byC m (coreT t)) v)
theorem cbuild_ok (m : Int) (hm : 0 <= m /\ m < 4) {t : Tr} (hR : RtT t) (hr : foldR rightN t <= 200) (hz : trSize t <= 1000000000) (A : Nat -> Prop) (q : Nat) (w : World) (hN : NdAt w A t (ndPtr q)) :
  Calls Tryz.prog 20 #[ndPtr q,.int .i64 m] w fun x w' => ∃ v e,x = .returned (.tuple #[v,.int .i64 e]) /\ BuiltC w w' m t v e /\ Below w.heap.size w w' := by
 have HM := qhid (cmeasure_ok m hm hR hr hz A q w hN);have HBU := qhid (fun (X : World) (hX : Below w.heap.size w X) => build_any hR hz A q X (hN.up hX));have HBY := qhid (fun (X : World) (v : Value) (h : CoAt X (coreT t) v) => cby_any m (coreT t) v X h);have h1 := adL_two (szT t) (addM m) (szT_pos hR) (addM_nn m).1;have HBC := qhid (fun (w' : World) (v : Value) (e : Int) => show BuiltC w w' m t v e = ((4096 < adL [szT t,addM m] /\ v = .pointer none /\ e = 3) \/ (adL [szT t,addM m] <= 4096 /\ e = 0 /\ CoAt w' (byC m (coreT t)) v)) from rfl);generalize adL [szT t,addM m] = M at *;have q0 : ((M : Int) == 0) = false := by simp;omega
 clear hN hR hr hz hm
 by_cases hg : 4096 < M
 ·have HG := qhid hg
  go_enter Tryz.func20,Tryz.ntmps20
  go_wp2_with fail
  refine HM.out.mono ?_;rintro e w2 ⟨rfl,hb2⟩;have HB2 := qhid hb2;clear hb2
  go_wp2_with fail
  go_ret2
  exact ⟨_,_,rfl,by rw [HBC.out];exact .inl ⟨HG.out,rfl,rfl⟩,HB2.out⟩
 ·have HG := qhid (show M <= 4096 by omega);have h4 : M <= 4096 := by omega
  clear hg
  go_enter Tryz.func20,Tryz.ntmps20
  go_wp2_with fail
  refine HM.out.mono ?_;rintro e w2 ⟨rfl,hb2⟩;have HB2 := qhid hb2;clear hb2
  go_wp2_with fail
  refine (HBU.out w2 HB2.out).mono ?_;rintro e w3 ⟨v3,rfl,hc3,hb3⟩;have HB3 := qhid (HB2.out.trans (hb3.mono HB2.out.size));have HC3 := qhid hc3;clear hb3 hc3
  go_wp2_with fail
  refine (HBY.out w3 v3 HC3.out).mono ?_;rintro e w4 ⟨v4,rfl,hc4,hb4⟩;have HB4 := qhid (HB3.out.trans (hb4.mono HB3.out.size));have HC4 := qhid hc4;clear hb4 hc4
  go_wp2_with fail
  go_ret2
  exact ⟨_,_,rfl,by rw [HBC.out];exact .inr ⟨HG.out,rfl,HC4.out⟩,HB4.out⟩
end
end Go.Proofs.YtnmalggmbeipaaaGreatDoor
