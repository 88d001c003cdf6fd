/- A part of the proof. -/
import Derived.Test.YtnmalggmbeipaaaGreatDoorPbG
set_option maxRecDepth 100000
set_option maxHeartbeats 16000000
namespace Go.Proofs.YtnmalggmbeipaaaGreatDoor
open Go Go.RowKit
attribute [local go_sem ↓] Go.wp_at_zero Go.wp_at_succ
attribute [local go_sem] eq4
def rightN (u : Tr) (ps : List Int) : Int := if soundR u = true then deepR u ps else 201
theorem deepR_bound (u : Tr) (ps : List Int) (c : Int) (hc : 0 <= c) (h : ∀ x ∈ ps,x <= c) : 0 <= deepR u ps /\ deepR u ps <= c + 1 := by
 cases u with
 | mk k s lo hi z a b l =>
  have := maxR_le ps c hc h;unfold deepR
  split <;> omega
theorem fold_bound (num : Tr -> List Int -> Int) (e : Int) (hnum : ∀ u ps (c : Int),0 <= c -> (∀ x ∈ ps,x <= c + e) -> 0 <= num u ps /\ num u ps <= c + e + 1) : ∀ (n : Nat) (u : Tr),trSize u <= n -> 0 <= foldR num u /\ foldR num u <= trSize u + e := by
 intro n
 induction n with
 | zero => intro u hu;have := trSize_pos u;omega
 | succ n ih =>
  intro u hu;rw [foldR_eq];have hs := trSize_eq u
  have := hnum u ((prts u).map (foldR num)) ((trSizes (prts u) : Nat) : Int) (by omega) (fun x hx => by
   obtain ⟨c,hc,rfl⟩ := List.mem_map.1 hx;have h1 := trSize_mem hc;have := ih c (by omega)
   omega)
  omega
theorem deep_bound (u : Tr) : 0 <= foldR deepR u /\ foldR deepR u <= trSize u := by
 have := fold_bound deepR 0 (fun u ps c hc h => by have := deepR_bound u ps c hc (fun x hx => by have := h x hx;omega);omega) (trSize u) u (jN _);omega
theorem right_bound (u : Tr) : 0 <= foldR rightN u /\ foldR rightN u <= trSize u + 201 := by
 refine fold_bound rightN 201 (fun u ps c hc h => ?_) (trSize u) u (jN _);unfold rightN
 split
 ·have := deepR_bound u ps (c + 201) (by omega) h;omega
 ·omega
theorem prts_len {u : Tr} {N : Nat} (h : trSize u <= N) : (prts u).length <= N := by
 have := trSizes_len (prts u);have := trSize_eq u;omega
theorem cf_right1 (args : Array Value) (W : World) : (callFunc 97 args).run Tryz.prog W = .ok (.enter 97 args) W := by
 simp [callFunc,Tryz.func97,mark,Sem.run];rfl
theorem deepest_at (A : Nat -> Prop) (u : Tr) (q : Nat) (v : Value) (ps : List Int) (w : World) (hu : NdAt w A u (ndPtr q)) (hp : NumsAt w v ps) (hle : ∀ x ∈ ps,x <= 1099511627776) (hn : ps.length <= 1099511627776) :
  Calls Tryz.prog 99 #[ndPtr q,v] w fun e w' => e = .returned (.int .i64 (deepR u ps)) /\ w' = w := by
 obtain ⟨k,s,lo,hi,z,a,b,l⟩ := u;obtain ⟨q',np,nc,e,_,hq,_⟩ := hu.head;injection e with e;injection e with e;injection e with e;subst e;exact pdeepest_any q k s lo hi z _ v a b l ps w hq hp hle hn
theorem numc_deep (w0 : World) : NumC 99 #[] deepR w0 1099511000000 := by
 intro A X u q pv _ hu hN hp;have hlen := prts_len hN;refine (deepest_at A u q pv _ X hu hp (fun x hx => ?_) (by simp;omega)).mono ?_
 ·obtain ⟨c,hc,rfl⟩ := List.mem_map.1 hx;have := (deep_bound c).2;have := trSize_mem hc;have := trSize_eq u;omega
 ·rintro e w' ⟨rfl,rfl⟩;rw [<- foldR_eq deepR u];exact ⟨rfl,Below.refl _ _⟩
theorem numc_right (w0 : World) : NumC 97 #[] rightN w0 1099511000000 := by
 intro A X u q pv _ hu hN hp;have hlen := prts_len hN;have SO := qhid (ssound_any A u q X hu (by omega))
 have DE := qhid (fun X' (hX : Below X.heap.size X X') => deepest_at A u q pv _ X' (hu.up hX) (hp.below hX) (fun x hx => by
  obtain ⟨c,hc,rfl⟩ := List.mem_map.1 hx;have := (right_bound c).2;have := trSize_mem hc;have := trSize_eq u
  omega) (by simp;omega))
 rw [foldR_eq];have HF : Hid (rightN u ((prts u).map (foldR rightN)) = if soundR u = true then deepR u ((prts u).map (foldR rightN)) else 201) := qhid rfl;generalize rightN u ((prts u).map (foldR rightN)) = res at *;generalize deepR u ((prts u).map (foldR rightN)) = d at *;generalize soundR u = b at *;clear hu hp hN hlen
 go_enter Tryz.func97,Tryz.ntmps97
 go_wp2_with fail
 refine SO.out.mono ?_;rintro e w1 ⟨rfl,h1⟩;have H1 := qhid h1;have D1 := qhid (DE.out w1 h1);clear h1 DE SO
 cases b with
 | true =>
  have HF2 : Hid (res = d) := qhid (by rw [HF.out];rfl);clear HF
  go_wp2_with fail
  refine D1.out.mono ?_;rintro e w2 ⟨rfl,hw⟩;obtain rfl : w1 = w2 := hw.symm;clear D1
  go_wp2_with fail
  exact bodyPost_ret (v := .int .i64 d) (by simp [results,Tryz.results97,go_sem]) rfl ⟨by rw [HF2.out],H1.out⟩
 | false =>
  have HF2 : Hid (res = 201) := qhid (by rw [HF.out];rfl);clear HF
  go_wp2_with fail
  exact bodyPost_ret (v := .int .i64 201) (by simp [results,Tryz.results97,go_sem]) rfl ⟨by rw [HF2.out],H1.out⟩
theorem sright_any (A : Nat -> Prop) (t : Tr) (q : Nat) (w : World) (ht : NdAt w A t (ndPtr q)) (hs : trSize t <= 1099511000000) :
  Calls Tryz.prog 54 #[ndPtr q] w fun e w' => e = .returned (.bool (decide (foldR rightN t <= 200))) /\ Below w.heap.size w w' := by
 have FO := qhid (pfold_any cf_right1 (numc_right w) (fun u _ => by have := (right_bound u).1;omega) (by omega) t q A ht hs);generalize foldR rightN t = d at *;clear ht hs;obtain ⟨b,hb⟩ : ∃ b,b = decide (d <= 200) := ⟨_,rfl⟩;rw [<- hb];have HB := qhid hb;clear hb
 go_enter Tryz.func54,Tryz.ntmps54
 go_wp2_with fail
 refine FO.out.mono ?_;rintro e w1 ⟨rfl,h1⟩;have H1 := qhid h1;clear h1 FO
 go_wp2_with fail
 exact bodyPost_ret (v := .bool (decide (d <= 200))) (by simp [results,Tryz.results54,go_sem]) rfl ⟨by rw [HB.out],H1.out⟩
end Go.Proofs.YtnmalggmbeipaaaGreatDoor
