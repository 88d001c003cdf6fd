/- A part of the proof. -/
import Derived.Test.YtnmalggmbeipaaaGreatDoorWeQ
import Derived.Test.YtnmalggmbeipaaaGreatDoorWeL
import Derived.Test.YtnmalggmbeipaaaGreatDoorRegion
set_option maxRecDepth 100000
set_option maxHeartbeats 16000000
namespace Go.Proofs.YtnmalggmbeipaaaGreatDoor
section
section
open Go Go.RowKit
attribute [local go_sem ↓] Go.wp_at_zero Go.wp_at_succ
attribute [local go_sem] eq4
theorem co_cells {w : World} {q : Nat} {k : Int} {s : W4} {z : Bool} {va vb : Value} (h : w.heap[q]? = some (coOb k s z va vb)) :
  w.cell? ⟨q,0,none⟩ = some (.int .i64 k) /\ w.cell? ⟨q,6,none⟩ = some va /\ w.cell? ⟨q,7,none⟩ = some vb :=
 ⟨(jC h 0).trans rfl,(jC h 6).trans rfl,(jC h 7).trans rfl⟩
theorem isnode_any (w : World) (q : Nat) (k : Int) (hc : w.cell? ⟨q,0,none⟩ = some (.int .i64 k)) (h : 0 <= k /\ k <= 4) :
  Calls Tryz.prog 227 #[.pointer (some ⟨q,0,none⟩)] w fun e w' => e = .returned (.bool true) /\ w' = w := by
 obtain ⟨h1,h2⟩ := h
 go_enter Tryz.func227,Tryz.ntmps227
 go_wp2_with fail
 go_ret
 exact ⟨rfl,rfl⟩
def PtrsAt (w : World) (v : Value) (ps : List (Option Nat)) : Prop := (ps = [] /\ v = .slice none 0 0) \/ ∃ g,v = .slice (some ⟨g,0,none⟩) ps.length ps.length /\ w.heap[g]? = some (.cells (ps.map kPtr).toArray 23 (0,0))
def innP (k : Int) (a b : Option Nat) : List (Option Nat) := if k = 2 \/ k = 3 then [a,b] else if k = 4 then [a] else []
theorem PC.inn_ptr (q : Nat) (k : Int) (s : W4) (z : Bool) (a b : PC) : ((PC.node q k s z a b).inn).map PC.ptr = innP k a.ptr b.ptr := by
 rw [PC.inn,innP]
 split
 ·rfl
 ·split <;> rfl
def wiT (q g : Nat) (pa pb : Option Addr) : Nat -> Value
 | 0 => .pointer (some ⟨q,0,none⟩)
 | 1 => .pointer (some ⟨q,0,none⟩)
 | 2 => .pointer (some ⟨q,6,none⟩)
 | 3 => .pointer pa
 | 4 => .pointer (some ⟨q,0,none⟩)
 | 5 => .pointer (some ⟨q,0,none⟩)
 | 6 => .pointer (some ⟨q,7,none⟩)
 | 7 => .pointer pb
 | 8 => .slice (some ⟨g,0,none⟩) 2 2
 | 9 => .slice (some ⟨g,0,none⟩) 2 2
 | _ => undef
theorem within_two (w : World) (q : Nat) (k : Int) (pa pb : Option Addr) (hc : w.cell? ⟨q,0,none⟩ = some (.int .i64 k)) (ha : w.cell? ⟨q,6,none⟩ = some (.pointer pa)) (hb : w.cell? ⟨q,7,none⟩ = some (.pointer pb)) (hk : k = 2 \/ k = 3) :
  Calls Tryz.prog 228 #[.pointer (some ⟨q,0,none⟩)] w fun e w' => e = .returned (.slice (some ⟨w.heap.size,0,none⟩) 2 2) /\ w' = w.drew.alloc (.cells #[.pointer pa,.pointer pb] 23) := by
 have HC : Hid (w.drew.cell? ⟨q,6,none⟩ = some (.pointer pa) /\ w.drew.cell? ⟨q,7,none⟩ = some (.pointer pb)) := qhid ⟨ha,hb⟩
 rcases hk with rfl | rfl
 all_goals
  go_enter Tryz.func228,Tryz.ntmps228
  go_wp2_with fail
  refine Reg.wp_region_C (wiT q w.heap.size pa pb) (Reg.OneSt w.drew (w.drew.alloc (.cells #[.pointer pa,.pointer pb] 23)) 8) [0,1,2,3,4,5,6,7,8,9] (by rfl) (by kernel_rfl) (by kernel_rfl) ?_ ?_ ?_
  ·exact Reg.OneSt.start _
  ·refine ⟨fun listed A X hI hcl hin hun hall => .inl ⟨Reg.wanted_none rfl,?_⟩,?_⟩
   ·have e0 := hI.evo (d := 0) (by kernel_rfl) rfl;have HS := hI.st;clear hI hall hcl;have HS := qhid HS;unfold Reg.Yields
    go_simp
    first | exact ⟨rfl,HS.out.keep (by decide)⟩ | (refine ⟨?_,HS.out.keep (by decide)⟩;simp [wiT];done)
   refine ⟨fun listed A X hI hcl hin hun hall => .inl ⟨Reg.wanted_none rfl,?_⟩,?_⟩
   ·have e10 : A.tmps[10]? = some (.pointer (some ⟨q,0,none⟩)) := hI.ev (i := 0) (d := 10) (by rfl) (hall ⟨0,.data⟩ (by simp) rfl);have HS := hI.st;clear hI hall hcl;have HS := qhid HS;unfold Reg.Yields
    go_simp
    first | exact ⟨rfl,HS.out.keep (by decide)⟩ | (refine ⟨?_,HS.out.keep (by decide)⟩;simp [wiT];done)
   refine ⟨fun listed A X hI hcl hin hun hall => .inl ⟨Reg.wanted_none rfl,?_⟩,?_⟩
   ·have e11 : A.tmps[11]? = some (.pointer (some ⟨q,0,none⟩)) := hI.ev (i := 1) (d := 11) (by rfl) (hall ⟨1,.data⟩ (by simp) rfl);have HS := hI.st;clear hI hall hcl;have HS := qhid HS;unfold Reg.Yields
    go_simp
    first | exact ⟨rfl,HS.out.keep (by decide)⟩ | (refine ⟨?_,HS.out.keep (by decide)⟩;simp [wiT];done)
   refine ⟨fun listed A X hI hcl hin hun hall => .inl ⟨Reg.wanted_none rfl,?_⟩,?_⟩
   ·have e12 : A.tmps[12]? = some (.pointer (some ⟨q,6,none⟩)) := hI.ev (i := 2) (d := 12) (by rfl) (hall ⟨2,.data⟩ (by simp) rfl);have HS := hI.st;obtain rfl := HS.a (Reg.un_of_reach hcl (n := 8) (i := 3) (by kernel_rfl) (by simpa using hun));obtain ⟨c6,c7⟩ := HC.out;clear hI hall hcl;have HS := qhid HS;unfold Reg.Yields
    go_simp
    first | exact ⟨rfl,HS.out.keep (by decide)⟩ | (refine ⟨?_,HS.out.keep (by decide)⟩;simp [wiT];done)
   refine ⟨fun listed A X hI hcl hin hun hall => .inl ⟨Reg.wanted_none rfl,?_⟩,?_⟩
   ·have e0 := hI.evo (d := 0) (by kernel_rfl) rfl;have HS := hI.st;clear hI hall hcl;have HS := qhid HS;unfold Reg.Yields
    go_simp
    first | exact ⟨rfl,HS.out.keep (by decide)⟩ | (refine ⟨?_,HS.out.keep (by decide)⟩;simp [wiT];done)
   refine ⟨fun listed A X hI hcl hin hun hall => .inl ⟨Reg.wanted_none rfl,?_⟩,?_⟩
   ·have e14 : A.tmps[14]? = some (.pointer (some ⟨q,0,none⟩)) := hI.ev (i := 4) (d := 14) (by rfl) (hall ⟨4,.data⟩ (by simp) rfl);have HS := hI.st;clear hI hall hcl;have HS := qhid HS;unfold Reg.Yields
    go_simp
    first | exact ⟨rfl,HS.out.keep (by decide)⟩ | (refine ⟨?_,HS.out.keep (by decide)⟩;simp [wiT];done)
   refine ⟨fun listed A X hI hcl hin hun hall => .inl ⟨Reg.wanted_none rfl,?_⟩,?_⟩
   ·have e15 : A.tmps[15]? = some (.pointer (some ⟨q,0,none⟩)) := hI.ev (i := 5) (d := 15) (by rfl) (hall ⟨5,.data⟩ (by simp) rfl);have HS := hI.st;clear hI hall hcl;have HS := qhid HS;unfold Reg.Yields
    go_simp
    first | exact ⟨rfl,HS.out.keep (by decide)⟩ | (refine ⟨?_,HS.out.keep (by decide)⟩;simp [wiT];done)
   refine ⟨fun listed A X hI hcl hin hun hall => .inl ⟨Reg.wanted_none rfl,?_⟩,?_⟩
   ·have e16 : A.tmps[16]? = some (.pointer (some ⟨q,7,none⟩)) := hI.ev (i := 6) (d := 16) (by rfl) (hall ⟨6,.data⟩ (by simp) rfl);have HS := hI.st;obtain rfl := HS.a (Reg.un_of_reach hcl (n := 8) (i := 7) (by kernel_rfl) (by simpa using hun));obtain ⟨c6,c7⟩ := HC.out;clear hI hall hcl;have HS := qhid HS;unfold Reg.Yields
    go_simp
    first | exact ⟨rfl,HS.out.keep (by decide)⟩ | (refine ⟨?_,HS.out.keep (by decide)⟩;simp [wiT];done)
   refine ⟨fun listed A X hI hcl hin hun hall => .inl ⟨Reg.wanted_none rfl,?_⟩,?_⟩
   ·have e13 : A.tmps[13]? = some (.pointer pa) := hI.ev (i := 3) (d := 13) (by rfl) (hall ⟨3,.data⟩ (by simp) rfl);have e17 : A.tmps[17]? = some (.pointer pb) := hI.ev (i := 7) (d := 17) (by rfl) (hall ⟨7,.data⟩ (by simp) rfl);have HS := hI.st;obtain rfl := HS.a (by simpa using hun);have HB8 := qhid HS;have H2 := qhid (Reg.OneSt.put (Wa := w.drew) (Wb := (w.drew.alloc (.cells #[.pointer pa,.pointer pb] 23))) (i1 := 8) (by simpa using hin));clear hI hall hcl hin hun;have HS := qhid HS;unfold Reg.Yields
    go_simp
    first | exact H2.out | exact ⟨rfl,H2.out⟩
   refine ⟨fun listed A X hI hcl hin hun hall => .inl ⟨Reg.wanted_none rfl,?_⟩,?_⟩
   ·have e18 : A.tmps[18]? = some (.slice (some ⟨w.heap.size,0,none⟩) 2 2) := hI.ev (i := 8) (d := 18) (by rfl) (hall ⟨8,.data⟩ (by simp) rfl);have HS := hI.st;clear hI hall hcl;have HS := qhid HS;unfold Reg.Yields
    go_simp
    first | exact ⟨rfl,HS.out.keep (by decide)⟩ | (refine ⟨?_,HS.out.keep (by decide)⟩;simp [wiT];done)
   trivial
  ·intro X hS;obtain rfl := hS.b (by rfl);clear hS;simp [Reg.finalTmps,Reg.dstAt,Reg.valOf,wiT]
   go_wp2_with fail
   go_ret
   exact ⟨rfl,rfl⟩
theorem within_one (w : World) (q : Nat) (pa : Option Addr) (hc : w.cell? ⟨q,0,none⟩ = some (.int .i64 4)) (ha : w.cell? ⟨q,6,none⟩ = some (.pointer pa)) :
  Calls Tryz.prog 228 #[.pointer (some ⟨q,0,none⟩)] w fun e w' => e = .returned (.slice (some ⟨w.heap.size,0,none⟩) 1 1) /\ w' = w.alloc (.cells #[.pointer pa] 23) := by
 go_enter Tryz.func228,Tryz.ntmps228
 go_wp2_with fail
 go_ret
 exact ⟨rfl,rfl⟩
theorem within_none (w : World) (q : Nat) (k : Int) (hc : w.cell? ⟨q,0,none⟩ = some (.int .i64 k)) (hk : k = 0 \/ k = 1) :
  Calls Tryz.prog 228 #[.pointer (some ⟨q,0,none⟩)] w fun e w' => e = .returned (.slice none 0 0) /\ w' = w := by
 rcases hk with rfl | rfl
 all_goals
  go_enter Tryz.func228,Tryz.ntmps228
  go_wp2_with fail
  go_ret
  exact ⟨rfl,rfl⟩
theorem within_any (w : World) (q : Nat) (k : Int) (s : W4) (z : Bool) (a b : Option Nat) (h : w.heap[q]? = some (coOb k s z (kPtr a) (kPtr b))) (hk : 0 <= k /\ k <= 4) :
  Calls Tryz.prog 228 #[.pointer (some ⟨q,0,none⟩)] w fun e w' => ∃ v,e = .returned v /\ PtrsAt w' v (innP k a b) /\ Below w.heap.size w w' := by
 obtain ⟨c0,c6,c7⟩ := co_cells h;unfold innP
 by_cases h1 : k = 2 \/ k = 3
 ·rw [if_pos h1];refine (within_two w q k _ _ c0 c6 c7 h1).mono ?_;rintro e w' ⟨rfl,rfl⟩;exact ⟨_,rfl,.inr ⟨_,rfl,heap_new w.drew _⟩,Below.drew (Below.refl _ _) |>.trans (below1 w.drew _)⟩
 ·rw [if_neg h1]
  by_cases h2 : k = 4
  ·rw [if_pos h2];subst h2;refine (within_one w q _ c0 c6).mono ?_;rintro e w' ⟨rfl,rfl⟩;exact ⟨_,rfl,.inr ⟨_,rfl,heap_new w _⟩,below1 w _⟩
  ·rw [if_neg h2];refine (within_none w q k c0 (by omega)).mono ?_;rintro e w' ⟨rfl,rfl⟩;exact ⟨_,rfl,.inl ⟨rfl,rfl⟩,Below.refl _ _⟩
structure KnAt (w : World) (mb : Nat) (D : List (Option Nat × Value)) : Prop where
 map : VMap w mb D
 keys : ∀ p ∈ D,IsK w p.1
 vals : ∀ p ∈ D,∃ n v mf ml,p.2 = .agg #[.int .i64 n,.int .i64 v,.map mf,.map ml]
theorem zeroPart (w : World) : (zeroValue 196).run Tryz.prog w = .ok zeroV w := by kernel_rfl
theorem vgot_mem {D : List (Option Nat × Value)} {q : Option Nat} {v : Value} (h : vgot D q = some v) : (q,v) ∈ D := by
 induction D with
 | nil => cases h
 | cons p D ih =>
  rw [vgot] at h
  split at h
  ·rename_i e
   injection h with h;rw [e,<- h];exact List.mem_cons_self ..
  ·exact List.mem_cons_of_mem _ (ih h)
theorem KnAt.got {w : World} {mb : Nat} {D : List (Option Nat × Value)} (h : KnAt w mb D) (q : Option Nat) : ∃ n v mf ml,(vgot D q).getD zeroV = .agg #[.int .i64 n,.int .i64 v,.map mf,.map ml] := by
 cases e : vgot D q with
 | none => exact ⟨0,0,none,none,rfl⟩
 | some v => exact h.vals _ (vgot_mem e)
theorem isK_up {w w' : World} {q : Option Nat} (h : IsK w q) (hb : Below w.heap.size w w') : IsK w' q := fun a e => by
 obtain ⟨c,t,hc⟩ := h a e;exact ⟨c,t,below_kept hb hc⟩
theorem KnAt.up {w w' : World} {mb : Nat} {D : List (Option Nat × Value)} (h : KnAt w mb D) (hb : Below w.heap.size w w') : KnAt w' mb D := by
 obtain ⟨⟨es,clock,h1,h2⟩,h3,h4⟩ := h;exact ⟨⟨es,clock,below_kept hb h1,h2⟩,fun p hp => isK_up (h3 p hp) hb,h4⟩
theorem lacks_any (w : World) (mb : Nat) (D : List (Option Nat × Value)) (q : Option Nat) (h : KnAt w mb D) (hq : IsK w q) :
  Calls Tryz.prog 230 #[.map (some mb),kPtr q] w fun e w' => e = .returned (.bool (vgot D q).isNone) /\ Below w.heap.size w w' := by
 have hl := vlookup_ok h.map hq h.keys (zeroPart w);obtain ⟨n,v,mf,ml,e⟩ := h.got q;rw [e] at hl;obtain ⟨r,hr⟩ : ∃ r,r = (vgot D q).isSome := ⟨_,rfl⟩;rw [<- hr] at hl;have e2 : (vgot D q).isNone = !r := by rw [hr];cases vgot D q <;> rfl
 rw [e2];clear e e2 hr h hq;unfold kPtr at hl ⊢
 go_enter Tryz.func230,Tryz.ntmps230
 go_wp2_with fail
 go_ret
 exact ⟨rfl,below1 _ _⟩
theorem part_field (n v : Int) (mf ml : Option Nat) (w : World) : (Instr.field 196 (.agg #[.int .i64 n,.int .i64 v,.map mf,.map ml]) 0).run Tryz.prog w = .ok (.int .i64 n) w := by kernel_rfl
theorem opened_any (w : World) (mb : Nat) (D : List (Option Nat × Value)) (q : Option Nat) (n v : Int) (mf ml : Option Nat) (h : KnAt w mb D) (hq : IsK w q) (hn : (vgot D q).getD zeroV = .agg #[.int .i64 n,.int .i64 v,.map mf,.map ml]) :
  Calls Tryz.prog 232 #[.map (some mb),kPtr q] w fun e w' => e = .returned (.bool (decide (n = -1))) /\ w' = w := by
 have hl := vlookup_at h.map hq h.keys (zeroPart w);rw [hn] at hl;clear h hq hn;unfold kPtr at hl ⊢;have hfd := part_field
 go_enter Tryz.func232,Tryz.ntmps232
 go_wp2_with fail
 go_ret
 exact ⟨rfl,rfl⟩
end
end
end Go.Proofs.YtnmalggmbeipaaaGreatDoor
namespace Go.Proofs.YtnmalggmbeipaaaGreatDoor
section
section
open Go Go.RowKit
attribute [local go_sem ↓] Go.wp_at_zero Go.wp_at_succ
attribute [local go_sem] eq4
def IdxIs (ln : Nat) (P : Nat -> Bool) (r : Int) : Prop := (r = -1 /\ ∀ i,i < ln -> P i = false) \/ ∃ j : Nat,j < ln /\ r = (j : Int) /\ P j = true
theorem IdxIs.pos {ln : Nat} {P : Nat -> Bool} {r : Int} (h : IdxIs ln P r) : 0 <= r ↔ ∃ i,i < ln /\ P i = true := by
 rcases h with ⟨rfl,h⟩ | ⟨j,h1,rfl,h2⟩
 ·exact ⟨fun e => absurd e (by decide),fun ⟨i,h1,h2⟩ => by rw [h i h1] at h2;cases h2⟩
 ·exact ⟨fun _ => ⟨j,h1,h2⟩,fun _ => by omega⟩
theorem windexf_any (np : Option Addr) (ln nc : Nat) (us : Nat -> Value) (fn : FuncId) (cv : Value) (P : Nat -> Bool) (w : World) (hcf : ∀ args W,(callFunc fn args).run Tryz.prog W = .ok (.enter fn args) W) (hn : ln <= 1099511627776)
  (hu : ∀ i,i < ln -> ∃ c,np = some ⟨c,0,none⟩ /\ c < w.heap.size /\ w.cell? ⟨c,i,none⟩ = some (us i))
  (hp : ∀ X i,Below w.heap.size w X -> i < ln -> Calls Tryz.prog fn #[cv,us i] X fun e w' => e = .returned (.bool (P i)) /\ Below X.heap.size X w') :
  Calls Tryz.prog 229 #[.slice np ln nc,.func (.func fn) #[cv] #[]] w fun e w' => ∃ r : Int,e = .returned (.int .i64 r) /\ IdxIs ln P r /\ Below w.heap.size w w' := by
 have HU := qhid hu;have HP := qhid hp;clear hu hp
 go_enter Tryz.func229,Tryz.ntmps229
 go_wp2_with fail
 go_loopw [8] (fun i wr => ∃ j : Nat,j <= ln /\ i = .int .i64 j /\ Hid (∀ i,i < j -> P i = false) /\ Hid (Below w.heap.size w wr)) (fun i _ => ln - (intOf i).toNat)
 case atStart => exact ⟨0,by omega,rfl,qhid (fun i hi => absurd hi (by omega)),qhid (Below.refl _ _)⟩
 case round =>
  obtain ⟨j,hj,rfl,hx,hwr⟩ := hrel
  by_cases hlt : j < ln
  ·obtain ⟨c,rfl,hcl,hcell⟩ := HU.out j hlt;have k0 : wr.cell? ⟨c,j,none⟩ = some (us j) := (World.cell?_of_block (w := w) (a := ⟨c,j,none⟩) (hwr.out.block c hcl)).trans hcell;have CN := qhid (HP.out wr j hwr.out hlt);clear hcell;obtain ⟨b,hb⟩ : ∃ b,b = P j := ⟨_,rfl⟩;rw [<- hb] at CN;have HB := qhid hb;clear hb;generalize us j = uj at *
   go_wp2_with fail
   refine CN.out.mono ?_;rintro e w1 ⟨rfl,hw1⟩;have H1 := qhid (hwr.out.trans (hw1.mono hwr.out.size));clear hw1 CN k0
   cases b with
   | true =>
    go_wp2_with fail
    go_ret
    exact ⟨(j : Int),rfl,.inr ⟨j,hlt,rfl,HB.out.symm⟩,H1.out⟩
   | false =>
    go_wp2_with fail
    go_roundw
    case rel =>
     refine ⟨j + 1,by omega,by go_num,qhid (fun i hi => ?_),H1⟩
     by_cases h : i = j
     ·rw [h];exact HB.out.symm
     ·exact hx.out i (by omega)
    case measure => simp [intOf];omega
  ·obtain rfl : j = ln := by omega
   go_wp2_with fail
   go_ret
   exact ⟨-1,rfl,.inl ⟨rfl,hx.out⟩,hwr.out⟩
theorem wcontainsf_any (np : Option Addr) (ln nc : Nat) (us : Nat -> Value) (fn : FuncId) (cv : Value) (P : Nat -> Bool) (w : World) (hcf : ∀ args W,(callFunc fn args).run Tryz.prog W = .ok (.enter fn args) W) (hn : ln <= 1099511627776)
  (hu : ∀ i,i < ln -> ∃ c,np = some ⟨c,0,none⟩ /\ c < w.heap.size /\ w.cell? ⟨c,i,none⟩ = some (us i))
  (hp : ∀ X i,Below w.heap.size w X -> i < ln -> Calls Tryz.prog fn #[cv,us i] X fun e w' => e = .returned (.bool (P i)) /\ Below X.heap.size X w') :
  Calls Tryz.prog 231 #[.slice np ln nc,.func (.func fn) #[cv] #[]] w fun e w' => ∃ b : Bool,e = .returned (.bool b) /\ (b = true ↔ ∃ i,i < ln /\ P i = true) /\ Below w.heap.size w w' := by
 have IX := qhid (windexf_any np ln nc us fn cv P w hcf hn hu hp);clear hu hp hcf
 go_enter Tryz.func231,Tryz.ntmps231
 go_wp2_with fail
 refine IX.out.mono ?_;rintro e w1 ⟨r,rfl,hr,hw⟩;have HR := qhid hr;have HW := qhid hw;clear hr hw IX
 go_wp2_with fail
 refine bodyPost_ret (v := .bool (decide (0 <= r))) (by simp [results,Tryz.results231,go_sem]) rfl ⟨_,rfl,?_,HW.out⟩;rw [decide_eq_true_eq];exact HR.out.pos
end
end
end Go.Proofs.YtnmalggmbeipaaaGreatDoor
