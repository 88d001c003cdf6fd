/- A part of the proof. -/
import Derived.Test.YtihoefibfhccfaaGreatDoorJn
import Derived.Test.YtihoefibfhccfaaGreatDoorCoQ
import Derived.Maps.AppendAt
import Derived.Test.YtihoefibfhccfaaGreatDoorRegion
import Derived.Lib.MakeNoZero
set_option maxRecDepth 100000
set_option maxHeartbeats 16000000
namespace Go.Proofs.YtihoefibfhccfaaGreatDoor
section
section
open Go Go.RowKit
attribute [local go_sem ↓] Go.wp_at_zero Go.wp_at_succ
attribute [local go_sem] eq4
abbrev kPtr (q : Option Nat) : Value := .pointer (q.map fun a => ⟨a,0,none⟩)
def IsK (w : World) (q : Option Nat) : Prop := ∀ a,q = some a -> ∃ c t,w.heap[a]? = some (.cells c t (0,0))
theorem keq_ptr (q q' : Option Nat) (w : World) (h : IsK w q) (h' : IsK w q') : (Op.equal 26 (kPtr q) (kPtr q')).run Tryz.prog w = .ok (q == q') w := by
 have u3 := Tryz.underlying26;unfold Op.equal;rw [show Op.maxDepth = 9999 + 1 from rfl,Op.equalIn];simp only [Sem.run_bind,run_underlying Tryz.underlying26,Result.andThen_ok];have z3 := Tryz.sizeOf73
 cases q with
 | none =>
  cases q' with
  | none =>
   show Sem.run _ _ _ = _
   simp only [kPtr,Option.map_none]
   go_simp
  | some b =>
   simp only [kPtr,Option.map_none,Option.map_some]
   go_simp
 | some a =>
  cases q' with
  | none =>
   simp only [kPtr,Option.map_none,Option.map_some]
   go_simp
  | some b =>
   simp only [kPtr,Option.map_some]
   go_simp
   by_cases hq : a = b
   ·subst hq;rw [run_sameAddr_same];simp
   ·obtain ⟨c,t,hc⟩ := h a rfl;obtain ⟨c',t',hc'⟩ := h' b rfl;rw [run_sameAddr_other w (fun e => hq (congrArg Addr.block e)) hc hc'];simp [hq]
def klookD (D : List (Option Nat × Int)) (q : Option Nat) (i : Nat) : Option (Nat × Value) := match D with
 | [] => none
 | p :: D => if q = p.1 then some (i,.int .i64 p.2) else klookD D q (i + 1)
def kEntAre (es : List MapEntry) (D : List (Option Nat × Int)) : Prop := es.map (fun e => (e.key,e.val)) = D.map fun p => (kPtr p.1,Value.int .i64 p.2)
theorem kfind_ptr (q : Option Nat) (w : World) (hq0 : IsK w q) : ∀ (es : List MapEntry) (D : List (Option Nat × Int)) (i : Nat),(∀ p ∈ D,IsK w p.1) -> kEntAre es D -> (Instr.findAsking 26 (kPtr q) es i).run Tryz.prog w = .ok (klookD D q i) w
 | [],[],i,_,_ => by simp [Instr.findAsking,klookD]
 | [],p :: D,i,_,h => by simp [kEntAre] at h
 | e :: es,[],i,_,h => by simp [kEntAre] at h
 | e :: es,p :: D,i,hD,h => by
  simp only [kEntAre,List.map_cons,List.cons.injEq,Prod.mk.injEq] at h;obtain ⟨⟨h1,h2⟩,h3⟩ := h;have ih := kfind_ptr q w hq0 es D (i + 1) (fun p hp => hD p (List.mem_cons_of_mem _ hp)) h3;rw [Instr.findAsking,klookD];simp only [Sem.run_bind,h1,keq_ptr q p.1 w hq0 (hD p (List.mem_cons_self ..)),Result.andThen_ok]
  by_cases hq : q = p.1
  ·simp [hq,h2]
  ·have hb : (q == p.1) = false := by simpa using hq
   simp only [hb,hq,if_false];exact ih
theorem kfindNow_ptr (q : Option Nat) : ∀ (es : List MapEntry) (D : List (Option Nat × Int)) (i : Nat),kEntAre es D -> D ≠ [] -> ∀ d,Tryz.prog.underlying 26 = some d -> Instr.findNow d (kPtr q) es i = none
 | [],[],_,_,h,_,_ => absurd rfl h
 | [],p :: D,_,h,_,_,_ => by simp [kEntAre] at h
 | e :: es,[],_,h,_,_,_ => by simp [kEntAre] at h
 | e :: es,p :: D,i,h,_,d,hd => by
  simp only [kEntAre,List.map_cons,List.cons.injEq,Prod.mk.injEq] at h;have hd' := Tryz.underlying26;rw [hd] at hd';obtain rfl := Option.some.inj hd';rw [Instr.findNow,h.1.1];rfl
theorem kfindKey_ptr (q : Option Nat) (w : World) (es : List MapEntry) (D : List (Option Nat × Int)) (hq0 : IsK w q) (hD : ∀ p ∈ D,IsK w p.1) (h : kEntAre es D) : (Instr.findKey 26 (kPtr q) es).run Tryz.prog w = .ok (klookD D q 0) w := by
 unfold Instr.findKey;simp only [Sem.run_bind,run_underlying Tryz.underlying26,Result.andThen_ok]
 cases D with
 | nil =>
  have he : es = [] := by simpa [kEntAre] using h
  subst he;simp [Instr.findNow,klookD]
 | cons p D =>
  rw [kfindNow_ptr q es (p :: D) 0 h (by simp) _ Tryz.underlying26];exact kfind_ptr q w hq0 es (p :: D) 0 hD h
def kPtrMap (w : World) (b : Nat) (D : List (Option Nat × Int)) : Prop := ∃ es clock,w.heap[b]? = some (.map es clock) /\ kEntAre es.toList D
def kgotD : List (Option Nat × Int) -> Option Nat -> Int × Bool
 | [],_ => (0,false)
 | p :: D,q => if q = p.1 then (p.2,true) else kgotD D q
def kputD : List (Option Nat × Int) -> Option Nat -> Int -> List (Option Nat × Int)
 | [],q,v => [(q,v)]
 | p :: D,q,v => if q = p.1 then (q,v) :: D else p :: kputD D q v
theorem kgotD_put (D : List (Option Nat × Int)) (q q' : Option Nat) (v : Int) : kgotD (kputD D q v) q' = if q' = q then (v,true) else kgotD D q' := by
 induction D with
 | nil =>
  by_cases h : q' = q <;> simp [kputD,kgotD,h]
 | cons p D ih =>
  rw [kputD]
  by_cases h : q = p.1
  ·rw [if_pos h,kgotD,kgotD]
   by_cases h2 : q' = q
   ·rw [if_pos h2,if_pos h2]
   ·rw [if_neg h2,if_neg h2,if_neg (by rw [<- h];exact h2)]
  ·rw [if_neg h,kgotD,kgotD]
   by_cases h2 : q' = p.1
   ·rw [if_pos h2,if_pos h2,if_neg (by rw [h2];exact fun e => h e.symm)]
   ·rw [if_neg h2,if_neg h2];exact ih
theorem klook_got (D : List (Option Nat × Int)) (q : Option Nat) : ∀ i,(kgotD D q = (0,false) /\ klookD D q i = none) \/ ∃ j v,kgotD D q = (v,true) /\ klookD D q i = some (j,.int .i64 v) := by
 induction D with
 | nil => exact fun i => .inl ⟨rfl,rfl⟩
 | cons p D ih =>
  intro i;rw [kgotD,klookD]
  by_cases h : q = p.1
  ·rw [if_pos h,if_pos h];exact .inr ⟨i,p.2,rfl,rfl⟩
  ·rw [if_neg h,if_neg h];exact ih (i + 1)
theorem kcheckKey_ptr (q : Option Nat) (e : Bool) (w : World) : (Instr.checkKey e 10000 26 (kPtr q)).run Tryz.prog w = .ok () w := by
 rw [show (10000 : Nat) = 9999 + 1 from rfl];unfold Instr.checkKey;simp only [Sem.run_bind,run_underlying Tryz.underlying26,Result.andThen];rfl
theorem klookup_ptr {w : World} {b : Nat} {q : Option Nat} {D : List (Option Nat × Int)} (h : kPtrMap w b D) (hq : IsK w q) (hD : ∀ p ∈ D,IsK w p.1) :
  (Instr.lookup 89 (.map (some b)) (kPtr q) true).run Tryz.prog w = .ok (.tuple #[.int .i64 (kgotD D q).1,.bool (kgotD D q).2]) w := by
 obtain ⟨es,clock,hb,he⟩ := h;have hz : (zeroValue 3).run Tryz.prog w = .ok (.int .i64 0) w := by kernel_rfl
 have hf := kfindKey_ptr q w es.toList D hq hD he;unfold Instr.lookup;simp only [Sem.run_bind,run_underlying Tryz.underlying89,Result.andThen_ok,Sem.run_pure,MapKept.run_getObj_map hb,kcheckKey_ptr,hf]
 rcases klook_got D q 0 with ⟨h1,h2⟩ | ⟨j,v,h1,h2⟩
 ·rw [h1,h2];simp [hz]
 ·rw [h1,h2];simp
theorem kput_none {D : List (Option Nat × Int)} {q : Option Nat} {i : Nat} {v : Int} (h : klookD D q i = none) : kputD D q v = D ++ [(q,v)] := by
 induction D generalizing i with
 | nil => rfl
 | cons p D ih =>
  rw [klookD] at h
  by_cases hq : q = p.1
  ·rw [if_pos hq] at h;cases h
  ·rw [if_neg hq] at h;rw [kputD,if_neg hq,ih h];rfl
theorem kput_some {D : List (Option Nat × Int)} {q : Option Nat} {v : Int} : ∀ {i j : Nat} {x : Value},klookD D q i = some (j,x) -> ∃ k,j = i + k /\ ∀ es : List MapEntry,kEntAre es D -> (∃ e,es[k]? = some e /\ e.key = kPtr q) /\ kEntAre (es.modify k fun e => { e with key := kPtr q,val := .int .i64 v }) (kputD D q v) := by
 induction D with
 | nil => intro i j x h;simp [klookD] at h
 | cons p D ih =>
  intro i j x h;rw [klookD] at h
  by_cases hq : q = p.1
  ·rw [if_pos hq] at h;injection h with h;injection h with h1 h2;subst h1;refine ⟨0,rfl,fun es he => ?_⟩
   cases es with
   | nil => simp [kEntAre] at he
   | cons e es =>
    simp only [kEntAre,List.map_cons,List.cons.injEq,Prod.mk.injEq] at he;refine ⟨⟨e,rfl,by rw [he.1.1,hq]⟩,?_⟩;rw [kputD,if_pos hq];simp only [kEntAre,List.modify_zero_cons,List.map_cons,List.cons.injEq,true_and];exact he.2
  ·rw [if_neg hq] at h;obtain ⟨k,hk,hes⟩ := ih h;refine ⟨k + 1,by omega,fun es he => ?_⟩
   cases es with
   | nil => simp [kEntAre] at he
   | cons e es =>
    simp only [kEntAre,List.map_cons,List.cons.injEq,Prod.mk.injEq] at he;obtain ⟨⟨e',h1,h2⟩,h3⟩ := hes es he.2;refine ⟨⟨e',by simpa using h1,h2⟩,?_⟩;rw [kputD,if_neg hq];simp only [kEntAre,List.modify_succ_cons,List.map_cons,List.cons.injEq,Prod.mk.injEq];exact ⟨he.1,h3⟩
theorem kupdate_ptr {w : World} {b : Nat} {q : Option Nat} {D : List (Option Nat × Int)} (v : Int) (h : kPtrMap w b D) (hq : IsK w q) (hD : ∀ p ∈ D,IsK w p.1) :
  ∃ w',(Instr.mapUpdate 89 (.map (some b)) (kPtr q) (.int .i64 v)).run Tryz.prog w = .ok () w' /\ kPtrMap w' b (kputD D q v) /\ w.grownBy w' (some b) := by
 obtain ⟨es,clock,hb,he⟩ := h;have hlt := jS hb;have hf := kfindKey_ptr q w es.toList D hq hD he
 have grown : ∀ o,w.grownBy { w with heap := w.heap.setIfInBounds b o } (some b) := fun o =>
  ⟨rfl,rfl,rfl,by simp,fun k hk hne => by
   show (w.heap.setIfInBounds b o)[k]? = w.heap[k]?
   rw [Array.getElem?_setIfInBounds_ne (fun e => hne (by rw [e]))]⟩
 have got : ∀ o,({ w with heap := w.heap.setIfInBounds b o } : World).heap[b]? = some o := fun o => by
  show (w.heap.setIfInBounds b o)[b]? = some o
  simp [hlt]
 unfold Instr.mapUpdate;simp only [Sem.run_bind,run_underlying Tryz.underlying89,Result.andThen_ok,MapKept.run_getObj_map hb,kcheckKey_ptr,hf]
 rcases klook_got D q 0 with ⟨_,h2⟩ | ⟨j,x,_,h2⟩
 ·rw [h2];simp only [MapKept.run_setObj_map _ hb];refine ⟨_,rfl,⟨_,_,got _,?_⟩,grown _⟩;rw [kput_none h2];simp only [kEntAre,Array.toList_push,List.map_append,List.map_cons,List.map_nil];rw [show es.toList.map (fun e => (e.key,e.val)) = _ from he]
 ·rw [h2];obtain ⟨k,hk,hes⟩ := kput_some (v := v) h2;obtain rfl : j = k := by omega
  obtain ⟨⟨e,he1,he2⟩,he3⟩ := hes es.toList he
  have hek : ((es[j]?).map (·.key)).getD (kPtr q) = kPtr q := by
   rw [<- Array.getElem?_toList,he1];simp [he2]
  have hst : (Instr.keyThatStays (kPtr q) (kPtr q)).run Tryz.prog w = .ok (kPtr q) w := by
   simp [Instr.keyThatStays,Instr.sameBits]
  simp only [Sem.run_bind,hek,hst,Result.andThen_ok,MapKept.run_setObj_map _ hb];refine ⟨_,rfl,⟨_,_,got _,?_⟩,grown _⟩;rw [Array.toList_modify];exact he3
end
end
end Go.Proofs.YtihoefibfhccfaaGreatDoor
namespace Go.Proofs.YtihoefibfhccfaaGreatDoor
section
section
open Go Go.RowKit
attribute [local go_sem ↓] Go.wp_at_zero Go.wp_at_succ
attribute [local go_sem] eq4
structure TalC (w0 w : World) (kB pB mb : Nat) (D : List (Option Nat × Int)) (P : List Nat) (pv : Value) : Prop where
 lk : w0.heap.size <= kB
 lp : w0.heap.size <= pB
 lm : w0.heap.size <= mb
 kb : Boxed w kB 89 (.map (some mb))
 pb : Boxed w pB 63 pv
 mp : kPtrMap w mb D
 row : w.ownsRow w0.heap.size 26 1 pv P.length (P.map fun q => kPtr (some q))
 be : Below w0.heap.size w0 w
theorem box_not_map {w : World} {B mb : Nat} {t : TypeId} {v : Value} {D : List (Option Nat × Int)} (h : Boxed w B t v) (hm : kPtrMap w mb D) : B ≠ mb := by
 rintro rfl;obtain ⟨es,c,h1,_⟩ := hm;have := (show w.heap[B]? = _ from h).symm.trans h1
 cases this
theorem row_not_map {w : World} {b e s k mb : Nat} {v : Value} {xs : List Value} {D : List (Option Nat × Int)} (h : w.ownsRow b e s v k xs) (hm : kPtrMap w mb D) : ∀ g,v.ownBlock = some g -> g ≠ mb := by
 rintro g e rfl;obtain ⟨es,c,h1,_⟩ := hm;obtain ⟨o,ho,hc⟩ := row_isCells h g e;rw [h1] at ho
 cases ho
 cases hc
theorem kPtrMap.keep {w w' : World} {mb : Nat} {row : Option Nat} {D : List (Option Nat × Int)} (h : kPtrMap w mb D) (hg : w.grownBy w' row) (hr : row ≠ some mb) : kPtrMap w' mb D := by
 obtain ⟨es,c,h1,h2⟩ := h;exact ⟨es,c,(hg.block mb (jS h1) (fun e => hr e.symm)).trans h1,h2⟩
theorem TalC.map {w0 w w' : World} {kB pB mb : Nat} {D D' : List (Option Nat × Int)} {P : List Nat} {pv : Value} (h : TalC w0 w kB pB mb D P pv) (hg : w.grownBy w' (some mb)) (hm : kPtrMap w' mb D') : TalC w0 w' kB pB mb D' P pv :=
 ⟨h.lk,h.lp,h.lm,h.kb.kept hg (fun e => box_not_map h.kb h.mp (Option.some.inj e)),h.pb.kept hg (fun e => box_not_map h.pb h.mp (Option.some.inj e)),hm,ownsKeep h.row hg (fun g e e' => row_not_map h.row h.mp g e (Option.some.inj e').symm),h.be.grown hg h.be.size (fun k e => by cases e;exact h.lm)⟩
theorem TalC.up {w0 w w' : World} {kB pB mb : Nat} {D : List (Option Nat × Int)} {P : List Nat} {pv : Value} (h : TalC w0 w kB pB mb D P pv) (hb : Below w.heap.size w w') : TalC w0 w' kB pB mb D P pv := by
 have hg := grown_below none hb;exact ⟨h.lk,h.lp,h.lm,h.kb.kept hg (by simp),h.pb.kept hg (by simp),h.mp.keep hg (by simp),ownsBelow h.row hb,h.be.trans (hb.mono h.be.size)⟩
theorem TalC.path {w0 w w4 : World} {kB pB mb : Nat} {D : List (Option Nat × Int)} {P P' : List Nat} {pv pv' : Value} {o : Obj} (h : TalC w0 w kB pB mb D P pv) (hg : (w.alloc o).grownBy w4 pv.ownBlock) (hr : w4.ownsRow w0.heap.size 26 1 pv' P'.length (P'.map fun q => kPtr (some q))) :
  Boxed w4 pB 63 pv /\ TalC w0 (w4.setCell ⟨pB,0,none⟩ pv') kB pB mb D P' pv' := by
 have h1 := h.up (below1 w o);have kb4 := h1.kb.kept hg (h1.kb.not_row (by decide) h1.row);have pb4 := h1.pb.kept hg (h1.pb.not_row (by decide) h1.row);have mp4 := h1.mp.keep hg (fun e => row_not_map h1.row h1.mp _ e rfl);have be4 : Below w0.heap.size w0 w4 := h1.be.grown hg h1.be.size (fun k e => (ownsLt h1.row e).1);have s := grownBy_setCell' w4 pB pv';exact ⟨pb4,h.lk,h.lp,h.lm,kb4.kept s (fun e => ne_box kb4 pb4 (by decide) (Option.some.inj e)),pb4.set _,mp4.keep s (fun e => box_not_map pb4 mp4 (Option.some.inj e)),hr.kept s (.inr (pb4.not_row (by decide) hr).symm),be4.setCell (p := ⟨pB,0,none⟩) h.lp _⟩
theorem TalC.pop {w0 w : World} {kB pB mb : Nat} {D : List (Option Nat × Int)} {P : List Nat} {q : Nat} {pv : Value} (h : TalC w0 w kB pB mb D (P ++ [q]) pv) :
  ∃ g cap,pv = .slice (some ⟨g,0,none⟩) (P.length + 1) cap /\ P.length + 1 <= cap /\ w.cell? ⟨g,P.length,none⟩ = some (kPtr (some q)) /\ g < w.heap.size /\ TalC w0 (w.setCell ⟨pB,0,none⟩ (.slice (some ⟨g,0,none⟩) P.length cap)) kB pB mb D P (.slice (some ⟨g,0,none⟩) P.length cap) := by
 have hl : (P ++ [q]).length = P.length + 1 := by simp
 rcases h.row.2 with ⟨_,h0⟩ | ⟨g,cap,cur,rfl,hb,hh,hn,hm,hs,ht⟩
 ·rw [hl] at h0;omega
 ·rw [hl] at hn ht;have key : ∀ j u,((P ++ [q]).map fun q => kPtr (some q))[j]? = some u -> w.cell? ((⟨g,0,none⟩ : Addr).add j) = some u := h.row.cells (g := g) rfl;have ha : ∀ j,(⟨g,0,none⟩ : Addr).add j = ⟨g,j,none⟩ := fun j => by unfold Addr.add;split <;> simp_all
  have k0 := key P.length (kPtr (some q)) (by simp);rw [ha] at k0
  have hr : w.ownsRow w0.heap.size 26 1 (.slice (some ⟨g,0,none⟩) P.length cap) P.length (P.map fun q => kPtr (some q)) := by
   refine ⟨by simp,.inr ⟨g,cap,cur,rfl,hb,hh,by omega,hm,hs,?_⟩⟩;have : (cur.toList.take ((P.length + 1) * 1)).take (P.length * 1) = ((P ++ [q]).map fun q => kPtr (some q)).take (P.length * 1) := by rw [ht]
   rw [List.take_take,Nat.min_eq_left (by omega)] at this;rw [this];simp
  have s := grownBy_setCell' w pB (.slice (some ⟨g,0,none⟩) P.length cap);refine ⟨g,cap,by rw [hl],hn,k0,(Array.getElem?_eq_some_iff.1 hh).1,h.lk,h.lp,h.lm,h.kb.kept s (fun e => ne_box h.kb h.pb (by decide) (Option.some.inj e)),h.pb.set _,h.mp.keep s (fun e => box_not_map h.pb h.mp (Option.some.inj e)),hr.kept s (.inr (h.pb.not_row (by decide) hr).symm),h.be.setCell (p := ⟨pB,0,none⟩) h.lp _⟩
theorem tal_enter (w0 w : World) (kB pB mb q : Nat) (D : List (Option Nat × Int)) (P : List Nat) (pv : Value) (h : TalC w0 w kB pB mb D P pv) (hq : IsK w (some q)) (hD : ∀ p ∈ D,IsK w p.1) (hP : P.length <= 1000000000) :
  Calls Tryz.prog 44 #[.pointer (some ⟨q,0,none⟩),.pointer (some ⟨kB,0,none⟩),.pointer (some ⟨pB,0,none⟩)] w fun e w' => e = .returned (.tuple #[]) /\ ∃ pv',TalC w0 w' kB pB mb (kputD D (some q) (-1)) (P ++ [q]) pv' := by
 obtain ⟨w2,hup,hm2,hg2⟩ := kupdate_ptr (-1) h.mp hq hD;have hup : (Instr.mapUpdate 89 (.map (some mb)) (.pointer (some ⟨q,0,none⟩)) (.int .i64 (-1))).run Tryz.prog w = .ok () w2 := hup;have h2 := h.map hg2 hm2;have hkb := h.kb.cell;have hpb2 := h2.pb.cell;have H2 := qhid h2;have hsz := h2.be.size;obtain ⟨i0,hif,hy0,hy1,hy2⟩ := info_parts Tryz.infoCoP;clear hm2 hg2 h2 h hq hD
 go_enter Tryz.func44,Tryz.ntmps44
 go_wp2_with (at_builtin;go_must (refine wpList_append_own_at _ rfl (.tmp 6) (.tmp 8) 63 rfl w0.heap.size 26 i0 (.pointer none) 1 8 Tryz.underlying63 hif hy0 hy1 hy2 rfl (by decide) pv _ _ rfl (ownsAlloc H2.out.row _) ⟨_,0,none⟩ 1 1 [.pointer (some ⟨q,0,none⟩)] rfl rfl (cell_one_new _ _ _) (by simp [Value.oneCell']) (by unfold maxLen;omega) (by omega) (by simp;omega) ?_;intro v4 w4 ho hg4 _ _;obtain ⟨b4,c4,hs4⟩ : ∃ b c,v4 = .slice b (P.length + 1) c := row_slice ho;subst hs4;have hpt := H2.out.path (P' := P ++ [q]) hg4 (by rw [List.length_append,List.map_append];exact ho);have HPT := qhid hpt.2;have hc4 := hpt.1.cell;have hf4 := hpt.1.frozen;clear hpt ho hg4))
 go_end0
 exact ⟨rfl,_,HPT.out⟩
end
end
end Go.Proofs.YtihoefibfhccfaaGreatDoor
namespace Go.Proofs.YtihoefibfhccfaaGreatDoor
section
section
open Go Go.RowKit
def tallyM (num : Co -> Int -> Int -> Int) : Co -> Int
 | .nil => 0
 | .node k s z a b => num (.node k s z a b) (tallyM num a) (tallyM num b)
structure KE where
 q : Nat
 k : Int
 s : W4
 z : Bool
 a : Co
 b : Co
 pa : Option Nat
 pb : Option Nat
def KE.co (x : KE) : Co := .node x.k x.s x.z x.a x.b
structure KEAt (w : World) (x : KE) : Prop where
 hb : w.heap[x.q]? = some (coOb x.k x.s x.z (kPtr x.pa) (kPtr x.pb))
 ca : CoAt w x.a (kPtr x.pa)
 cb : CoAt w x.b (kPtr x.pb)
theorem KEAt.co {w : World} {x : KE} (h : KEAt w x) : CoAt w x.co (kPtr (some x.q)) := .node _ _ _ _ _ _ _ _ h.hb h.ca h.cb
theorem kptr_of {w : World} {c : Co} {v : Value} (h : CoAt w c v) : ∃ p,v = kPtr p := by
 cases h with
 | nil => exact ⟨none,rfl⟩
 | node k s z a b q va vb hb ha hc => exact ⟨some q,rfl⟩
theorem ke_of {w : World} {c : Co} {q : Nat} (h : CoAt w c (kPtr (some q))) : ∃ x : KE,x.q = q /\ x.co = c /\ KEAt w x := by
 cases h with
 | node k s z a b q va vb hb ha hc =>
  obtain ⟨pa,rfl⟩ := kptr_of ha;obtain ⟨pb,rfl⟩ := kptr_of hc;exact ⟨⟨q,k,s,z,a,b,pa,pb⟩,rfl,rfl,hb,ha,hc⟩
def pend (D : List (Option Nat × Int)) (p : Option Nat) (c : Co) : Nat := if (kgotD D p).2 then 0 else 2 * coSize c
def meas (D : List (Option Nat × Int)) (P : List KE) : Nat := (P.map fun x => 1 + pend D x.pa x.a + pend D x.pb x.b).sum
theorem pend_le (D : List (Option Nat × Int)) (p : Option Nat) (c : Co) : pend D p c <= 2 * coSize c := by
 unfold pend
 split <;> omega
theorem pend_put (D : List (Option Nat × Int)) (k : Option Nat) (v : Int) (p : Option Nat) (c : Co) : pend (kputD D k v) p c <= pend D p c := by
 unfold pend;rw [kgotD_put]
 by_cases h : p = k
 ·rw [if_pos h];simp
 ·rw [if_neg h];exact jN _
theorem pend_hit (D : List (Option Nat × Int)) (k : Option Nat) (v : Int) (c : Co) : pend (kputD D k v) k c = 0 := by
 unfold pend;rw [kgotD_put,if_pos rfl];rfl
theorem meas_put (D : List (Option Nat × Int)) (k : Option Nat) (v : Int) (P : List KE) : meas (kputD D k v) P <= meas D P := by
 unfold meas
 induction P with
 | nil => exact jN _
 | cons x r ih =>
  simp only [List.map_cons,List.sum_cons];have := pend_put D k v x.pa x.a;have := pend_put D k v x.pb x.b;omega
theorem meas_snoc (D : List (Option Nat × Int)) (P : List KE) (x : KE) : meas D (P ++ [x]) = meas D P + (1 + pend D x.pa x.a + pend D x.pb x.b) := by
 unfold meas;rw [List.map_append,List.sum_append];simp
structure TalI (num : Co -> Int -> Int -> Int) (w : World) (q0 : Nat) (D : List (Option Nat × Int)) (P : List KE) : Prop where
 at_ : ∀ x ∈ P,KEAt w x
 inc : P.Pairwise fun x y => coSize y.co < coSize x.co
 dd : ∀ k v,kgotD D k = (v,true) -> (k = none /\ v = 0) \/ ∃ q c,k = some q /\ CoAt w c (kPtr (some q)) /\ ((v = -1 /\ ∃ x ∈ P,x.q = q) \/ v = tallyM num c)
 nl : kgotD D none = (0,true)
 ks : ∀ p ∈ D,IsK w p.1
 on : ∀ x ∈ P,kgotD D (some x.q) = (-1,true)
 rt : ∃ v,kgotD D (some q0) = (v,true)
theorem isK_of {w : World} {c : Co} {p : Option Nat} (h : CoAt w c (kPtr p)) : IsK w p := by
 intro a e;subst e;obtain ⟨x,rfl,_,hx⟩ := ke_of h;exact ⟨_,_,hx.hb⟩
theorem mem_kput {D : List (Option Nat × Int)} {q : Option Nat} {v : Int} {p : Option Nat × Int} (h : p ∈ kputD D q v) : p ∈ D \/ p = (q,v) := by
 induction D with
 | nil => exact .inr (by simpa [kputD] using h)
 | cons d D ih =>
  rw [kputD] at h
  split at h
  ·rcases List.mem_cons.1 h with h | h
   ·exact .inr h
   ·exact .inl (List.mem_cons_of_mem _ h)
  ·rcases List.mem_cons.1 h with h | h
   ·exact .inl (h ▸ List.mem_cons_self ..)
   ·rcases ih h with h | h
    ·exact .inl (List.mem_cons_of_mem _ h)
    ·exact .inr h
theorem coSize_part (x : KE) : coSize x.a < coSize x.co /\ coSize x.b < coSize x.co := by
 unfold KE.co;rw [coSize];omega
theorem TalI.part {num : Co -> Int -> Int -> Int} {w : World} {q0 : Nat} {D : List (Option Nat × Int)} {P : List KE} {x : KE} (h : TalI num w q0 D (P ++ [x])) {c : Co} {p : Option Nat} (hc : CoAt w c (kPtr p)) (hs : coSize c < coSize x.co) {v : Int} (hv : kgotD D p = (v,true)) : v = tallyM num c := by
 rcases h.dd p v hv with ⟨rfl,rfl⟩ | ⟨q,c',rfl,hc',⟨rfl,y,hy,rfl⟩ | rfl⟩
 ·cases hc;rfl
 ·have e : y.co = c := (h.at_ y hy).co.uniq hc
  rcases List.mem_append.1 hy with hy | hy
  ·have := (List.pairwise_append.1 h.inc).2.2 y hy x (by simp);rw [e] at this;omega
  ·obtain rfl : y = x := by simpa using hy
   rw [e] at hs;omega
 ·rw [hc'.uniq hc]
theorem TalI.enter {num : Co -> Int -> Int -> Int} {w : World} {q0 : Nat} {D : List (Option Nat × Int)} {P : List KE} {x y : KE} (h : TalI num w q0 D (P ++ [x])) (hy : KEAt w y) (hs : coSize y.co < coSize x.co) (hn : (kgotD D (some y.q)).2 = false) :
  TalI num w q0 (kputD D (some y.q) (-1)) (P ++ [x] ++ [y]) := by
 refine ⟨fun z hz => ?_,?_,fun k v hv => ?_,?_,fun p hp => ?_,fun z hz => ?_,?_⟩
 ·rcases List.mem_append.1 hz with hz | hz
  ·exact h.at_ z hz
  ·obtain rfl : z = y := by simpa using hz
   exact hy
 ·rw [List.pairwise_append];refine ⟨h.inc,List.pairwise_singleton _ _,fun z hz u hu => ?_⟩;obtain rfl : u = y := by simpa using hu
  rcases List.mem_append.1 hz with hz | hz
  ·have := (List.pairwise_append.1 h.inc).2.2 z hz x (by simp);omega
  ·obtain rfl : z = x := by simpa using hz
   exact hs
 ·rw [kgotD_put] at hv
  split at hv
  ·rename_i e
   injection hv with hv _;exact .inr ⟨y.q,y.co,e,hy.co,.inl ⟨hv.symm,y,by simp,rfl⟩⟩
  ·rcases h.dd k v hv with h1 | ⟨q,c,h1,h2,⟨h3,z,hz,h4⟩ | h3⟩
   ·exact .inl h1
   ·exact .inr ⟨q,c,h1,h2,.inl ⟨h3,z,List.mem_append_left _ hz,h4⟩⟩
   ·exact .inr ⟨q,c,h1,h2,.inr h3⟩
 ·rw [kgotD_put,if_neg (by simp)];exact h.nl
 ·rcases mem_kput hp with hp | rfl
  ·exact h.ks p hp
  ·exact isK_of hy.co
 ·rw [kgotD_put]
  split
  ·rfl
  ·rename_i e
   rcases List.mem_append.1 hz with hz | hz
   ·exact h.on z hz
   ·obtain rfl : z = y := by simpa using hz
    exact absurd rfl e
 ·obtain ⟨v,hv⟩ := h.rt;rw [kgotD_put]
  split
  ·exact ⟨_,rfl⟩
  ·exact ⟨v,hv⟩
theorem TalI.told {num : Co -> Int -> Int -> Int} {w : World} {q0 : Nat} {D : List (Option Nat × Int)} {P : List KE} {x : KE} (h : TalI num w q0 D (P ++ [x])) : TalI num w q0 (kputD D (some x.q) (tallyM num x.co)) P := by
 have hx := h.at_ x (by simp)
 have hne : ∀ z ∈ P,z.q ≠ x.q := fun z hz e => by
  have h1 := (List.pairwise_append.1 h.inc).2.2 z hz x (by simp);have h2 := (h.at_ z (List.mem_append_left _ hz)).co;rw [e] at h2;rw [h2.uniq hx.co] at h1;omega
 refine ⟨fun z hz => h.at_ z (List.mem_append_left _ hz),(List.pairwise_append.1 h.inc).1,fun k v hv => ?_,?_,fun p hp => ?_,fun z hz => ?_,?_⟩
 ·rw [kgotD_put] at hv
  split at hv
  ·rename_i e
   injection hv with hv _;exact .inr ⟨x.q,x.co,e,hx.co,.inr hv.symm⟩
  ·rename_i e
   rcases h.dd k v hv with h1 | ⟨q,c,rfl,h2,⟨h3,z,hz,rfl⟩ | h3⟩
   ·exact .inl h1
   ·rcases List.mem_append.1 hz with hz | hz
    ·exact .inr ⟨_,c,rfl,h2,.inl ⟨h3,z,hz,rfl⟩⟩
    ·obtain rfl : z = x := by simpa using hz
     exact absurd rfl e
   ·exact .inr ⟨q,c,rfl,h2,.inr h3⟩
 ·rw [kgotD_put,if_neg (by simp)];exact h.nl
 ·rcases mem_kput hp with hp | rfl
  ·exact h.ks p hp
  ·exact isK_of hx.co
 ·rw [kgotD_put,if_neg (fun e => hne z hz (Option.some.inj e))];exact h.on z (List.mem_append_left _ hz)
 ·obtain ⟨v,hv⟩ := h.rt;rw [kgotD_put]
  split
  ·exact ⟨_,rfl⟩
  ·exact ⟨v,hv⟩
theorem TalI.done {num : Co -> Int -> Int -> Int} {w : World} {q0 : Nat} {c0 : Co} {D : List (Option Nat × Int)} (h : TalI num w q0 D []) (hc : CoAt w c0 (kPtr (some q0))) : kgotD D (some q0) = (tallyM num c0,true) := by
 obtain ⟨v,hv⟩ := h.rt
 rcases h.dd _ v hv with ⟨h1,_⟩ | ⟨q,c,e,h2,⟨_,z,hz,_⟩ | h3⟩
 ·cases h1
 ·cases hz
 ·obtain rfl := Option.some.inj e;rw [hv,h3,h2.uniq hc]
theorem TalI.start (num : Co -> Int -> Int -> Int) {w : World} {y : KE} (hy : KEAt w y) : TalI num w y.q (kputD [(none,0)] (some y.q) (-1)) [y] := by
 refine ⟨fun z hz => ?_,List.pairwise_singleton _ _,fun k v hv => ?_,rfl,fun p hp => ?_,fun z hz => ?_,⟨-1,?_⟩⟩
 ·obtain rfl : z = y := by simpa using hz
  exact hy
 ·rw [kgotD_put] at hv
  split at hv
  ·rename_i e
   injection hv with hv _;exact .inr ⟨y.q,y.co,e,hy.co,.inl ⟨hv.symm,y,by simp,rfl⟩⟩
  ·rw [kgotD] at hv
   split at hv
   ·rename_i e
    injection hv with hv _;exact .inl ⟨e,hv.symm⟩
   ·rw [kgotD] at hv
    cases hv
 ·rcases mem_kput hp with hp | rfl
  ·obtain rfl : p = (none,0) := by simpa using hp
   intro a e
   cases e
  ·exact isK_of hy.co
 ·obtain rfl : z = y := by simpa using hz
  rw [kgotD_put,if_pos rfl]
 ·rw [kgotD_put,if_pos rfl]
end
end
end Go.Proofs.YtihoefibfhccfaaGreatDoor
namespace Go.Proofs.YtihoefibfhccfaaGreatDoor
section
section
open Go Go.RowKit
attribute [local go_sem ↓] Go.wp_at_zero Go.wp_at_succ
attribute [local go_sem] eq4
theorem klookup1_ptr {w : World} {b : Nat} {q : Option Nat} {v : Int} {D : List (Option Nat × Int)} (h : kPtrMap w b D) (hq : IsK w q) (hD : ∀ p ∈ D,IsK w p.1) (hv : kgotD D q = (v,true)) :
  (Instr.lookup 89 (.map (some b)) (kPtr q) false).run Tryz.prog w = .ok (.int .i64 v) w := by
 obtain ⟨es,clock,hb,he⟩ := h;have hf := kfindKey_ptr q w es.toList D hq hD he;unfold Instr.lookup;simp only [Sem.run_bind,run_underlying Tryz.underlying89,Result.andThen_ok,Sem.run_pure,MapKept.run_getObj_map hb,kcheckKey_ptr,hf]
 rcases klook_got D q 0 with ⟨h1,h2⟩ | ⟨j,v',h1,h2⟩
 ·rw [hv] at h1;cases h1
 ·rw [hv] at h1
  cases h1
  rw [h2];simp
theorem IsK.below {w w' : World} {B : Nat} {q : Option Nat} (h : IsK w q) (hb : Below B w w') (hB : w.heap.size <= B) : IsK w' q := by
 intro a e;obtain ⟨c,t,hc⟩ := h a e;have hl := jS hc;exact ⟨c,t,(hb.block a (by omega)).trans hc⟩
theorem co_size (x : KE) : coSize x.co = coSize x.a + coSize x.b + 1 := by
 unfold KE.co;rw [coSize];omega
theorem meas_told (D : List (Option Nat × Int)) (P : List KE) (x : KE) (v : Int) : meas (kputD D (some x.q) v) P + 1 <= meas D (P ++ [x]) := by
 rw [meas_snoc];have := meas_put D (some x.q) v P;omega
theorem meas_enter (D : List (Option Nat × Int)) (P : List KE) (x y : KE) (h : (x.pa = some y.q /\ x.a = y.co) \/ (x.pb = some y.q /\ x.b = y.co)) (hn : (kgotD D (some y.q)).2 = false) : meas (kputD D (some y.q) (-1)) (P ++ [x] ++ [y]) + 1 <= meas D (P ++ [x]) := by
 rw [meas_snoc,meas_snoc,meas_snoc];have h1 := meas_put D (some y.q) (-1) P;have ha := pend_put D (some y.q) (-1) x.pa x.a;have hb := pend_put D (some y.q) (-1) x.pb x.b;have ya := pend_le (kputD D (some y.q) (-1)) y.pa y.a;have yb := pend_le (kputD D (some y.q) (-1)) y.pb y.b;have hs := co_size y;have hp : pend D (some y.q) y.co = 2 * coSize y.co := by unfold pend;rw [hn];rfl
 rcases h with ⟨e1,e2⟩ | ⟨e1,e2⟩
 ·have z := pend_hit D (some y.q) (-1) y.co;rw [e1,e2] at ha ⊢;omega
 ·have z := pend_hit D (some y.q) (-1) y.co;rw [e1,e2] at hb ⊢;omega
theorem meas_len (D : List (Option Nat × Int)) (P : List KE) : P.length <= meas D P := by
 unfold meas
 induction P with
 | nil => exact jN _
 | cons x r ih =>
  simp only [List.map_cons,List.sum_cons,List.length_cons];omega
theorem meas_start (y : KE) (D : List (Option Nat × Int)) : meas D [y] <= 2 * coSize y.co := by
 have ya := pend_le D y.pa y.a;have yb := pend_le D y.pb y.b;have hs := co_size y;unfold meas;simp only [List.map_cons,List.map_nil,List.sum_cons,List.sum_nil];omega
theorem tallyM_nn {num : Co -> Int -> Int -> Int} (hn : ∀ c a b,0 <= num c a b /\ num c a b <= top) : ∀ c,0 <= tallyM num c /\ tallyM num c <= top
 | .nil => by rw [tallyM];unfold top;omega
 | .node k s z a b => by rw [tallyM];exact hn _ _ _
def tk9 (mb q : Nat) (p : Option Addr) (a : Int) (h : Bool) : Nat -> Value
 | 0 => .map (some mb)
 | 1 => .pointer (some ⟨q,0,none⟩)
 | 2 => .pointer (some ⟨q,0,none⟩)
 | 3 => .pointer (some ⟨q,6,none⟩)
 | 4 => .pointer p
 | 5 => .tuple #[.int .i64 a,.bool h]
 | 6 => .tuple #[.int .i64 a,.bool h]
 | 7 => .int .i64 a
 | 8 => .bool h
 | 9 => .int .i64 a
 | 10 => .bool h
 | _ => undef
def tk10 (mb q : Nat) (p : Option Addr) (a : Int) (h : Bool) : Nat -> Value
 | 0 => .map (some mb)
 | 1 => .pointer (some ⟨q,0,none⟩)
 | 2 => .pointer (some ⟨q,0,none⟩)
 | 3 => .pointer (some ⟨q,7,none⟩)
 | 4 => .pointer p
 | 5 => .tuple #[.int .i64 a,.bool h]
 | 6 => .tuple #[.int .i64 a,.bool h]
 | 7 => .int .i64 a
 | 8 => .bool h
 | 9 => .int .i64 a
 | 10 => .bool h
 | _ => undef
def tk11 (mb q : Nat) (fn : FuncId) (a b n : Int) : Nat -> Value
 | 0 => .map (some mb)
 | 1 => .pointer (some ⟨q,0,none⟩)
 | 2 => .func (.func fn) #[] #[]
 | 3 => .pointer (some ⟨q,0,none⟩)
 | 4 => .int .i64 a
 | 5 => .int .i64 b
 | 6 => .int .i64 n
 | 7 => undef
 | _ => undef
theorem TalI.known {num : Co -> Int -> Int -> Int} (hn : ∀ c a b,0 <= num c a b /\ num c a b <= top) {w : World} {q0 : Nat} {D : List (Option Nat × Int)} {P : List KE} {x : KE} (h : TalI num w q0 D (P ++ [x])) {c : Co} {p : Option Nat} (hc : CoAt w c (kPtr p)) (hs : coSize c < coSize x.co) :
  ∃ v k,kgotD D p = (v,k) /\ (0 <= v /\ v <= top) /\ (k = true -> v = tallyM num c) /\ (k = false -> ∃ y : KE,KEAt w y /\ y.co = c /\ p = some y.q) := by
 rcases klook_got D p 0 with ⟨h1,_⟩ | ⟨j,v,h1,_⟩
 ·refine ⟨0,false,h1,⟨by omega,by unfold top;omega⟩,fun e => (by cases e),fun _ => ?_⟩
  cases p with
  | none => rw [h.nl] at h1;cases h1
  | some q =>
   obtain ⟨y,rfl,e2,hy⟩ := ke_of hc;exact ⟨y,hy,e2,rfl⟩
 ·have e := h.part hc hs h1;exact ⟨v,true,h1,e ▸ tallyM_nn hn c,fun _ => e,fun e => by cases e⟩
theorem ctally_any (F : Co -> Prop) (hF : ∀ k s z a b,F (.node k s z a b) -> F a /\ F b) (num : Co -> Int -> Int -> Int) (fn : FuncId) (c0 : Co) (q0 : Nat) (w : World) (hnn : ∀ c a b,0 <= num c a b /\ num c a b <= top) (hcf : ∀ args W,(callFunc fn args).run Tryz.prog W = .ok (.enter fn args) W)
  (hK : ∀ (c : Co) (q : Nat) (a b : Int) (X : World),Below w.heap.size w X -> F c -> CoAt w c (kPtr (some q)) -> (0 <= a /\ a <= top) -> (0 <= b /\ b <= top) -> Calls Tryz.prog fn #[kPtr (some q),.int .i64 a,.int .i64 b] X fun e w' => e = .returned (.int .i64 (num c a b)) /\ Below X.heap.size X w')
  (hc : CoAt w c0 (kPtr (some q0))) (hF0 : F c0) (hsz : 2 * coSize c0 <= 1000000000) :
  Calls Tryz.prog 27 #[.pointer (some ⟨q0,0,none⟩),.func (.func fn) #[] #[]] w fun e w' => e = .returned (.int .i64 (tallyM num c0)) /\ Below w.heap.size w w' := by
 obtain ⟨y,hyq,hyc,hy⟩ := ke_of hc;have hmm := @run_makeMap Tryz.prog;obtain ⟨w1,hw1⟩ : ∃ X,X = w.alloc (.map #[] 0) := ⟨_,rfl⟩;have b1 : Below w.heap.size w w1 := by rw [hw1];exact below1 _ _
 have hmp : kPtrMap w1 w.heap.size [] := ⟨#[],0,by rw [hw1];exact heap_new w _,rfl⟩;obtain ⟨w2,hup,hm2,hg2⟩ := kupdate_ptr 0 hmp (q := none) (fun a e => by cases e) (fun p h => by cases h);have hup : (Instr.mapUpdate 89 (.map (some w.heap.size)) (.pointer none) (.int .i64 0)).run Tryz.prog w1 = .ok () w2 := hup;have b2 : Below w.heap.size w w2 := b1.grown hg2 b1.size (fun k e => by cases e;exact jN _);rw [hw1] at hup;obtain ⟨mb,hmb⟩ : ∃ k,k = w.heap.size := ⟨_,rfl⟩;obtain ⟨kB,hkB⟩ : ∃ k,k = w2.heap.size := ⟨_,rfl⟩;obtain ⟨pB,hpB⟩ : ∃ k,k = w2.heap.size + 1 := ⟨_,rfl⟩;obtain ⟨w3,hw3⟩ : ∃ X,X = (w2.alloc (.cells #[.map (some w.heap.size)] 89)).alloc (.cells #[.slice none 0 0] 63) := ⟨_,rfl⟩;have hs2 : (w2.alloc (.cells #[.map (some w.heap.size)] 89)).heap.size = pB := by rw [hpB,World.size_alloc]
 have h3 : TalC w w3 kB pB mb [(none,0)] [] (.slice none 0 0) := by
  have b3 : Below w2.heap.size w2 w3 := by rw [hw3];exact (below1 _ _).trans ((below1 _ _).mono (by rw [World.size_alloc];omega))
  have hsz2 := b2.size;refine ⟨by omega,by omega,by omega,?_,?_,?_,⟨rfl,.inl ⟨rfl,rfl⟩⟩,b2.trans (b3.mono b2.size)⟩
  ·show w3.heap[kB]? = _
   rw [hw3,hkB,hmb];exact below_kept (below1 _ _) (heap_new w2 _)
  ·show w3.heap[pB]? = _
   rw [hw3,<- hs2];exact heap_new _ _
  ·rw [hmb];exact kPtrMap.keep hm2 (grown_below none b3) (by simp)
 have hyk : IsK w3 (some q0) := (isK_of hc).below h3.be (jN _)
 have HE := qhid (tal_enter w w3 kB pB mb q0 [(none,0)] [] (.slice none 0 0) h3 hyk (fun p hp => by
  obtain rfl : p = (none,0) := by simpa using hp
  intro a e
  cases e) (by simp))
 have HNN := qhid hnn;have HC0 := qhid hc;have HK := qhid hK;have HI0 : Hid (TalI num w q0 (kputD [(none,0)] (some q0) (-1)) [y]) := qhid (hyq ▸ TalI.start num hy);have HM0 : Hid (meas (kputD [(none,0)] (some q0) (-1)) [y] <= 2 * coSize c0) := qhid (hyc ▸ meas_start y _);have HYQ := qhid hyq
 have HFF0 : Hid (∀ x ∈ [y],F x.co) := qhid (fun x hx => by
  have e : x = y := (by simpa using hx)
  rw [e,hyc];exact hF0)
 have HFH := qhid hF;have HW3 := qhid hw3;have HPB := qhid hpB;have HKB := qhid hkB;have HMB := qhid hmb;clear hF0 hF hm2 hg2 hmp hw1 b1 hc hy hyc hK b2 hnn hyq hyk h3 hw3 hs2 hpB hkB hmb
 go_enter Tryz.func27,Tryz.ntmps27
 go_wp2_with fail
 rw [<- HW3.out,<- HPB.out,<- HKB.out,<- HMB.out];clear hup hmm;refine HE.out.mono ?_;rintro e w4 ⟨rfl,pv4,h4⟩;have H4 := qhid h4;clear h4 HE
 go_wp2_with fail
 go_loopg [] (2 * coSize c0) (fun gk wr => ∃ (D : List (Option Nat × Int)) (P : List KE) (pv : Value),meas D P <= gk /\ gk <= 1000000000 /\ Hid (TalI num w q0 D P) /\ Hid (∀ x ∈ P,F x.co) /\ Hid (TalC w wr kB pB mb D (P.map KE.q) pv))
 case atStart => exact ⟨_,[y],pv4,HM0.out,hsz,HI0,HFF0,by rw [List.map_cons,List.map_nil,HYQ.out];exact H4⟩
 case round =>
  clear HI0 HM0 H4 HFF0;obtain ⟨D,P,pv,hme,hgk,HI,HFX,HC⟩ := hrel
  rcases List.eq_nil_or_concat P with rfl | ⟨P,x,rfl⟩
  ·have hdn := HI.out.done HC0.out;have LK := klookup1_ptr HC.out.mp ((isK_of HC0.out).below HC.out.be (jN _)) (fun p hp => (HI.out.ks p hp).below HC.out.be (jN _)) hdn;have LK : (Instr.lookup 89 (.map (some mb)) (.pointer (some ⟨q0,0,none⟩)) false).run Tryz.prog wr = .ok (.int .i64 (tallyM num c0)) wr := LK
   obtain ⟨bb,cc,rfl⟩ : ∃ b c,pv = .slice b 0 c := by rcases HC.out.row.2 with ⟨h,_⟩ | ⟨g,cap,cur,h,_⟩ <;> exact ⟨_,_,h⟩
   have hkb := HC.out.kb.cell;have hpb := HC.out.pb.cell;clear hdn
   go_wp2_with fail
   go_ret
   exact ⟨rfl,HC.out.be⟩
  ·rw [List.concat_eq_append] at hme HI HFX HC;obtain ⟨q,k,s,z,ca,cb,pa,pb⟩ := x;obtain ⟨L,hL⟩ : ∃ L,L = P.map KE.q ++ [q] := ⟨_,rfl⟩;rw [show (P ++ [(⟨q,k,s,z,ca,cb,pa,pb⟩ : KE)]).map KE.q = L by rw [hL];simp] at HC;have HL := qhid hL;have hC := HC.out;rw [hL] at hC;obtain ⟨g,cap,hpv,hcap,hcell,hgl,_⟩ := hC.pop;obtain ⟨ln,hln⟩ : ∃ n,n = (P.map KE.q).length := ⟨_,rfl⟩;have HLN := qhid hln;have HPV := qhid hpv;have hl1 : L.length = ln + 1 := by rw [hL,hln];simp
   have hll := meas_len D (P ++ [⟨q,k,s,z,ca,cb,pa,pb⟩]);have hll : ln + 1 <= 1000000000 := by rw [List.length_append,List.length_singleton] at hll;rw [hln,List.length_map];omega
   have HLL := qhid hl1;have HX := HI.out.at_ ⟨q,k,s,z,ca,cb,pa,pb⟩ (by simp);have HQ : Hid (w.heap[q]? = some (coOb k s z (kPtr pa) (kPtr pb))) := qhid HX.hb;have hsa := coSize_part ⟨q,k,s,z,ca,cb,pa,pb⟩;obtain ⟨a,ha,hga,HAA,hta,hna⟩ := HI.out.known HNN.out HX.ca hsa.1;obtain ⟨b,hb,hgb,HBB,htb,hnb⟩ := HI.out.known HNN.out HX.cb hsa.2;obtain ⟨va,hva⟩ : ∃ v,kPtr pa = .pointer v := ⟨_,rfl⟩;obtain ⟨vb,hvb⟩ : ∃ v,kPtr pb = .pointer v := ⟨_,rfl⟩;have KQ : ∀ (p : Option Nat) (c : Co) (X : World),CoAt w c (kPtr p) -> TalC w X kB pB mb D L pv -> IsK X p := fun p c X hc hX => (isK_of hc).below hX.be (jN _)
   have KD : ∀ X,TalC w X kB pB mb D L pv -> ∀ p ∈ D,IsK X p.1 := fun X hX p hp => (HI.out.ks p hp).below hX.be (jN _)
   have LKA : Hid (∀ X,TalC w X kB pB mb D L pv -> (Instr.lookup 89 (.map (some mb)) (.pointer va) true).run Tryz.prog X = .ok (.tuple #[.int .i64 a,.bool ha]) X) := qhid (fun X hX => by
    have := klookup_ptr hX.mp (KQ pa ca X HX.ca hX) (KD X hX);rw [hga,hva] at this
    exact this)
   have LKB : Hid (∀ X,TalC w X kB pB mb D L pv -> (Instr.lookup 89 (.map (some mb)) (.pointer vb) true).run Tryz.prog X = .ok (.tuple #[.int .i64 b,.bool hb]) X) := qhid (fun X hX => by
    have := klookup_ptr hX.mp (KQ pb cb X HX.cb hX) (KD X hX);rw [hgb,hvb] at this
    exact this)
   have HKQ : Hid (∀ X,TalC w X kB pB mb D L pv -> IsK X (some q)) := qhid (fun X hX => KQ (some q) _ X HX.co hX);have HKD := qhid KD;obtain ⟨n,hnv⟩ : ∃ n,n = num (KE.co ⟨q,k,s,z,ca,cb,pa,pb⟩) a b := ⟨_,rfl⟩
   have HNK : Hid (∀ X,TalC w X kB pB mb D L pv -> Calls Tryz.prog fn #[.pointer (some ⟨q,0,none⟩),.int .i64 a,.int .i64 b] X fun e w' => e = .returned (.int .i64 n) /\ Below X.heap.size X w') := qhid (fun X hX => by
    rw [hnv]
    exact HK.out _ q a b X hX.be (HFX.out ⟨q,k,s,z,ca,cb,pa,pb⟩ (by simp)) HX.co HAA HBB)
   have HITT : ha = true -> hb = true -> Hid (TalI num w q0 (kputD D (some q) n) P) := fun e1 e2 => qhid (by
    have := HI.out.told;rw [show tallyM num (KE.co ⟨q,k,s,z,ca,cb,pa,pb⟩) = n by rw [hnv,hta e1,htb e2];rfl] at this
    exact this)
   have hmt : meas (kputD D (some q) n) P + 1 <= meas D (P ++ [⟨q,k,s,z,ca,cb,pa,pb⟩]) := meas_told D P ⟨q,k,s,z,ca,cb,pa,pb⟩ n;have HIX := qhid HITT;have hFk := HFH.out _ _ _ _ _ (HFX.out ⟨q,k,s,z,ca,cb,pa,pb⟩ (by simp));have HGP : Hid (∀ x ∈ P,F x.co) := qhid (fun x hx => HFX.out x (List.mem_append_left _ hx))
   have HGa2 : Hid (∀ y : KE,y.co = ca -> ∀ x ∈ P ++ [(⟨q,k,s,z,ca,cb,pa,pb⟩ : KE)] ++ [y],F x.co) := qhid (fun y e x hx => by
    rcases List.mem_append.1 hx with hx | hx
    ·exact HFX.out x hx
    ·obtain rfl : x = y := by simpa using hx
     rw [e];exact hFk.1)
   have HGb2 : Hid (∀ y : KE,y.co = cb -> ∀ x ∈ P ++ [(⟨q,k,s,z,ca,cb,pa,pb⟩ : KE)] ++ [y],F x.co) := qhid (fun y e x hx => by
    rcases List.mem_append.1 hx with hx | hx
    ·exact HFX.out x hx
    ·obtain rfl : x = y := by simpa using hx
     rw [e];exact hFk.2)
   have HNa := qhid hna;have HNb := qhid hnb;have HVa := qhid hva;have HVb := qhid hvb;have HSa := qhid hsa.1;have HSb := qhid hsa.2;have HGa := qhid hga;have HGb := qhid hgb;have HAA := qhid HAA;have HBB := qhid HBB;have HPa : Hid (∀ y : KE,y.co = ca -> pa = some y.q -> (pa = some y.q /\ ca = y.co) \/ (pb = some y.q /\ cb = y.co)) := qhid (fun y e1 e2 => .inl ⟨e2,e1.symm⟩);have HPb : Hid (∀ y : KE,y.co = cb -> pb = some y.q -> (pa = some y.q /\ ca = y.co) \/ (pb = some y.q /\ cb = y.co)) := qhid (fun y e1 e2 => .inr ⟨e2,e1.symm⟩);have hpb := HC.out.pb.cell;have hkb := HC.out.kb.cell;rw [hpv,<- hln] at hpb;rw [<- hln] at hcell hcap;replace hcell : wr.cell? ⟨g,ln,none⟩ = some (.pointer (some ⟨q,0,none⟩)) := hcell;rw [hva,hvb] at HQ;clear HITT hFk hL hC hln hpv hl1 HX hsa hga hta hna hgb htb hnb hva hvb KQ KD hnv
   go_upto_region 9 with fail
   clear hpb hkb hcell;refine Reg.wp_region_C (tk9 mb q va a ha) (fun _ X => TalC w X kB pB mb D L pv) [0,1,2,3,4,5,6,7,8,9,10] (by rfl) (by kernel_rfl) (by kernel_rfl) ?_ ?_ ?_
   ·exact HC.out.up (Below.drew (Below.refl _ _))
   ·refine ⟨fun listed A X hI hcl hin hun hall => .inl ⟨Reg.wanted_none rfl,?_⟩,?_⟩
    ·have e5 := hI.evo (d := 5) (by kernel_rfl) rfl;have hX : TalC w X kB pB mb D L pv := hI.st;have f := hX.kb.cell;have HX := qhid hX;clear hI hall hX hcl;unfold Reg.Yields
     go_simp
     first | rfl | exact ⟨rfl,HX.out⟩ | (refine ⟨?_,HX.out⟩;simp [tk9];done)
    refine ⟨fun listed A X hI hcl hin hun hall => .inl ⟨Reg.wanted_none rfl,?_⟩,?_⟩
    ·have e8 := hI.evo (d := 8) (by kernel_rfl) rfl;have hX : TalC w X kB pB mb D L pv := hI.st;have HX := qhid hX;clear hI hall hX hcl;unfold Reg.Yields
     go_simp
     first | rfl | exact ⟨rfl,HX.out⟩ | (refine ⟨?_,HX.out⟩;simp [tk9];done)
    refine ⟨fun listed A X hI hcl hin hun hall => .inl ⟨Reg.wanted_none rfl,?_⟩,?_⟩
    ·have e32 : A.tmps[32]? = some (.pointer (some ⟨q,0,none⟩)) := hI.ev (i := 1) (d := 32) (by rfl) (hall ⟨1,.data⟩ (by simp) rfl);have hX : TalC w X kB pB mb D L pv := hI.st;have hb := (hX.be.block _ (jS HQ.out)).trans HQ.out;have y6 := jC hb 6;have hyl := jS hb;simp only [List.getElem?_toArray,List.getElem?_cons_zero,List.getElem?_cons_succ] at y6;clear hb;have HX := qhid hX;clear hI hall hX hcl;unfold Reg.Yields
     go_simp
     first | rfl | exact ⟨rfl,HX.out⟩ | (refine ⟨?_,HX.out⟩;simp [tk9];done)
    refine ⟨fun listed A X hI hcl hin hun hall => .inl ⟨Reg.wanted_none rfl,?_⟩,?_⟩
    ·have e33 : A.tmps[33]? = some (.pointer (some ⟨q,0,none⟩)) := hI.ev (i := 2) (d := 33) (by rfl) (hall ⟨2,.data⟩ (by simp) rfl);have hX : TalC w X kB pB mb D L pv := hI.st;have hb := (hX.be.block _ (jS HQ.out)).trans HQ.out;have y6 := jC hb 6;have hyl := jS hb;simp only [List.getElem?_toArray,List.getElem?_cons_zero,List.getElem?_cons_succ] at y6;clear hb;have HX := qhid hX;clear hI hall hX hcl;unfold Reg.Yields
     go_simp
     first | rfl | exact ⟨rfl,HX.out⟩ | (refine ⟨?_,HX.out⟩;simp [tk9];done)
    refine ⟨fun listed A X hI hcl hin hun hall => .inl ⟨Reg.wanted_none rfl,?_⟩,?_⟩
    ·have e34 : A.tmps[34]? = some (.pointer (some ⟨q,6,none⟩)) := hI.ev (i := 3) (d := 34) (by rfl) (hall ⟨3,.data⟩ (by simp) rfl);have hX : TalC w X kB pB mb D L pv := hI.st;have hb := (hX.be.block _ (jS HQ.out)).trans HQ.out;have y6 := jC hb 6;have hyl := jS hb;simp only [List.getElem?_toArray,List.getElem?_cons_zero,List.getElem?_cons_succ] at y6;clear hb;have HX := qhid hX;clear hI hall hX hcl;unfold Reg.Yields
     go_simp
     first | rfl | exact ⟨rfl,HX.out⟩ | (refine ⟨?_,HX.out⟩;simp [tk9];done)
    refine ⟨fun listed A X hI hcl hin hun hall => .inl ⟨Reg.wanted_none rfl,?_⟩,?_⟩
    ·have e31 : A.tmps[31]? = some (.map (some mb)) := hI.ev (i := 0) (d := 31) (by rfl) (hall ⟨0,.data⟩ (by simp) rfl);have e35 : A.tmps[35]? = some (.pointer va) := hI.ev (i := 4) (d := 35) (by rfl) (hall ⟨4,.data⟩ (by simp) rfl);have hX : TalC w X kB pB mb D L pv := hI.st;have lk := LKA.out X hX;have HX := qhid hX;clear hI hall hX hcl;unfold Reg.Yields
     go_simp
     first | rfl | exact ⟨rfl,HX.out⟩ | (refine ⟨?_,HX.out⟩;simp [tk9];done)
    refine ⟨fun listed A X hI hcl hin hun hall => .inl ⟨Reg.wanted_none rfl,?_⟩,?_⟩
    ·have e36 : A.tmps[36]? = some (.tuple #[.int .i64 a,.bool ha]) := hI.ev (i := 5) (d := 36) (by rfl) (hall ⟨5,.data⟩ (by simp) rfl);have hX : TalC w X kB pB mb D L pv := hI.st;have HX := qhid hX;clear hI hall hX hcl;unfold Reg.Yields
     go_simp
     first | rfl | exact ⟨rfl,HX.out⟩ | (refine ⟨?_,HX.out⟩;simp [tk9];done)
    refine ⟨fun listed A X hI hcl hin hun hall => .inl ⟨Reg.wanted_none rfl,?_⟩,?_⟩
    ·have e30 : A.tmps[30]? = some (.tuple #[.int .i64 a,.bool ha]) := hI.ev (i := 6) (d := 30) (by rfl) (hall ⟨6,.data⟩ (by simp) rfl);have hX : TalC w X kB pB mb D L pv := hI.st;have HX := qhid hX;clear hI hall hX hcl;unfold Reg.Yields
     go_simp
     first | rfl | exact ⟨rfl,HX.out⟩ | (refine ⟨?_,HX.out⟩;simp [tk9];done)
    refine ⟨fun listed A X hI hcl hin hun hall => .inl ⟨Reg.wanted_none rfl,?_⟩,?_⟩
    ·have e30 : A.tmps[30]? = some (.tuple #[.int .i64 a,.bool ha]) := hI.ev (i := 6) (d := 30) (by rfl) (hall ⟨6,.data⟩ (by simp) rfl);have hX : TalC w X kB pB mb D L pv := hI.st;have HX := qhid hX;clear hI hall hX hcl;unfold Reg.Yields
     go_simp
     first | rfl | exact ⟨rfl,HX.out⟩ | (refine ⟨?_,HX.out⟩;simp [tk9];done)
    refine ⟨fun listed A X hI hcl hin hun hall => .inl ⟨Reg.wanted_none rfl,?_⟩,?_⟩
    ·have e37 : A.tmps[37]? = some (.int .i64 a) := hI.ev (i := 7) (d := 37) (by rfl) (hall ⟨7,.data⟩ (by simp) rfl);have hX : TalC w X kB pB mb D L pv := hI.st;have HX := qhid hX;clear hI hall hX hcl;unfold Reg.Yields
     go_simp
     first | rfl | exact ⟨rfl,HX.out⟩ | (refine ⟨?_,HX.out⟩;simp [tk9];done)
    refine ⟨fun listed A X hI hcl hin hun hall => .inl ⟨Reg.wanted_none rfl,?_⟩,?_⟩
    ·have e38 : A.tmps[38]? = some (.bool ha) := hI.ev (i := 8) (d := 38) (by rfl) (hall ⟨8,.data⟩ (by simp) rfl);have hX : TalC w X kB pB mb D L pv := hI.st;have HX := qhid hX;clear hI hall hX hcl;unfold Reg.Yields
     go_simp
     first | rfl | exact ⟨rfl,HX.out⟩ | (refine ⟨?_,HX.out⟩;simp [tk9];done)
    trivial
   ·intro X hS;have HX := qhid hS;clear hS;simp [Reg.finalTmps,Reg.dstAt,Reg.valOf,tk9]
    go_upto_region 10 with fail
    refine Reg.wp_region_C (tk10 mb q vb b hb) (fun _ X => TalC w X kB pB mb D L pv) [0,1,2,3,4,5,6,7,8,9,10] (by rfl) (by kernel_rfl) (by kernel_rfl) ?_ ?_ ?_
    ·exact HX.out.up (Below.drew (Below.refl _ _))
    ·refine ⟨fun listed A X hI hcl hin hun hall => .inl ⟨Reg.wanted_none rfl,?_⟩,?_⟩
     ·have e5 := hI.evo (d := 5) (by kernel_rfl) rfl;have hX : TalC w X kB pB mb D L pv := hI.st;have f := hX.kb.cell;have HX := qhid hX;clear hI hall hX hcl;unfold Reg.Yields
      go_simp
      first | rfl | exact ⟨rfl,HX.out⟩ | (refine ⟨?_,HX.out⟩;simp [tk10];done)
     refine ⟨fun listed A X hI hcl hin hun hall => .inl ⟨Reg.wanted_none rfl,?_⟩,?_⟩
     ·have e8 := hI.evo (d := 8) (by kernel_rfl) rfl;have hX : TalC w X kB pB mb D L pv := hI.st;have HX := qhid hX;clear hI hall hX hcl;unfold Reg.Yields
      go_simp
      first | rfl | exact ⟨rfl,HX.out⟩ | (refine ⟨?_,HX.out⟩;simp [tk10];done)
     refine ⟨fun listed A X hI hcl hin hun hall => .inl ⟨Reg.wanted_none rfl,?_⟩,?_⟩
     ·have e41 : A.tmps[41]? = some (.pointer (some ⟨q,0,none⟩)) := hI.ev (i := 1) (d := 41) (by rfl) (hall ⟨1,.data⟩ (by simp) rfl);have hX : TalC w X kB pB mb D L pv := hI.st;have hb := (hX.be.block _ (jS HQ.out)).trans HQ.out;have y7 := jC hb 7;have hyl := jS hb;simp only [List.getElem?_toArray,List.getElem?_cons_zero,List.getElem?_cons_succ] at y7;clear hb;have HX := qhid hX;clear hI hall hX hcl;unfold Reg.Yields
      go_simp
      first | rfl | exact ⟨rfl,HX.out⟩ | (refine ⟨?_,HX.out⟩;simp [tk10];done)
     refine ⟨fun listed A X hI hcl hin hun hall => .inl ⟨Reg.wanted_none rfl,?_⟩,?_⟩
     ·have e42 : A.tmps[42]? = some (.pointer (some ⟨q,0,none⟩)) := hI.ev (i := 2) (d := 42) (by rfl) (hall ⟨2,.data⟩ (by simp) rfl);have hX : TalC w X kB pB mb D L pv := hI.st;have hb := (hX.be.block _ (jS HQ.out)).trans HQ.out;have y7 := jC hb 7;have hyl := jS hb;simp only [List.getElem?_toArray,List.getElem?_cons_zero,List.getElem?_cons_succ] at y7;clear hb;have HX := qhid hX;clear hI hall hX hcl;unfold Reg.Yields
      go_simp
      first | rfl | exact ⟨rfl,HX.out⟩ | (refine ⟨?_,HX.out⟩;simp [tk10];done)
     refine ⟨fun listed A X hI hcl hin hun hall => .inl ⟨Reg.wanted_none rfl,?_⟩,?_⟩
     ·have e43 : A.tmps[43]? = some (.pointer (some ⟨q,7,none⟩)) := hI.ev (i := 3) (d := 43) (by rfl) (hall ⟨3,.data⟩ (by simp) rfl);have hX : TalC w X kB pB mb D L pv := hI.st;have hb := (hX.be.block _ (jS HQ.out)).trans HQ.out;have y7 := jC hb 7;have hyl := jS hb;simp only [List.getElem?_toArray,List.getElem?_cons_zero,List.getElem?_cons_succ] at y7;clear hb;have HX := qhid hX;clear hI hall hX hcl;unfold Reg.Yields
      go_simp
      first | rfl | exact ⟨rfl,HX.out⟩ | (refine ⟨?_,HX.out⟩;simp [tk10];done)
     refine ⟨fun listed A X hI hcl hin hun hall => .inl ⟨Reg.wanted_none rfl,?_⟩,?_⟩
     ·have e40 : A.tmps[40]? = some (.map (some mb)) := hI.ev (i := 0) (d := 40) (by rfl) (hall ⟨0,.data⟩ (by simp) rfl);have e44 : A.tmps[44]? = some (.pointer vb) := hI.ev (i := 4) (d := 44) (by rfl) (hall ⟨4,.data⟩ (by simp) rfl);have hX : TalC w X kB pB mb D L pv := hI.st;have lk := LKB.out X hX;have HX := qhid hX;clear hI hall hX hcl;unfold Reg.Yields
      go_simp
      first | rfl | exact ⟨rfl,HX.out⟩ | (refine ⟨?_,HX.out⟩;simp [tk10];done)
     refine ⟨fun listed A X hI hcl hin hun hall => .inl ⟨Reg.wanted_none rfl,?_⟩,?_⟩
     ·have e45 : A.tmps[45]? = some (.tuple #[.int .i64 b,.bool hb]) := hI.ev (i := 5) (d := 45) (by rfl) (hall ⟨5,.data⟩ (by simp) rfl);have hX : TalC w X kB pB mb D L pv := hI.st;have HX := qhid hX;clear hI hall hX hcl;unfold Reg.Yields
      go_simp
      first | rfl | exact ⟨rfl,HX.out⟩ | (refine ⟨?_,HX.out⟩;simp [tk10];done)
     refine ⟨fun listed A X hI hcl hin hun hall => .inl ⟨Reg.wanted_none rfl,?_⟩,?_⟩
     ·have e39 : A.tmps[39]? = some (.tuple #[.int .i64 b,.bool hb]) := hI.ev (i := 6) (d := 39) (by rfl) (hall ⟨6,.data⟩ (by simp) rfl);have hX : TalC w X kB pB mb D L pv := hI.st;have HX := qhid hX;clear hI hall hX hcl;unfold Reg.Yields
      go_simp
      first | rfl | exact ⟨rfl,HX.out⟩ | (refine ⟨?_,HX.out⟩;simp [tk10];done)
     refine ⟨fun listed A X hI hcl hin hun hall => .inl ⟨Reg.wanted_none rfl,?_⟩,?_⟩
     ·have e39 : A.tmps[39]? = some (.tuple #[.int .i64 b,.bool hb]) := hI.ev (i := 6) (d := 39) (by rfl) (hall ⟨6,.data⟩ (by simp) rfl);have hX : TalC w X kB pB mb D L pv := hI.st;have HX := qhid hX;clear hI hall hX hcl;unfold Reg.Yields
      go_simp
      first | rfl | exact ⟨rfl,HX.out⟩ | (refine ⟨?_,HX.out⟩;simp [tk10];done)
     refine ⟨fun listed A X hI hcl hin hun hall => .inl ⟨Reg.wanted_none rfl,?_⟩,?_⟩
     ·have e46 : A.tmps[46]? = some (.int .i64 b) := hI.ev (i := 7) (d := 46) (by rfl) (hall ⟨7,.data⟩ (by simp) rfl);have hX : TalC w X kB pB mb D L pv := hI.st;have HX := qhid hX;clear hI hall hX hcl;unfold Reg.Yields
      go_simp
      first | rfl | exact ⟨rfl,HX.out⟩ | (refine ⟨?_,HX.out⟩;simp [tk10];done)
     refine ⟨fun listed A X hI hcl hin hun hall => .inl ⟨Reg.wanted_none rfl,?_⟩,?_⟩
     ·have e47 : A.tmps[47]? = some (.bool hb) := hI.ev (i := 8) (d := 47) (by rfl) (hall ⟨8,.data⟩ (by simp) rfl);have hX : TalC w X kB pB mb D L pv := hI.st;have HX := qhid hX;clear hI hall hX hcl;unfold Reg.Yields
      go_simp
      first | rfl | exact ⟨rfl,HX.out⟩ | (refine ⟨?_,HX.out⟩;simp [tk10];done)
     trivial
    ·intro X hS;have HX := qhid hS;clear hS;simp [Reg.finalTmps,Reg.dstAt,Reg.valOf,tk10];have ha1 : ((a : Int) == -1) = false := by have := HAA.out;simp;omega
     have hb1 : ((b : Int) == -1) = false := by have := HBB.out;simp;omega
     cases ha with
     | false =>
      obtain ⟨y',hy',hyc',rfl⟩ := HNa.out rfl;obtain rfl : some ⟨y'.q,0,none⟩ = va := by injection HVa.out
      have HE := qhid (tal_enter w X kB pB mb y'.q D L pv HX.out ((isK_of hy'.co).below HX.out.be (jN _)) (fun p hp => (HI.out.ks p hp).below HX.out.be (jN _)) (by rw [HLL.out];omega));have HIe := qhid (HI.out.enter hy' (by rw [hyc'];exact HSa.out) (by rw [HGa.out]));have hm4 := meas_enter D P ⟨q,k,s,z,ca,cb,some y'.q,pb⟩ y' (HPa.out y' hyc' rfl) (by rw [HGa.out]);have hb := (HX.out.be.block _ (jS HQ.out)).trans HQ.out;have y3 := jC hb 6;have hyl := jS hb;have hkb := HX.out.kb.cell;simp only [List.getElem?_toArray,List.getElem?_cons_zero,List.getElem?_cons_succ] at y3;have HGF := qhid (HGa2.out y' hyc');clear hb hyc'
      go_wp2_with fail
      refine HE.out.mono ?_;rintro e w4 ⟨rfl,pv4,h4⟩;have H4 := qhid h4;clear h4
      go_wp2_with fail
      go_roundg (meas (kputD D (some y'.q) (-1)) (P ++ [⟨q,k,s,z,ca,cb,some y'.q,pb⟩] ++ [y']))
      case rel => exact ⟨_,_,pv4,jN _,by omega,HIe,HGF,by rw [List.map_append,List.map_append];rw [HL.out] at H4;exact H4⟩
      case measure => omega
     | true =>
      cases hb with
      | false =>
       obtain ⟨y',hy',hyc',rfl⟩ := HNb.out rfl;obtain rfl : some ⟨y'.q,0,none⟩ = vb := by injection HVb.out
       have HE := qhid (tal_enter w X kB pB mb y'.q D L pv HX.out ((isK_of hy'.co).below HX.out.be (jN _)) (fun p hp => (HI.out.ks p hp).below HX.out.be (jN _)) (by rw [HLL.out];omega));have HIe := qhid (HI.out.enter hy' (by rw [hyc'];exact HSb.out) (by rw [HGb.out]));have hm4 := meas_enter D P ⟨q,k,s,z,ca,cb,pa,some y'.q⟩ y' (HPb.out y' hyc' rfl) (by rw [HGb.out]);have hb := (HX.out.be.block _ (jS HQ.out)).trans HQ.out;have y3 := jC hb 7;have hyl := jS hb;have hkb := HX.out.kb.cell;simp only [List.getElem?_toArray,List.getElem?_cons_zero,List.getElem?_cons_succ] at y3;have HGF := qhid (HGb2.out y' hyc');clear hb hyc'
       go_wp2_with fail
       refine HE.out.mono ?_;rintro e w4 ⟨rfl,pv4,h4⟩;have H4 := qhid h4;clear h4
       go_wp2_with fail
       go_roundg (meas (kputD D (some y'.q) (-1)) (P ++ [⟨q,k,s,z,ca,cb,pa,some y'.q⟩] ++ [y']))
       case rel => exact ⟨_,_,pv4,jN _,by omega,HIe,HGF,by rw [List.map_append,List.map_append];rw [HL.out] at H4;exact H4⟩
       case measure => omega
      | true =>
       have HIT := HIX.out rfl rfl
       go_upto_region 11 with fail
       refine Reg.wp_region_C (tk11 mb q fn a b n) (Reg.GenC 7 (fun X => TalC w X kB pB mb D L pv) (fun X => TalC w X kB pB mb (kputD D (some q) n) L pv)) [0,1,2,3,4,5,6,7] (by rfl) (by kernel_rfl) (by kernel_rfl) ?_ ?_ ?_
       ·exact Reg.GenC.start _ _ (HX.out.up (Below.drew (Below.refl _ _)))
       ·refine ⟨fun listed A X hI hcl hin hun hall => .inl ⟨Reg.wanted_none rfl,?_⟩,?_⟩
        ·have e5 := hI.evo (d := 5) (by kernel_rfl) rfl;have HS := hI.st;have hX := HS.at hcl (i := 0) (by kernel_rfl) (by simpa using hun);have f := hX.kb.cell;clear hI hall hcl;have HX := qhid hX;clear hX;unfold Reg.Yields
         go_simp
         first | rfl | exact ⟨rfl,HS.up (by decide)⟩ | (refine ⟨?_,HS.up (by decide)⟩;simp [tk11])
        refine ⟨fun listed A X hI hcl hin hun hall => .inl ⟨Reg.wanted_none rfl,?_⟩,?_⟩
        ·have e8 := hI.evo (d := 8) (by kernel_rfl) rfl;have HS := hI.st;clear hI hall hcl;unfold Reg.Yields
         go_simp
         first | rfl | exact ⟨rfl,HS.up (by decide)⟩ | (refine ⟨?_,HS.up (by decide)⟩;simp [tk11])
        refine ⟨fun listed A X hI hcl hin hun hall => .inl ⟨Reg.wanted_none rfl,?_⟩,?_⟩
        ·have e1 := hI.evo (d := 1) (by kernel_rfl) rfl;have HS := hI.st;clear hI hall hcl;unfold Reg.Yields
         go_simp
         first | rfl | exact ⟨rfl,HS.up (by decide)⟩ | (refine ⟨?_,HS.up (by decide)⟩;simp [tk11])
        refine ⟨fun listed A X hI hcl hin hun hall => .inl ⟨Reg.wanted_none rfl,?_⟩,?_⟩
        ·have e8 := hI.evo (d := 8) (by kernel_rfl) rfl;have HS := hI.st;clear hI hall hcl;unfold Reg.Yields
         go_simp
         first | rfl | exact ⟨rfl,HS.up (by decide)⟩ | (refine ⟨?_,HS.up (by decide)⟩;simp [tk11])
        refine ⟨fun listed A X hI hcl hin hun hall => .inl ⟨Reg.wanted_none rfl,?_⟩,?_⟩
        ·have e9 := hI.evo (d := 9) (by kernel_rfl) rfl;have HS := hI.st;clear hI hall hcl;unfold Reg.Yields
         go_simp
         first | rfl | exact ⟨rfl,HS.up (by decide)⟩ | (refine ⟨?_,HS.up (by decide)⟩;simp [tk11])
        refine ⟨fun listed A X hI hcl hin hun hall => .inl ⟨Reg.wanted_none rfl,?_⟩,?_⟩
        ·have e11 := hI.evo (d := 11) (by kernel_rfl) rfl;have HS := hI.st;clear hI hall hcl;unfold Reg.Yields
         go_simp
         first | rfl | exact ⟨rfl,HS.up (by decide)⟩ | (refine ⟨?_,HS.up (by decide)⟩;simp [tk11])
        refine ⟨fun listed A X hI hcl hin hun hall => .inl ⟨Reg.wanted_none rfl,?_⟩,?_⟩
        ·have e50 : A.tmps[50]? = some (.func (.func fn) #[] #[]) := hI.ev (i := 2) (d := 50) (by rfl) (hall ⟨2,.data⟩ (by simp) rfl);have e51 : A.tmps[51]? = some (.pointer (some ⟨q,0,none⟩)) := hI.ev (i := 3) (d := 51) (by rfl) (hall ⟨3,.data⟩ (by simp) rfl);have e52 : A.tmps[52]? = some (.int .i64 a) := hI.ev (i := 4) (d := 52) (by rfl) (hall ⟨4,.data⟩ (by simp) rfl);have e53 : A.tmps[53]? = some (.int .i64 b) := hI.ev (i := 5) (d := 53) (by rfl) (hall ⟨5,.data⟩ (by simp) rfl);have HS := hI.st;have hX := HS.at hcl (i := 6) (by kernel_rfl) (by simpa using hun);clear hI hall;have HX := qhid hX;clear hX;unfold Reg.Yields
         go_simp
         exact (HNK.out X HX.out).mono fun e w2 h => ⟨_,h.1,rfl,HS.step hcl (by kernel_rfl) (by simpa using hun) (by decide) (HX.out.up h.2)⟩
        refine ⟨fun listed A X hI hcl hin hun hall => .inl ⟨Reg.wanted_none rfl,?_⟩,?_⟩
        ·have e48 : A.tmps[48]? = some (.map (some mb)) := hI.ev (i := 0) (d := 48) (by rfl) (hall ⟨0,.data⟩ (by simp) rfl);have e49 : A.tmps[49]? = some (.pointer (some ⟨q,0,none⟩)) := hI.ev (i := 1) (d := 49) (by rfl) (hall ⟨1,.data⟩ (by simp) rfl);have e54 : A.tmps[54]? = some (.int .i64 n) := hI.ev (i := 6) (d := 54) (by rfl) (hall ⟨6,.data⟩ (by simp) rfl);have HS := hI.st;have hX := HS.ahead (by simpa using hun);obtain ⟨X2,hup,hm2,hg2⟩ := kupdate_ptr n hX.mp (HKQ.out X hX) (HKD.out X hX);have hup : (Instr.mapUpdate 89 (.map (some mb)) (.pointer (some ⟨q,0,none⟩)) (.int .i64 n)).run Tryz.prog X = .ok () X2 := hup;have HC2 := qhid (hX.map hg2 hm2);clear hI hall hcl;have HX := qhid hX;clear hX;unfold Reg.Yields
         go_simp
         exact ⟨rfl,Reg.GenC.put hin HC2.out⟩
        trivial
       ·intro X hS;have hR := hS.done (by rfl);clear hS;simp [Reg.finalTmps,Reg.dstAt,Reg.valOf,tk11];have HR := qhid hR;clear hR;have hpop := HR.out;rw [HL.out] at hpop;obtain ⟨g',cap',e',hcap',_,hgl',hpop⟩ := hpop.pop;rw [HPV.out] at e';injection e' with e1 _ e2;injection e1 with e1;injection e1 with e1;subst e1;subst e2;have HPO := qhid hpop;have hcap2 : ln + 1 <= cap := by rw [HLN.out];exact hcap'
        have hpb := HR.out.pb.cell;have hpf := HR.out.pb.frozen;rw [HPV.out,<- HLN.out] at hpb;clear hpop hcap' HR;rw [<- HLN.out] at HPO
        go_wp2_with fail
        go_roundg (meas (kputD D (some q) n) P)
        case rel => exact ⟨_,P,_,jN _,by omega,HIT,HGP,HPO⟩
        case measure => omega
end
end
end Go.Proofs.YtihoefibfhccfaaGreatDoor
namespace Go.Proofs.YtihoefibfhccfaaGreatDoor
section
section
section
open Go Go.RowKit
attribute [local go_sem ↓] Go.wp_at_zero Go.wp_at_succ
attribute [local go_sem] eq4
theorem cf_csize1 (args : Array Value) (W : World) : (callFunc 28 args).run Tryz.prog W = .ok (.enter 28 args) W := by
 simp [callFunc,go_sem,Tryz.func28];rfl
theorem csize1_any (v : Value) (a b : Int) (w : World) (ha : a <= top) (hb : b <= top) (_ha0 : 0 <= a) (_hb0 : 0 <= b) :
  Calls Tryz.prog 28 #[v,.int .i64 a,.int .i64 b] w fun e w' => e = .returned (.int .i64 (adL [1,a,b])) /\ Below w.heap.size w w' := by
 obtain ⟨w3,hw3⟩ : ∃ Y,Y = w.alloc (.cells #[.int .i64 1,.int .i64 a,.int .i64 b] 3) := ⟨_,rfl⟩;have b3 : Below w.heap.size w w3 := by rw [hw3];exact below1 _ _
 have K3 := qhid (add_cells w.heap.size 3 [1,a,b] w3 (by simp) (fun z hz => by
  simp only [List.mem_cons,List.not_mem_nil,or_false] at hz
  rcases hz with h | h | h
  ·rw [h];unfold top;omega
  ·rw [h];exact ha
  ·rw [h];exact hb) (by rw [hw3];exact heap_new w _))
 have HB3 := qhid b3;clear b3 ha hb
 go_enter Tryz.func28,Tryz.ntmps28
 go_wp2_with fail
 rw [<- hw3];clear hw3;refine K3.out.mono ?_;rintro e wz ⟨rfl,hz⟩;obtain rfl : w3 = wz := hz;clear K3
 go_wp2_with fail
 go_ret
 exact ⟨rfl,HB3.out⟩
def sizeM : Co -> Int := tallyM fun _ a b => adL [1,a,b]
theorem pl_eq {a b : Int} (ha : 0 <= a) (hb : 0 <= b) (h : a + b <= top) : pl a b = a + b := by
 have h1 : ∀ {x : Int},0 <= x -> cnt x = x := fun {x} hx => by unfold cnt;split <;> omega
 unfold pl;rw [h1 ha,h1 hb];unfold sat;rw [if_pos h]
theorem adL_three {n a b : Int} (hn : 0 <= n) (ha : 0 <= a) (hb : 0 <= b) (h : n + a + b <= top) : adL [n,a,b] = n + a + b := by
 show pl (pl (pl 0 n) a) b = _
 have h0 : pl 0 n = n := by rw [pl_eq (by omega) hn (by omega)];omega
 rw [h0,pl_eq hn ha (by omega),pl_eq (by omega) hb h]
theorem sizeM_eq : ∀ c : Co,(coSize c : Int) <= top -> sizeM c = coSize c
 | .nil,_ => by unfold sizeM;rw [tallyM,coSize];rfl
 | .node k s z a b,h => by
  rw [coSize] at h ⊢;have e : ((1 + coSize a + coSize b : Nat) : Int) = 1 + coSize a + coSize b := by omega
  rw [e] at h ⊢;have h1 := sizeM_eq a (by omega);have h2 := sizeM_eq b (by omega);unfold sizeM at h1 h2 ⊢;rw [tallyM,h1,h2,adL_three (by omega) (by omega) (by omega) (by omega)]
theorem csize_any (c : Co) (v : Value) (w : World) (hc : CoAt w c v) (hz : 2 * coSize c <= 1000000000) :
  Calls Tryz.prog 16 #[v] w fun e w' => e = .returned (.int .i64 (coSize c)) /\ Below w.heap.size w w' := by
 have key : Calls Tryz.prog 27 #[v,.func (.func 28) #[] #[]] w fun e w' => e = .returned (.int .i64 (coSize c)) /\ Below w.heap.size w w' := by
  rcases hc.nil_iff with ⟨rfl,rfl⟩ | ⟨hn,q,rfl⟩
  ·go_enter Tryz.func27,Tryz.ntmps27
   go_wp2_with fail
   go_ret
   exact ⟨rfl,Below.refl _ _⟩
  ·have := ctally_any (fun _ => True) (fun _ _ _ _ _ _ => ⟨trivial,trivial⟩) (fun _ a b => adL [1,a,b]) 28 c q w (fun _ a b => ⟨adL_nn _,adL_le _ _ _⟩) cf_csize1 (fun c q a b X _ _ _ ha hb => csize1_any _ a b X ha.2 hb.2 ha.1 hb.1) hc trivial hz;rw [show tallyM (fun _ a b => adL [1,a,b]) c = _ from sizeM_eq c (by unfold top;omega)] at this;exact this
 have HK := qhid key;clear key hc
 go_enter Tryz.func16,Tryz.ntmps16
 go_wp2_with fail
 refine HK.out.mono ?_;rintro e w2 ⟨rfl,hb⟩;have HB := qhid hb;clear hb
 go_wp2_with fail
 go_ret
 exact ⟨rfl,HB.out⟩
end
end
section
section
open Go Go.RowKit
attribute [local go_sem ↓] Go.wp_at_zero Go.wp_at_succ
attribute [local go_sem] eq4
end
end
section
section
open Go Go.RowKit
attribute [local go_sem ↓] Go.wp_at_zero Go.wp_at_succ
attribute [local go_sem] eq4
end
end
end
end Go.Proofs.YtihoefibfhccfaaGreatDoor
namespace Go.Proofs.YtihoefibfhccfaaGreatDoor
section
section
open Go Go.RowKit
attribute [local go_sem ↓] Go.wp_at_zero Go.wp_at_succ
end
end
end Go.Proofs.YtihoefibfhccfaaGreatDoor
namespace Go.Proofs.YtihoefibfhccfaaGreatDoor
section
section
section
open Go Go.RowKit
attribute [local go_sem ↓] Go.wp_at_zero Go.wp_at_succ
end
end
section
section
open Go Go.RowKit
end
end
end
end Go.Proofs.YtihoefibfhccfaaGreatDoor
namespace Go.Proofs.YtihoefibfhccfaaGreatDoor
section
section
open Go Go.RowKit
attribute [local go_sem ↓] Go.wp_at_zero Go.wp_at_succ
attribute [local go_sem] eq4
end
end
end Go.Proofs.YtihoefibfhccfaaGreatDoor
namespace Go.Proofs.YtihoefibfhccfaaGreatDoor
section
section
section
open Go Go.RowKit
attribute [local go_sem ↓] Go.wp_at_zero Go.wp_at_succ
attribute [local go_sem] eq4
end
end
section
section
open Go Go.RowKit
attribute [local go_sem ↓] Go.wp_at_zero Go.wp_at_succ
attribute [local go_sem] eq4
end
end
section
section
open Go Go.RowKit
attribute [local go_sem ↓] Go.wp_at_zero Go.wp_at_succ
attribute [local go_sem] eq4
end
end
section
section
open Go Go.RowKit
attribute [local go_sem ↓] Go.wp_at_zero Go.wp_at_succ
attribute [local go_sem] eq4
end
end
end
end Go.Proofs.YtihoefibfhccfaaGreatDoor
