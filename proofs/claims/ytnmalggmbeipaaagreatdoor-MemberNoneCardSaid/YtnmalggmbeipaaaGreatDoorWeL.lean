/- A part of the proof. -/
import Derived.Test.YtnmalggmbeipaaaGreatDoorCoA
import Derived.Test.YtnmalggmbeipaaaGreatDoorWeS
import Derived.Test.YtnmalggmbeipaaaGreatDoorCoK
namespace Go.Proofs.YtnmalggmbeipaaaGreatDoor
section
section
open Go Go.RowKit
structure Prt where
 places : Nat
 void : Int
 first : Wts
 last : Wts
def catP (a b : Prt) : Prt := ⟨a.places + b.places,ti a.void b.void,smW a.first (tmW b.first a.void a.places),smW (tmW a.last b.void 0) (tmW b.last 1 a.places)⟩
def altP (a b : Prt) : Prt := ⟨a.places + b.places,pl a.void b.void,smW a.first (tmW b.first 1 a.places),smW a.last (tmW b.last 1 a.places)⟩
def prtC : Co -> Prt
 | .nil => ⟨0,0,noneW,noneW⟩
 | .node k _ _ a b =>
  if k = 1 then ⟨1,0,unitW,unitW⟩
  else if k = 2 then catP (prtC a) (prtC b)
  else if k = 3 then altP (prtC a) (prtC b)
  else if k = 4 then ⟨(prtC a).places,1,(prtC a).first,(prtC a).last⟩
  else ⟨0,1,noneW,noneW⟩
structure PrtOK (a : Prt) : Prop where
 void : 0 <= a.void /\ a.void <= top
 first : WtOK a.places a.first
 last : WtOK a.places a.last
theorem PrtOK.cat {a b : Prt} (ha : PrtOK a) (hb : PrtOK b) : PrtOK (catP a b) :=
 ⟨⟨ti_nn _ _,ti_le _ _⟩,(ha.first.mono (Nat.le_add_right _ _)).sm (hb.first.tm _ _),((ha.last.tm _ 0).mono (by simp [catP])).sm (hb.last.tm _ _)⟩
theorem PrtOK.alt {a b : Prt} (ha : PrtOK a) (hb : PrtOK b) : PrtOK (altP a b) :=
 ⟨⟨pl_nn _ _,pl_le _ _⟩,(ha.first.mono (Nat.le_add_right _ _)).sm (hb.first.tm _ _),(ha.last.mono (Nat.le_add_right _ _)).sm (hb.last.tm _ _)⟩
theorem prt_ok : ∀ c : Co,PrtOK (prtC c)
 | .nil => ⟨⟨Int.le_refl _,by unfold prtC top;simp⟩,noneW_ok _,noneW_ok _⟩
 | .node k s z a b => by
  have ha := prt_ok a;have hb := prt_ok b;have t1 : (1 : Int) <= top /\ (0 : Int) <= top := by unfold top;omega
  rw [prtC]
  split
  ·exact ⟨⟨Int.le_refl _,t1.2⟩,unitW_ok,unitW_ok⟩
  ·split
   ·exact ha.cat hb
   ·split
    ·exact ha.alt hb
    ·split
     ·exact ⟨⟨Int.zero_le_ofNat 1,t1.1⟩,ha.first,ha.last⟩
     ·exact ⟨⟨Int.zero_le_ofNat 1,t1.1⟩,noneW_ok _,noneW_ok _⟩
def folC : Co -> Wts -> Nat -> List (W4 × Wts)
 | .nil,_,_ => []
 | .node k s _ a b,f,o =>
  if k = 1 then [(s,f)]
  else if k = 2 then folC a (smW (tmW f (prtC b).void 0) (tmW (prtC b).first 1 (o + (prtC a).places))) o ++ folC b f (o + (prtC a).places)
  else if k = 3 then folC a f o ++ folC b f (o + (prtC a).places)
  else if k = 4 then folC a (smW f (tmW (prtC a).first 1 o)) o
  else []
theorem fol_len : ∀ (c : Co) (f : Wts) (o : Nat),(folC c f o).length = (prtC c).places
 | .nil,_,_ => rfl
 | .node k s z a b,f,o => by
  have ha := fun f o => fol_len a f o
  have hb := fun f o => fol_len b f o
  rw [folC,prtC]
  split
  ·rfl
  ·split
   ·rw [List.length_append,ha,hb];rfl
   ·split
    ·rw [List.length_append,ha,hb];rfl
    ·split
     ·exact ha _ _
     ·rfl
theorem fol_ok : ∀ (c : Co) (f : Wts) (o n : Nat),WtOK n f -> o + (prtC c).places <= n -> ∀ x ∈ folC c f o,WtOK n x.2
 | .nil,_,_,_,_,_,x,h => by cases h
 | .node k s z a b,f,o,n,hf,hn,x,h => by
  have ha := fun f hf hn x h => fol_ok a f o n hf hn x h
  have hb := fun hn x h => fol_ok b f (o + (prtC a).places) n hf hn x h
  rw [folC] at h;rw [prtC] at hn
  by_cases h1 : k = 1
  ·rw [if_pos h1] at h;rw [List.mem_singleton.1 h];exact hf
  ·rw [if_neg h1] at h hn
   by_cases h2 : k = 2
   ·rw [if_pos h2] at h hn;have hn : o + ((prtC a).places + (prtC b).places) <= n := hn
    rcases List.mem_append.1 h with h | h
    ·exact ha _ (((hf.tm _ 0).mono (by omega)).sm (((prt_ok b).first.tm _ _).mono (by omega))) (by omega) x h
    ·exact hb (by omega) x h
   ·rw [if_neg h2] at h hn
    by_cases h3 : k = 3
    ·rw [if_pos h3] at h hn;have hn : o + ((prtC a).places + (prtC b).places) <= n := hn
     rcases List.mem_append.1 h with h | h
     ·exact ha _ hf (by omega) x h
     ·exact hb (by omega) x h
    ·rw [if_neg h3] at h hn
     by_cases h4 : k = 4
     ·rw [if_pos h4] at h hn;have hn : o + (prtC a).places <= n := hn;exact ha _ (hf.sm (((prt_ok a).first.tm _ _).mono (by omega))) (by omega) x h
     ·rw [if_neg h4] at h
      cases h
end
end
end Go.Proofs.YtnmalggmbeipaaaGreatDoor
namespace Go.Proofs.YtnmalggmbeipaaaGreatDoor
section
section
open Go Go.RowKit
inductive PC where
 | nil : PC
 | node (q : Nat) (k : Int) (s : W4) (z : Bool) (a b : PC) : PC
def PC.co : PC -> Co
 | .nil => .nil
 | .node _ k s z a b => .node k s z a.co b.co
def PC.ptr : PC -> Option Nat
 | .nil => none
 | .node q _ _ _ _ _ => some q
def PC.sz : PC -> Nat
 | .nil => 0
 | .node _ _ _ _ a b => 1 + a.sz + b.sz
def PC.inn : PC -> List PC
 | .nil => []
 | .node _ k _ _ a b => if k = 2 \/ k = 3 then [a,b] else if k = 4 then [a] else []
theorem PC.inn_cases {q : Nat} {k : Int} {s : W4} {z : Bool} {a b y : PC} (h : y ∈ (PC.node q k s z a b).inn) : ((k = 2 \/ k = 3) /\ (y = a \/ y = b)) \/ (¬ (k = 2 \/ k = 3) /\ k = 4 /\ y = a) := by
 have h : y ∈ (if k = 2 \/ k = 3 then [a,b] else if k = 4 then [a] else []) := h
 by_cases c1 : k = 2 \/ k = 3
 ·rw [if_pos c1] at h;exact .inl ⟨c1,by simpa using h⟩
 ·rw [if_neg c1] at h
  by_cases c2 : k = 4
  ·rw [if_pos c2] at h;exact .inr ⟨c1,c2,by simpa using h⟩
  ·rw [if_neg c2] at h
   cases h
theorem PC.inn_sz {x y : PC} (h : y ∈ x.inn) : y.sz < x.sz := by
 cases x with
 | nil => cases h
 | node q k s z a b =>
  have e : (PC.node q k s z a b).sz = 1 + a.sz + b.sz := rfl
  rcases PC.inn_cases h with ⟨_,rfl | rfl⟩ | ⟨_,_,rfl⟩ <;> omega
def PC.nd (dn : Nat -> Bool) : PC -> Nat
 | .nil => 0
 | .node q k _ _ a b => if dn q then 0 else 1 + (if k = 2 \/ k = 3 then a.nd dn + b.nd dn else if k = 4 then a.nd dn else 0)
theorem PC.nd_sz (dn : Nat -> Bool) : ∀ x : PC,x.nd dn <= x.sz
 | .nil => jN _
 | .node q k s z a b => by
  have ha := PC.nd_sz dn a;have hb := PC.nd_sz dn b;rw [PC.nd,PC.sz]
  split
  ·omega
  ·split
   ·omega
   ·split <;> omega
theorem PC.nd_mono {dn dn' : Nat -> Bool} (h : ∀ q,dn q = true -> dn' q = true) : ∀ x : PC,x.nd dn' <= x.nd dn
 | .nil => jN _
 | .node q k s z a b => by
  have ha := PC.nd_mono h a;have hb := PC.nd_mono h b;rw [PC.nd,PC.nd]
  by_cases h1 : dn q = true
  ·rw [if_pos (h q h1),if_pos h1];exact jN _
  ·rw [if_neg h1]
   split
   ·exact Nat.zero_le _
   ·split
    ·omega
    ·split <;> omega
theorem PC.nd_inn {dn : Nat -> Bool} {x y : PC} {q : Nat} (hq : x.ptr = some q) (hd : dn q = false) (h : y ∈ x.inn) : 1 + y.nd dn <= x.nd dn := by
 cases x with
 | nil => cases h
 | node q' k s z a b =>
  obtain rfl : q' = q := by simpa [PC.ptr] using hq
  rw [PC.nd,if_neg (by rw [hd];decide)]
  rcases PC.inn_cases h with ⟨c,rfl | rfl⟩ | ⟨c,c2,rfl⟩
  ·rw [if_pos c];omega
  ·rw [if_pos c];omega
  ·rw [if_neg c,if_pos c2];omega
theorem PC.nd_less {dn dn' : Nat -> Bool} (hm : ∀ q,dn q = true -> dn' q = true) {x y : PC} {q : Nat} (hq : x.ptr = some q) (hd : dn q = false) (h : y ∈ x.inn) (hy : y.nd dn' < y.nd dn) : x.nd dn' < x.nd dn := by
 have h1 := PC.nd_inn hq hd h
 cases x with
 | nil => cases h
 | node q' k s z a b =>
  obtain rfl : q' = q := by simpa [PC.ptr] using hq
  have ma := PC.nd_mono hm a;have mb := PC.nd_mono hm b
  by_cases h2 : dn' q' = true
  ·have e : (PC.node q' k s z a b).nd dn' = 0 := by rw [PC.nd,if_pos h2]
   omega
  ·have e1 : (PC.node q' k s z a b).nd dn' = 1 + (if k = 2 \/ k = 3 then a.nd dn' + b.nd dn' else if k = 4 then a.nd dn' else 0) := by rw [PC.nd,if_neg h2]
   have e2 : (PC.node q' k s z a b).nd dn = 1 + (if k = 2 \/ k = 3 then a.nd dn + b.nd dn else if k = 4 then a.nd dn else 0) := by rw [PC.nd,if_neg (by rw [hd];decide)]
   rw [e1,e2]
   rcases PC.inn_cases h with ⟨c,rfl | rfl⟩ | ⟨c,c2,rfl⟩
   ·rw [if_pos c,if_pos c];omega
   ·rw [if_pos c,if_pos c];omega
   ·rw [if_neg c,if_neg c,if_pos c2,if_pos c2];omega
def IsPath (dn : Nat -> Bool) : PC -> List PC -> Prop
 | _,[] => True
 | x,y :: r => y ∈ x.inn /\ (∃ q,y.ptr = some q /\ dn q = false) /\ IsPath dn y r
theorem path_nd {dn : Nat -> Bool} : ∀ (r : List PC) (x : PC),(∃ q,x.ptr = some q /\ dn q = false) -> IsPath dn x r -> 1 + r.length <= x.nd dn
 | [],x,⟨q,hq,hd⟩,_ => by
  cases x with
  | nil => cases hq
  | node q' k s z a b =>
   obtain rfl : q' = q := by simpa [PC.ptr] using hq
   rw [PC.nd,if_neg (by rw [hd];decide)];simp
 | y :: r,x,⟨q,hq,hd⟩,⟨h1,h2,h3⟩ => by
  have := path_nd r y h2 h3;have := PC.nd_inn hq hd h1;simp only [List.length_cons];omega
theorem path_less {dn dn' : Nat -> Bool} (hm : ∀ q,dn q = true -> dn' q = true) : ∀ (r : List PC) (x l : PC) (ql : Nat),(∃ q,x.ptr = some q /\ dn q = false) -> IsPath dn x r -> (x :: r).getLast (by simp) = l -> l.ptr = some ql -> dn' ql = true -> x.nd dn' < x.nd dn
 | [],x,l,ql,hx,_,hl,hq,hd => by
  obtain rfl : x = l := by simpa using hl
  have h0 := path_nd (dn := dn) [] x hx trivial
  cases x with
  | nil => cases hq
  | node q' k s z a b =>
   obtain rfl : q' = ql := by simpa [PC.ptr] using hq
   have e : (PC.node q' k s z a b).nd dn' = 0 := by rw [PC.nd,if_pos hd]
   simp only [List.length_nil] at h0;omega
 | y :: r,x,l,ql,⟨q,hq,hd⟩,⟨h1,h2,h3⟩,hl,hql,hd' =>
  PC.nd_less hm hq hd h1 (path_less hm r y l ql h2 h3 (by rw [List.getLast_cons (by simp)] at hl;exact hl) hql hd')
end
end
end Go.Proofs.YtnmalggmbeipaaaGreatDoor
namespace Go.Proofs.YtnmalggmbeipaaaGreatDoor
section
section
open Go Go.RowKit
def PCAt (w : World) : PC -> Prop
 | .nil => True
 | .node q k s z a b => w.heap[q]? = some (coOb k s z (kPtr a.ptr) (kPtr b.ptr)) /\ PCAt w a /\ PCAt w b
theorem CoAt.pc {w : World} {c : Co} {v : Value} (h : CoAt w c v) : ∃ x : PC,x.co = c /\ v = kPtr x.ptr /\ PCAt w x := by
 induction h with
 | nil => exact ⟨.nil,rfl,rfl,trivial⟩
 | node k s z a b q va vb hb ha hc iha ihc =>
  obtain ⟨x,h1,rfl,h3⟩ := iha;obtain ⟨y,g1,rfl,g3⟩ := ihc;exact ⟨.node q k s z x y,by rw [PC.co,h1,g1],rfl,hb,h3,g3⟩
theorem PCAt.co {w : World} : ∀ {x : PC},PCAt w x -> CoAt w x.co (kPtr x.ptr)
 | .nil,_ => .nil
 | .node q k s z a b,h => .node k s z a.co b.co q _ _ h.1 h.2.1.co h.2.2.co
theorem kPtr_inj {p q : Option Nat} (h : kPtr p = kPtr q) : p = q := by
 cases p <;> cases q
 ·rfl
 ·simp [kPtr] at h
 ·simp [kPtr] at h
 ·simp [kPtr] at h;rw [h]
theorem PCAt.uniq {w : World} : ∀ {x y : PC},PCAt w x -> PCAt w y -> x.ptr = y.ptr -> x = y
 | .nil,.nil,_,_,_ => rfl
 | .nil,.node ..,_,_,h => by cases h
 | .node ..,.nil,_,_,h => by cases h
 | .node q k s z a b,.node q' k' s' z' a' b',h,h',e => by
  obtain rfl : q = q' := by simpa [PC.ptr] using e
  have e := h.1.symm.trans h'.1;injection e with e;injection e with e _;have e : ([.int .i64 k,.int .u64 s.a,.int .u64 s.b,.int .u64 s.c,.int .u64 s.d,.bool z,kPtr a.ptr,kPtr b.ptr] : List Value) = [.int .i64 k',.int .u64 s'.a,.int .u64 s'.b,.int .u64 s'.c,.int .u64 s'.d,.bool z',kPtr a'.ptr,kPtr b'.ptr] := congrArg Array.toList e;simp only [List.cons.injEq,Value.int.injEq,Value.bool.injEq,true_and,and_true] at e;obtain ⟨rfl,e1,e2,e3,e4,rfl,e5,e6⟩ := e;obtain ⟨sa,sb,sc,sd⟩ := s;obtain ⟨sa',sb',sc',sd'⟩ := s';simp only at e1 e2 e3 e4;subst e1 e2 e3 e4;rw [h.2.1.uniq h'.2.1 (kPtr_inj e5),h.2.2.uniq h'.2.2 (kPtr_inj e6)]
theorem PCAt.up {w w' : World} (hb : Below w.heap.size w w') : ∀ {x : PC},PCAt w x -> PCAt w' x
 | .nil,_ => trivial
 | .node _ _ _ _ _ _,h => ⟨below_kept hb h.1,h.2.1.up hb,h.2.2.up hb⟩
theorem PCAt.isK {w : World} {x : PC} (h : PCAt w x) : IsK w x.ptr := by
 intro a e
 cases x with
 | nil => cases e
 | node q k s z c d =>
  obtain rfl : q = a := by simpa [PC.ptr] using e
  exact ⟨_,_,h.1⟩
theorem PCAt.inn {w : World} {x y : PC} (h : PCAt w x) (hy : y ∈ x.inn) : PCAt w y := by
 cases x with
 | nil => cases hy
 | node q k s z a b =>
  rcases PC.inn_cases hy with ⟨_,rfl | rfl⟩ | ⟨_,_,rfl⟩
  ·exact h.2.1
  ·exact h.2.2
  ·exact h.2.1
end
end
end Go.Proofs.YtnmalggmbeipaaaGreatDoor
namespace Go.Proofs.YtnmalggmbeipaaaGreatDoor
section
section
open Go Go.RowKit
attribute [local go_sem ↓] Go.wp_at_zero Go.wp_at_succ
attribute [local go_sem] eq4
def vlook (D : List (Option Nat × Value)) (q : Option Nat) (i : Nat) : Option (Nat × Value) := match D with
 | [] => none
 | p :: D => if q = p.1 then some (i,p.2) else vlook D q (i + 1)
def VEnt (es : List MapEntry) (D : List (Option Nat × Value)) : Prop := es.map (fun e => (e.key,e.val)) = D.map fun p => (kPtr p.1,p.2)
theorem vfind_ptr (q : Option Nat) (w : World) (hq0 : IsK w q) : ∀ (es : List MapEntry) (D : List (Option Nat × Value)) (i : Nat),(∀ p ∈ D,IsK w p.1) -> VEnt es D -> (Instr.findAsking 23 (kPtr q) es i).run Tryz.prog w = .ok (vlook D q i) w
 | [],[],i,_,_ => by simp [Instr.findAsking,vlook]
 | [],p :: D,i,_,h => by simp [VEnt] at h
 | e :: es,[],i,_,h => by simp [VEnt] at h
 | e :: es,p :: D,i,hD,h => by
  simp only [VEnt,List.map_cons,List.cons.injEq,Prod.mk.injEq] at h;obtain ⟨⟨h1,h2⟩,h3⟩ := h;have ih := vfind_ptr q w hq0 es D (i + 1) (fun p hp => hD p (List.mem_cons_of_mem _ hp)) h3;rw [Instr.findAsking,vlook];simp only [Sem.run_bind,h1,keq_ptr q p.1 w hq0 (hD p (List.mem_cons_self ..)),Result.andThen_ok]
  by_cases hq : q = p.1
  ·simp [hq,h2]
  ·have hb : (q == p.1) = false := by simpa using hq
   simp only [hb,hq,if_false];exact ih
theorem vfindNow_ptr (q : Option Nat) : ∀ (es : List MapEntry) (D : List (Option Nat × Value)) (i : Nat),VEnt es D -> D ≠ [] -> ∀ d,Tryz.prog.underlying 23 = some d -> Instr.findNow d (kPtr q) es i = none
 | [],[],_,_,h,_,_ => absurd rfl h
 | [],p :: D,_,h,_,_,_ => by simp [VEnt] at h
 | e :: es,[],_,h,_,_,_ => by simp [VEnt] at h
 | e :: es,p :: D,i,h,_,d,hd => by
  simp only [VEnt,List.map_cons,List.cons.injEq,Prod.mk.injEq] at h;have hd' := Tryz.underlying23;rw [hd] at hd';obtain rfl := Option.some.inj hd';rw [Instr.findNow,h.1.1];rfl
theorem vfindKey_ptr (q : Option Nat) (w : World) (es : List MapEntry) (D : List (Option Nat × Value)) (hq0 : IsK w q) (hD : ∀ p ∈ D,IsK w p.1) (h : VEnt es D) : (Instr.findKey 23 (kPtr q) es).run Tryz.prog w = .ok (vlook D q 0) w := by
 unfold Instr.findKey;simp only [Sem.run_bind,run_underlying Tryz.underlying23,Result.andThen_ok]
 cases D with
 | nil =>
  have he : es = [] := by simpa [VEnt] using h
  subst he;simp [Instr.findNow,vlook]
 | cons p D =>
  rw [vfindNow_ptr q es (p :: D) 0 h (by simp) _ Tryz.underlying23];exact vfind_ptr q w hq0 es (p :: D) 0 hD h
def VMap (w : World) (b : Nat) (D : List (Option Nat × Value)) : Prop := ∃ es clock,w.heap[b]? = some (.map es clock) /\ VEnt es.toList D
def vgot : List (Option Nat × Value) -> Option Nat -> Option Value
 | [],_ => none
 | p :: D,q => if q = p.1 then some p.2 else vgot D q
def vput : List (Option Nat × Value) -> Option Nat -> Value -> List (Option Nat × Value)
 | [],q,v => [(q,v)]
 | p :: D,q,v => if q = p.1 then (q,v) :: D else p :: vput D q v
theorem vgot_put (D : List (Option Nat × Value)) (q q' : Option Nat) (v : Value) : vgot (vput D q v) q' = if q' = q then some v else vgot D q' := by
 induction D with
 | nil =>
  by_cases h : q' = q <;> simp [vput,vgot,h]
 | cons p D ih =>
  rw [vput]
  by_cases h : q = p.1
  ·rw [if_pos h,vgot,vgot]
   by_cases h2 : q' = q
   ·rw [if_pos h2,if_pos h2]
   ·rw [if_neg h2,if_neg h2,if_neg (by rw [<- h];exact h2)]
  ·rw [if_neg h,vgot,vgot]
   by_cases h2 : q' = p.1
   ·rw [if_pos h2,if_pos h2,if_neg (by rw [h2];exact fun e => h e.symm)]
   ·rw [if_neg h2,if_neg h2];exact ih
theorem vput_keys (D : List (Option Nat × Value)) (q : Option Nat) (v : Value) : ∀ p ∈ vput D q v,p.1 = q \/ ∃ p' ∈ D,p'.1 = p.1 := by
 induction D with
 | nil => intro p hp;rw [vput,List.mem_singleton] at hp;subst hp;exact .inl rfl
 | cons d D ih =>
  intro p hp;rw [vput] at hp
  by_cases h : q = d.1
  ·rw [if_pos h] at hp
   rcases List.mem_cons.1 hp with rfl | hp
   ·exact .inl rfl
   ·exact .inr ⟨p,List.mem_cons_of_mem _ hp,rfl⟩
  ·rw [if_neg h] at hp
   rcases List.mem_cons.1 hp with rfl | hp
   ·exact .inr ⟨p,List.mem_cons_self ..,rfl⟩
   ·rcases ih p hp with e | ⟨p',h1,h2⟩
    ·exact .inl e
    ·exact .inr ⟨p',List.mem_cons_of_mem _ h1,h2⟩
theorem vlook_got (D : List (Option Nat × Value)) (q : Option Nat) : ∀ i,(vgot D q = none /\ vlook D q i = none) \/ ∃ j v,vgot D q = some v /\ vlook D q i = some (j,v) := by
 induction D with
 | nil => exact fun i => .inl ⟨rfl,rfl⟩
 | cons p D ih =>
  intro i;rw [vgot,vlook]
  by_cases h : q = p.1
  ·rw [if_pos h,if_pos h];exact .inr ⟨i,p.2,rfl,rfl⟩
  ·rw [if_neg h,if_neg h];exact ih (i + 1)
theorem vlookup_ok {w : World} {b : Nat} {q : Option Nat} {D : List (Option Nat × Value)} {Z : Value} (h : VMap w b D) (hq : IsK w q) (hD : ∀ p ∈ D,IsK w p.1) (hz : (zeroValue 196).run Tryz.prog w = .ok Z w) :
  (Instr.lookup 287 (.map (some b)) (kPtr q) true).run Tryz.prog w = .ok (.tuple #[(vgot D q).getD Z,.bool (vgot D q).isSome]) w := by
 obtain ⟨es,clock,hb,he⟩ := h;have hf := vfindKey_ptr q w es.toList D hq hD he;unfold Instr.lookup;simp only [Sem.run_bind,run_underlying Tryz.underlying287,Result.andThen_ok,Sem.run_pure,MapKept.run_getObj_map hb,kcheckKey_ptr,hf]
 rcases vlook_got D q 0 with ⟨h1,h2⟩ | ⟨j,v,h1,h2⟩
 ·rw [h1,h2];simp [hz]
 ·rw [h1,h2];simp
theorem vlookup_at {w : World} {b : Nat} {q : Option Nat} {D : List (Option Nat × Value)} {Z : Value} (h : VMap w b D) (hq : IsK w q) (hD : ∀ p ∈ D,IsK w p.1) (hz : (zeroValue 196).run Tryz.prog w = .ok Z w) :
  (Instr.lookup 287 (.map (some b)) (kPtr q) false).run Tryz.prog w = .ok ((vgot D q).getD Z) w := by
 obtain ⟨es,clock,hb,he⟩ := h;have hf := vfindKey_ptr q w es.toList D hq hD he;unfold Instr.lookup;simp only [Sem.run_bind,run_underlying Tryz.underlying287,Result.andThen_ok,Sem.run_pure,MapKept.run_getObj_map hb,kcheckKey_ptr,hf]
 rcases vlook_got D q 0 with ⟨h1,h2⟩ | ⟨j,v,h1,h2⟩
 ·rw [h1,h2];simp [hz]
 ·rw [h1,h2];simp
theorem vput_none {D : List (Option Nat × Value)} {q : Option Nat} {i : Nat} {v : Value} (h : vlook D q i = none) : vput D q v = D ++ [(q,v)] := by
 induction D generalizing i with
 | nil => rfl
 | cons p D ih =>
  rw [vlook] at h
  by_cases hq : q = p.1
  ·rw [if_pos hq] at h;cases h
  ·rw [if_neg hq] at h;rw [vput,if_neg hq,ih h];rfl
theorem vput_some {D : List (Option Nat × Value)} {q : Option Nat} {v : Value} : ∀ {i j : Nat} {x : Value},vlook D q i = some (j,x) -> ∃ k,j = i + k /\ ∀ es : List MapEntry,VEnt es D -> (∃ e,es[k]? = some e /\ e.key = kPtr q) /\ VEnt (es.modify k fun e => { e with key := kPtr q,val := v }) (vput D q v) := by
 induction D with
 | nil => intro i j x h;simp [vlook] at h
 | cons p D ih =>
  intro i j x h;rw [vlook] at h
  by_cases hq : q = p.1
  ·rw [if_pos hq] at h;injection h with h;injection h with h1 h2;subst h1;refine ⟨0,rfl,fun es he => ?_⟩
   cases es with
   | nil => simp [VEnt] at he
   | cons e es =>
    simp only [VEnt,List.map_cons,List.cons.injEq,Prod.mk.injEq] at he;refine ⟨⟨e,rfl,by rw [he.1.1,hq]⟩,?_⟩;rw [vput,if_pos hq];simp only [VEnt,List.modify_zero_cons,List.map_cons,List.cons.injEq,true_and];exact he.2
  ·rw [if_neg hq] at h;obtain ⟨k,hk,hes⟩ := ih h;refine ⟨k + 1,by omega,fun es he => ?_⟩
   cases es with
   | nil => simp [VEnt] at he
   | cons e es =>
    simp only [VEnt,List.map_cons,List.cons.injEq,Prod.mk.injEq] at he;obtain ⟨⟨e',h1,h2⟩,h3⟩ := hes es he.2;refine ⟨⟨e',by simpa using h1,h2⟩,?_⟩;rw [vput,if_neg hq];simp only [VEnt,List.modify_succ_cons,List.map_cons,List.cons.injEq,Prod.mk.injEq];exact ⟨he.1,h3⟩
theorem vupdate_ptr {w : World} {b : Nat} {q : Option Nat} {D : List (Option Nat × Value)} (v : Value) (h : VMap w b D) (hq : IsK w q) (hD : ∀ p ∈ D,IsK w p.1) :
  ∃ w',(Instr.mapUpdate 287 (.map (some b)) (kPtr q) v).run Tryz.prog w = .ok () w' /\ VMap w' b (vput D q v) /\ w.grownBy w' (some b) := by
 obtain ⟨es,clock,hb,he⟩ := h;have hlt := jS hb;have hf := vfindKey_ptr q w es.toList D hq hD he
 have grown : ∀ o,w.grownBy { w with heap := w.heap.setIfInBounds b o } (some b) := fun o =>
  ⟨rfl,rfl,rfl,by simp,fun k hk hne => by
   show (w.heap.setIfInBounds b o)[k]? = w.heap[k]?
   rw [Array.getElem?_setIfInBounds_ne (fun e => hne (by rw [e]))]⟩
 have got : ∀ o,({ w with heap := w.heap.setIfInBounds b o } : World).heap[b]? = some o := fun o => by
  show (w.heap.setIfInBounds b o)[b]? = some o
  simp [hlt]
 unfold Instr.mapUpdate;simp only [Sem.run_bind,run_underlying Tryz.underlying287,Result.andThen_ok,MapKept.run_getObj_map hb,kcheckKey_ptr,hf]
 rcases vlook_got D q 0 with ⟨_,h2⟩ | ⟨j,x,_,h2⟩
 ·rw [h2];simp only [MapKept.run_setObj_map _ hb];refine ⟨_,rfl,⟨_,_,got _,?_⟩,grown _⟩;rw [vput_none h2];simp only [VEnt,Array.toList_push,List.map_append,List.map_cons,List.map_nil];rw [show es.toList.map (fun e => (e.key,e.val)) = _ from he]
 ·rw [h2];obtain ⟨k,hk,hes⟩ := vput_some (v := v) h2;obtain rfl : j = k := by omega
  obtain ⟨⟨e,he1,he2⟩,he3⟩ := hes es.toList he
  have hek : ((es[j]?).map (·.key)).getD (kPtr q) = kPtr q := by
   rw [<- Array.getElem?_toList,he1];simp [he2]
  have hst : (Instr.keyThatStays (kPtr q) (kPtr q)).run Tryz.prog w = .ok (kPtr q) w := by
   simp [Instr.keyThatStays,Instr.sameBits]
  simp only [Sem.run_bind,hek,hst,Result.andThen_ok,MapKept.run_setObj_map _ hb];refine ⟨_,rfl,⟨_,_,got _,?_⟩,grown _⟩;rw [Array.toList_modify];exact he3
end
end
end Go.Proofs.YtnmalggmbeipaaaGreatDoor
namespace Go.Proofs.YtnmalggmbeipaaaGreatDoor
section
section
open Go Go.RowKit
def PrtAt (w : World) (v : Value) (a : Prt) : Prop := ∃ mf ml,v = .agg #[.int .i64 (a.places : Int),.int .i64 a.void,.map mf,.map ml] /\ WtAt w (.map mf) a.first /\ WtAt w (.map ml) a.last
theorem PrtAt.up {w w' : World} {v : Value} {a : Prt} (h : PrtAt w v a) (hb : Below w.heap.size w w') : PrtAt w' v a := by
 obtain ⟨vf,vl,h1,h2,h3⟩ := h;exact ⟨vf,vl,h1,h2.up hb,h3.up hb⟩
abbrev openV : Value := .agg #[.int .i64 (-1),.int .i64 0,.map none,.map none]
abbrev zeroV : Value := .agg #[.int .i64 0,.int .i64 0,.map none,.map none]
end
end
end Go.Proofs.YtnmalggmbeipaaaGreatDoor
namespace Go.Proofs.YtnmalggmbeipaaaGreatDoor
section
section
open Go Go.RowKit
def lastP : PC -> List PC -> PC
 | x,[] => x
 | _,y :: r => lastP y r
theorem lastP_get : ∀ (r : List PC) (x : PC),(x :: r).getLast (by simp) = lastP x r
 | [],_ => rfl
 | z :: r,x => by rw [List.getLast_cons (by simp)];exact lastP_get r z
theorem lastP_mem : ∀ (r : List PC) (x : PC),lastP x r ∈ x :: r
 | [],_ => List.mem_singleton.2 rfl
 | z :: r,_ => List.mem_cons_of_mem _ (lastP_mem r z)
theorem IsPath.snoc {dn : Nat -> Bool} : ∀ (r : List PC) (x y : PC),IsPath dn x r -> y ∈ (lastP x r).inn -> (∃ q,y.ptr = some q /\ dn q = false) -> IsPath dn x (r ++ [y])
 | [],_,_,_,h,hd => ⟨h,hd,trivial⟩
 | z :: r,_,y,⟨h1,h2,h3⟩,h,hd => ⟨h1,h2,IsPath.snoc r z y h3 h hd⟩
theorem IsPath.pop {dn dn' : Nat -> Bool} : ∀ (r : List PC) (x l : PC),IsPath dn x (r ++ [l]) -> (∀ y ∈ r,∀ q,y.ptr = some q -> dn' q = false) -> IsPath dn' x r
 | [],_,_,_,_ => trivial
 | z :: r,_,l,⟨h1,⟨q,hq,_⟩,h3⟩,hd => ⟨h1,⟨q,hq,hd z (List.mem_cons_self ..) q hq⟩,IsPath.pop r z l h3 (fun y hy => hd y (List.mem_cons_of_mem _ hy))⟩
theorem path_gt {dn : Nat -> Bool} : ∀ (r : List PC) (x l : PC),IsPath dn x (r ++ [l]) -> ∀ y ∈ x :: r,l.sz < y.sz
 | [],x,l,⟨h1,_⟩,y,hy => by rw [List.mem_singleton.1 hy];exact PC.inn_sz h1
 | z :: r,x,l,⟨h1,_,h3⟩,y,hy => by
  rcases List.mem_cons.1 hy with rfl | hy
  ·exact Nat.lt_trans (path_gt r z l h3 z (List.mem_cons_self ..)) (PC.inn_sz h1)
  ·exact path_gt r z l h3 y hy
theorem path_ge {dn : Nat -> Bool} : ∀ (r : List PC) (x : PC),IsPath dn x r -> ∀ y ∈ x :: r,(lastP x r).sz <= y.sz
 | [],x,_,y,hy => by rw [List.mem_singleton.1 hy];exact jN _
 | z :: r,x,⟨h1,_,h3⟩,y,hy => by
  rcases List.mem_cons.1 hy with rfl | hy
  ·exact Nat.le_trans (path_ge r z h3 z (List.mem_cons_self ..)) (Nat.le_of_lt (PC.inn_sz h1))
  ·exact path_ge r z h3 y hy
theorem inn_places {x y : PC} (h : y ∈ x.inn) : (prtC y.co).places <= (prtC x.co).places := by
 cases x with
 | nil => cases h
 | node q k s z a b =>
  show _ <= (prtC (.node k s z a.co b.co)).places
  rw [prtC]
  rcases PC.inn_cases h with ⟨c,e⟩ | ⟨c,c2,rfl⟩
  ·have h1 : k ≠ 1 := by omega
   rw [if_neg h1]
   by_cases h2 : k = 2
   ·rw [if_pos h2]
    rcases e with rfl | rfl
    ·exact Nat.le_add_right _ _
    ·exact Nat.le_add_left _ _
   ·rw [if_neg h2,if_pos (by omega)]
    rcases e with rfl | rfl
    ·exact Nat.le_add_right _ _
    ·exact Nat.le_add_left _ _
  ·rw [if_neg (by omega),if_neg (by omega),if_neg (by omega),if_pos c2];exact jN _
theorem path_places {dn : Nat -> Bool} : ∀ (r : List PC) (x : PC),IsPath dn x r -> (prtC (lastP x r).co).places <= (prtC x.co).places
 | [],_,_ => jN _
 | z :: r,_,⟨h1,_,h3⟩ => Nat.le_trans (path_places r z h3) (inn_places h1)
theorem path_at {w : World} {dn : Nat -> Bool} : ∀ (r : List PC) (x : PC),PCAt w x -> IsPath dn x r -> ∀ y ∈ x :: r,PCAt w y
 | [],x,hx,_,y,hy => by rw [List.mem_singleton.1 hy];exact hx
 | z :: r,x,hx,⟨h1,_,h3⟩,y,hy => by
  rcases List.mem_cons.1 hy with rfl | hy
  ·exact hx
  ·exact path_at r z (hx.inn h1) h3 y hy
theorem inn_off {w : World} {dn : Nat -> Bool} {r : List PC} {x y z : PC} (hx : PCAt w x) (h : IsPath dn x r) (hy : y ∈ (lastP x r).inn) (hz : z ∈ x :: r) : y.ptr ≠ z.ptr := by
 intro e;have h1 := path_at r x hx h _ (lastP_mem r x);have h2 := (h1.inn hy).uniq (path_at r x hx h z hz) e;have h3 := PC.inn_sz hy;have h4 := path_ge r x h z hz;rw [h2] at h3;omega
end
end
end Go.Proofs.YtnmalggmbeipaaaGreatDoor
