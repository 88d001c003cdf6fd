/- A part of the proof. -/
import Derived.Test.YtnmalggmbeipaaaGreatDoorWeF
namespace Go.Proofs.YtnmalggmbeipaaaGreatDoor
section
open Go Go.RowKit
def runE : List (PC × Wts) -> Nat -> List (W4 × Wts)
 | [],_ => []
 | x :: r,o => folC x.1.co x.2 o ++ runE r (o + (prtC x.1.co).places)
def sumE : List (PC × Wts) -> Nat
 | [] => 0
 | x :: r => (prtC x.1.co).places + sumE r
def szE : List (PC × Wts) -> Nat
 | [] => 0
 | x :: r => x.1.sz + szE r
theorem runE_len : ∀ (l : List (PC × Wts)) (o : Nat),(runE l o).length = sumE l
 | [],_ => rfl
 | x :: r,o => by rw [runE,List.length_append,fol_len,runE_len r,sumE]
structure RunI (T out : List (W4 × Wts)) (l : List (PC × Wts)) : Prop where
 run : out ++ runE l out.length = T
theorem RunI.start (x : PC) : RunI (folC x.co noneW 0) [] [(x,noneW)] := ⟨by simp [runE]⟩
theorem RunI.done {T out : List (W4 × Wts)} (h : RunI T out []) : out = T := by
 have := h.run;simpa [runE] using this
theorem RunI.len {T out : List (W4 × Wts)} {l : List (PC × Wts)} (h : RunI T out l) : out.length + sumE l = T.length := by
 have := congrArg List.length h.run
 rwa [List.length_append,runE_len] at this
theorem RunI.none {T out : List (W4 × Wts)} {x : PC} {f : Wts} {r : List (PC × Wts)} (h : RunI T out ((x,f) :: r)) (h0 : (prtC x.co).places = 0) : RunI T out r := by
 have h1 : folC x.co f out.length = [] := List.eq_nil_of_length_eq_zero (by rw [fol_len,h0]);have := h.run;rw [runE] at this;simp only [h1,h0,List.nil_append,Nat.add_zero] at this;exact ⟨this⟩
theorem RunI.set {T out : List (W4 × Wts)} {q : Nat} {s : W4} {z : Bool} {a b : PC} {f : Wts} {r : List (PC × Wts)} (h : RunI T out ((.node q 1 s z a b,f) :: r)) : RunI T (out ++ [(s,f)]) r := by
 refine ⟨?_⟩;have := h.run;rw [runE] at this;have e1 : folC (PC.node q 1 s z a b).co f out.length = [(s,f)] := by rw [PC.co,folC,if_pos rfl]
 have e2 : (prtC (PC.node q 1 s z a b).co).places = 1 := by rw [PC.co,prtC,if_pos rfl]
 simp only [e1,e2] at this;rw [List.length_append,List.append_assoc];exact this
theorem RunI.cat {T out : List (W4 × Wts)} {q : Nat} {s : W4} {z : Bool} {a b : PC} {f : Wts} {r : List (PC × Wts)} (h : RunI T out ((.node q 2 s z a b,f) :: r)) : RunI T out ((a,smW (tmW f (prtC b.co).void 0) (tmW (prtC b.co).first 1 (out.length + (prtC a.co).places))) :: (b,f) :: r) := by
 refine ⟨?_⟩;have := h.run;rw [runE] at this;have e1 : folC (PC.node q 2 s z a b).co f out.length = folC a.co (smW (tmW f (prtC b.co).void 0) (tmW (prtC b.co).first 1 (out.length + (prtC a.co).places))) out.length ++ folC b.co f (out.length + (prtC a.co).places) := by rw [PC.co,folC,if_neg (by decide),if_pos rfl]
 have e2 : (prtC (PC.node q 2 s z a b).co).places = (prtC a.co).places + (prtC b.co).places := by rw [PC.co,prtC,if_neg (by decide),if_pos rfl];rfl
 simp only [e1,e2] at this;rw [runE,runE];simp only [List.append_assoc,Nat.add_assoc] at this ⊢;exact this
theorem RunI.alt {T out : List (W4 × Wts)} {q : Nat} {s : W4} {z : Bool} {a b : PC} {f : Wts} {r : List (PC × Wts)} (h : RunI T out ((.node q 3 s z a b,f) :: r)) : RunI T out ((a,f) :: (b,f) :: r) := by
 refine ⟨?_⟩;have := h.run;rw [runE] at this;have e1 : folC (PC.node q 3 s z a b).co f out.length = folC a.co f out.length ++ folC b.co f (out.length + (prtC a.co).places) := by rw [PC.co,folC,if_neg (by decide),if_neg (by decide),if_pos rfl]
 have e2 : (prtC (PC.node q 3 s z a b).co).places = (prtC a.co).places + (prtC b.co).places := by rw [PC.co,prtC,if_neg (by decide),if_neg (by decide),if_pos rfl];rfl
 simp only [e1,e2] at this;rw [runE,runE];simp only [List.append_assoc,Nat.add_assoc] at this ⊢;exact this
theorem RunI.star {T out : List (W4 × Wts)} {q : Nat} {s : W4} {z : Bool} {a b : PC} {f : Wts} {r : List (PC × Wts)} (h : RunI T out ((.node q 4 s z a b,f) :: r)) : RunI T out ((a,smW f (tmW (prtC a.co).first 1 out.length)) :: r) := by
 refine ⟨?_⟩;have := h.run;rw [runE] at this;have e1 : folC (PC.node q 4 s z a b).co f out.length = folC a.co (smW f (tmW (prtC a.co).first 1 out.length)) out.length := by rw [PC.co,folC,if_neg (by decide),if_neg (by decide),if_neg (by decide),if_pos rfl]
 have e2 : (prtC (PC.node q 4 s z a b).co).places = (prtC a.co).places := by rw [PC.co,prtC,if_neg (by decide),if_neg (by decide),if_neg (by decide),if_pos rfl]
 simp only [e1,e2] at this;rw [runE];exact this
theorem empty_places {q : Nat} {s : W4} {z : Bool} {a b : PC} {k : Int} (h0 : (prtC (PC.node q k s z a b).co).places ≠ 0) : k = 1 \/ k = 2 \/ k = 3 \/ k = 4 := by
 rw [PC.co,prtC] at h0
 by_cases h1 : k = 1
 ·exact .inl h1
 ·by_cases h2 : k = 2
  ·exact .inr (.inl h2)
  ·by_cases h3 : k = 3
   ·exact .inr (.inr (.inl h3))
   ·by_cases h4 : k = 4
    ·exact .inr (.inr (.inr h4))
    ·rw [if_neg h1,if_neg h2,if_neg h3,if_neg h4] at h0;exact absurd rfl h0
abbrev EntN := PC × Option Nat × Wts
def plV (e : EntN) : List Value := [kPtr e.1.ptr,.map e.2.1]
theorem plV_len (S : List EntN) : (S.flatMap plV).length = S.length * 2 := by
 induction S with
 | nil => rfl
 | cons s S ih => simp [plV,ih];omega
def setV (s : W4) : List Value := [.int .u64 s.a,.int .u64 s.b,.int .u64 s.c,.int .u64 s.d]
abbrev wgOb (p v : Int) (mf ml : Option Nat) (sv fv : Value) : Obj := .cells #[.int .i64 p,.int .i64 v,.map mf,.map ml,sv,fv] 199 (0,0)
structure NmAt (W1 wr : World) (wb : Nat) (p v : Int) (mf ml : Option Nat) (S : List EntN) (ss : List W4) (fs : List (Option Nat)) (lv sv fv : Value) : Prop where
 gr : W1.grownBy wr (some wb)
 me : wr.heap[wb]? = some (wgOb p v mf ml sv fv)
 row : wr.ownsRow W1.heap.size 325 2 lv S.length (S.flatMap plV)
 srow : wr.ownsRow W1.heap.size 29 4 sv ss.length (ss.flatMap setV)
 frow : wr.ownsRow W1.heap.size 194 1 fv fs.length (fs.map Value.map)
theorem owns_cells {w : World} {B : Nat} {e : TypeId} {sz : Nat} {v : Value} {n : Nat} {xs : List Value} {g : Nat} (h : w.ownsRow B e sz v n xs) (hg : v.ownBlock = some g) : ∃ c,w.heap[g]? = some (.cells c e (0,0)) := by
 rcases h.2 with ⟨rfl,_⟩ | ⟨g2,cap,cur,rfl,_,hh,_⟩
 ·cases hg
 ·rw [<- Option.some.inj hg];exact ⟨_,hh⟩
theorem rows_off {w : World} {B B' : Nat} {e e' : TypeId} {sz sz' : Nat} {v v' : Value} {n n' : Nat} {xs xs' : List Value} (h : w.ownsRow B e sz v n xs) (h' : w.ownsRow B' e' sz' v' n' xs') (hne : e ≠ e') : ∀ g,v.ownBlock = some g -> v'.ownBlock ≠ some g := fun g e1 e2 => by
 obtain ⟨c,h1⟩ := owns_cells h e1;obtain ⟨c',h2⟩ := owns_cells h' e2;rw [h1] at h2;injection h2 with h2;injection h2 with _ h2;exact hne h2
section
variable {W1 wr : World} {wb : Nat} {p v : Int} {mf ml : Option Nat} {S : List EntN} {ss : List W4} {fs : List (Option Nat)} {lv sv fv : Value}
theorem NmAt.below {w' : World} (h : NmAt W1 wr wb p v mf ml S ss fs lv sv fv) (hb : Below wr.heap.size wr w') : NmAt W1 w' wb p v mf ml S ss fs lv sv fv :=
 ⟨⟨hb.os.trans h.gr.os,hb.tape.trans h.gr.tape,hb.output.trans h.gr.output,Nat.le_trans h.gr.size hb.size,fun k hk hne => (hb.block k (Nat.lt_of_lt_of_le hk h.gr.size)).trans (h.gr.block k hk hne)⟩,below_kept hb h.me,
  ownsKeep h.row (grown_below none hb) (fun g _ e => by cases e),ownsKeep h.srow (grown_below none hb) (fun g _ e => by cases e),ownsKeep h.frow (grown_below none hb) (fun g _ e => by cases e)⟩
theorem NmAt.grew {X w' : World} {u : Value} (h : NmAt W1 wr wb p v mf ml S ss fs lv sv fv) (hb : Below wr.heap.size wr X) (hg : X.grownBy w' u.ownBlock) (hu : ∀ g,u.ownBlock = some g -> W1.heap.size <= g) (hwb : wb < W1.heap.size) : W1.grownBy w' (some wb) /\ w'.heap[wb]? = some (wgOb p v mf ml sv fv) := by
 have hne : ∀ k,k < W1.heap.size -> some k ≠ u.ownBlock := fun k hk e => by have := hu k e.symm;omega
 have hs := h.gr.size;have hs2 := hb.size;refine ⟨⟨hg.os.trans (hb.os.trans h.gr.os),hg.tape.trans (hb.tape.trans h.gr.tape),hg.output.trans (hb.output.trans h.gr.output),Nat.le_trans hs (Nat.le_trans hs2 hg.size),fun k hk hk2 => (hg.block k (by omega) (hne k hk)).trans ((hb.block k (by omega)).trans (h.gr.block k hk hk2))⟩,?_⟩;exact (hg.block wb (by omega) (hne wb hwb)).trans (below_kept hb h.me)
theorem setplace_ne : 325 ≠ 29 /\ 325 ≠ 194 /\ 29 ≠ 194 := by decide
theorem NmAt.push {X w' : World} {S' : List EntN} {lv' : Value} (h : NmAt W1 wr wb p v mf ml S ss fs lv sv fv) (hwb : wb < W1.heap.size) (hb : Below wr.heap.size wr X) (hg : X.grownBy w' lv.ownBlock) (ho : w'.ownsRow W1.heap.size 325 2 lv' S'.length (S'.flatMap plV)) : NmAt W1 w' wb p v mf ml S' ss fs lv' sv fv := by
 obtain ⟨h1,h2⟩ := h.grew hb hg (fun g e => (ownsLt h.row e).1) hwb;have hX := h.below hb;exact ⟨h1,h2,ho,ownsKeep hX.srow hg (fun g e e2 => rows_off hX.srow hX.row (fun e => setplace_ne.1 e.symm) g e e2),ownsKeep hX.frow hg (fun g e e2 => rows_off hX.frow hX.row (fun e => setplace_ne.2.1 e.symm) g e e2)⟩
theorem NmAt.last {x : EntN} (h : NmAt W1 wr wb p v mf ml (S ++ [x]) ss fs lv sv fv) :
  ∃ g cap,lv = .slice (some ⟨g,0,none⟩) (S.length + 1) cap /\ S.length + 1 <= cap /\ cap <= maxLen /\ wr.cell? ⟨g,S.length * 2,none⟩ = some (kPtr x.1.ptr) /\ wr.cell? ⟨g,S.length * 2 + 1,none⟩ = some (.map x.2.1) /\ NmAt W1 wr wb p v mf ml S ss fs (.slice (some ⟨g,0,none⟩) S.length cap) sv fv := by
 have hl : (S ++ [x]).length = S.length + 1 := by simp
 rcases h.row.2 with ⟨_,h0⟩ | ⟨g,cap,cur,rfl,hb,hh,hn,hm,hs,ht⟩
 ·rw [hl] at h0;omega
 ·rw [hl] at hn ht ⊢;have key : ∀ j u,((S ++ [x]).flatMap plV)[j]? = some u -> wr.cell? ((⟨g,0,none⟩ : Addr).add j) = some u := h.row.cells (g := g) rfl;have ha : ∀ j,(⟨g,0,none⟩ : Addr).add j = ⟨g,j,none⟩ := fun j => by unfold Addr.add;split <;> simp_all
  have k0 := key (S.length * 2) (kPtr x.1.ptr) (by rw [List.flatMap_append,List.getElem?_append_right (by rw [plV_len];omega),plV_len];simp [plV]);have k1 := key (S.length * 2 + 1) (.map x.2.1) (by rw [List.flatMap_append,List.getElem?_append_right (by rw [plV_len];omega),plV_len];simp [plV]);rw [ha] at k0 k1;refine ⟨g,cap,rfl,hn,hm,k0,k1,h.gr,h.me,⟨by rw [plV_len],.inr ⟨g,cap,cur,rfl,hb,hh,by omega,hm,hs,?_⟩⟩,h.srow,h.frow⟩;have : (cur.toList.take ((S.length + 1) * 2)).take (S.length * 2) = ((S ++ [x]).flatMap plV).take (S.length * 2) := by rw [ht]
  rw [List.take_take,Nat.min_eq_left (by omega)] at this;rw [this,List.flatMap_append,List.take_append_of_le_length (by rw [plV_len];omega),List.take_of_length_le (by rw [plV_len];omega)]
end
end
end Go.Proofs.YtnmalggmbeipaaaGreatDoor
