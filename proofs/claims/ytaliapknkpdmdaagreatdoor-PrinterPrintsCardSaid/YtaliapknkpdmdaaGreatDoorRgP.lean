/- A part of the proof. -/
import Derived.Test.YtaliapknkpdmdaaGreatDoorRgA
import Derived.Test.YtaliapknkpdmdaaGreatDoorPrQ
set_option maxRecDepth 100000
set_option maxHeartbeats 16000000
namespace Go.Proofs.YtaliapknkpdmdaaGreatDoor
section
open Go Go.RowKit
attribute [local go_sem ↓] Go.wp_at_zero Go.wp_at_succ
attribute [local go_sem] eq4
theorem RnAt.get {w : World} {A : Nat -> Prop} {k : Int} {s : W4} {lo hi : Int} {z : Bool} {a b : Nat} {l : List Tr} {v : Value} (h : RnAt w A (.mk k s lo hi z a b l) v) {i : Nat} {k' : Int} {s' : W4} {lo' hi' : Int} {z' : Bool} {a' b' : Nat} {l' : List Tr} (hu : l[i]? = some (.mk k' s' lo' hi' z' a' b' l')) :
  ∃ g cap lu,v = .slice (some ⟨g,0,none⟩) l.length cap /\ g < w.heap.size /\ RnAt w A (.mk k' s' lo' hi' z' a' b' l') lu /\ w.cell? ⟨g,i * 11,none⟩ = some (.int .i64 k') /\ (w.cell? ⟨g,i * 11 + 1,none⟩ = some (.int .u64 s'.a) /\ w.cell? ⟨g,i * 11 + 2,none⟩ = some (.int .u64 s'.b) /\ w.cell? ⟨g,i * 11 + 3,none⟩ = some (.int .u64 s'.c) /\ w.cell? ⟨g,i * 11 + 4,none⟩ = some (.int .u64 s'.d)) /\
   w.cell? ⟨g,i * 11 + 5,none⟩ = some (.int .i64 lo') /\ w.cell? ⟨g,i * 11 + 6,none⟩ = some (.int .i64 hi') /\ w.cell? ⟨g,i * 11 + 7,none⟩ = some (.bool z') /\ w.cell? ⟨g,i * 11 + 8,none⟩ = some lu /\ w.cell? ⟨g,i * 11 + 9,none⟩ = some (.int .i64 (a' : Int)) /\ w.cell? ⟨g,i * 11 + 10,none⟩ = some (.int .i64 (b' : Int)) := by
 cases h with
 | node k s lo hi z a b l p cap us hc ht =>
  obtain ⟨g,hp,_,hg,hcell⟩ := hc i _ hu;subst hp;exact ⟨g,cap,us i,rfl,hg,ht i _ hu,hcell 0 _ rfl,⟨hcell 1 _ rfl,hcell 2 _ rfl,hcell 3 _ rfl,hcell 4 _ rfl⟩,hcell 5 _ rfl,hcell 6 _ rfl,hcell 7 _ rfl,hcell 8 _ rfl,hcell 9 _ rfl,hcell 10 _ rfl⟩
theorem RnAt.slice_len {w : World} {A : Nat -> Prop} {k : Int} {s : W4} {lo hi : Int} {z : Bool} {a b : Nat} {l : List Tr} {v : Value} (h : RnAt w A (.mk k s lo hi z a b l) v) : ∃ p cap,v = .slice p l.length cap := by
 cases h with
 | node k s lo hi z a b l p cap us hc ht => exact ⟨p,cap,rfl⟩
theorem joinP_take (sep : List Nat) : ∀ (ps : List (List Nat)) (i : Nat),(joinP sep (ps.take i)).length <= (joinP sep ps).length
 | [],i => by simp
 | p :: r,0 => by simp [joinP]
 | p :: r,i + 1 => by
  simp only [List.take_succ_cons,joinP,List.length_append]
  have key : ∀ (r : List (List Nat)) (n : Nat),((r.take n).flatMap fun x => sep ++ x).length <= (r.flatMap fun x => sep ++ x).length := by
   intro r
   induction r with
   | nil => intro n;simp
   | cons a r ih =>
    intro n
    cases n with
    | zero => simp
    | succ n =>
     simp only [List.take_succ_cons,List.flatMap_cons,List.length_append];have := ih n;omega
  have := key r i;omega
theorem joinP_mem (sep : List Nat) : ∀ {ps : List (List Nat)} {p : List Nat},p ∈ ps -> p.length <= (joinP sep ps).length
 | [],p,h => by cases h
 | q :: r,p,h => by
  rw [joinP,List.length_append]
  rcases List.mem_cons.1 h with rfl | h
  ·omega
  ·have key : ∀ (r : List (List Nat)),p ∈ r -> p.length <= (r.flatMap fun x => sep ++ x).length := by
    intro r
    induction r with
    | nil => intro h;cases h
    | cons a r ih =>
     intro h;rw [List.flatMap_cons,List.length_append,List.length_append]
     rcases List.mem_cons.1 h with rfl | h
     ·omega
     ·have := ih h;omega
   have := key r h;omega
def PrT (u : Tr) : Prop := (prT u).length <= 1000000000000 -> ∀ (w : World) (A : Nat -> Prop) (lv : Value),RnAt w A u lv -> Calls Tryz.prog 21 #[rnV u lv] w fun e w' => e = .returned (.string (baN (prT u))) /\ Below w.heap.size w w'
theorem rprint_set (s : W4) (hs : s.fit) (lo hi : Int) (z : Bool) (a b : Nat) (lv : Value) (w : World) :
  Calls Tryz.prog 21 #[.agg #[.int .i64 1,.int .u64 s.a,.int .u64 s.b,.int .u64 s.c,.int .u64 s.d,.int .i64 lo,.int .i64 hi,.bool z,lv,.int .i64 (a : Int),.int .i64 (b : Int)]] w fun e w' => e = .returned (.string (baN (setN s))) /\ Below w.heap.size w w' := by
 have HS := qhid (fun X => prefset_any s hs X)
 go_enter Tryz.func21,Tryz.ntmps21
 go_wp2_with fail
 refine (HS.out _).mono ?_;rintro e w1 ⟨rfl,hb⟩;have HB := qhid hb;clear hb
 go_wp2_with fail
 go_ret
 exact ⟨rfl,(below1 w _).trans (HB.out.mono (Nat.le_of_lt (by rw [World.size_alloc];exact Nat.lt_succ_self _)))⟩
theorem rprint_cap (s : W4) (lo hi : Int) (z : Bool) (a b : Nat) (g cap : Nat) (k' : Int) (s' : W4) (lo' hi' : Int) (z' : Bool) (a' b' : Nat) (lu : Value) (sA : ByteArray) (hsA : sA.size <= 1000000000000) (w : World) (hg : g < w.heap.size)
  (c0 : w.cell? ⟨g,0,none⟩ = some (.int .i64 k')) (c1 : w.cell? ⟨g,1,none⟩ = some (.int .u64 s'.a)) (c2 : w.cell? ⟨g,2,none⟩ = some (.int .u64 s'.b)) (c3 : w.cell? ⟨g,3,none⟩ = some (.int .u64 s'.c)) (c4 : w.cell? ⟨g,4,none⟩ = some (.int .u64 s'.d)) (c5 : w.cell? ⟨g,5,none⟩ = some (.int .i64 lo')) (c6 : w.cell? ⟨g,6,none⟩ = some (.int .i64 hi')) (c7 : w.cell? ⟨g,7,none⟩ = some (.bool z')) (c8 : w.cell? ⟨g,8,none⟩ = some lu) (c9 : w.cell? ⟨g,9,none⟩ = some (.int .i64 (a' : Int))) (c10 : w.cell? ⟨g,10,none⟩ = some (.int .i64 (b' : Int)))
  (hU : ∀ X,Below w.heap.size w X -> Calls Tryz.prog 21 #[.agg #[.int .i64 k',.int .u64 s'.a,.int .u64 s'.b,.int .u64 s'.c,.int .u64 s'.d,.int .i64 lo',.int .i64 hi',.bool z',lu,.int .i64 (a' : Int),.int .i64 (b' : Int)]] X fun e w' => e = .returned (.string sA) /\ Below X.heap.size X w') :
  Calls Tryz.prog 21 #[.agg #[.int .i64 2,.int .u64 s.a,.int .u64 s.b,.int .u64 s.c,.int .u64 s.d,.int .i64 lo,.int .i64 hi,.bool z,(.slice (some ⟨g,0,none⟩) 1 cap),.int .i64 (a : Int),.int .i64 (b : Int)]] w fun e w' => e = .returned (.string ((⟨#[40]⟩ ++ sA) ++ ⟨#[41]⟩)) /\ Below w.heap.size w w' := by
 have HU := qhid hU;clear hU
 go_enter Tryz.func21,Tryz.ntmps21
 go_wp2_with fail
 refine (HU.out _ (below1 w _)).mono ?_;rintro e w1 ⟨rfl,hb⟩;have HB := qhid hb;clear hb
 go_wp2_with fail
 go_ret
 exact ⟨by first | rfl | simp [ByteArray.append_assoc],(below1 w _).trans (HB.out.mono (Nat.le_of_lt (by rw [World.size_alloc];exact Nat.lt_succ_self _)))⟩
theorem rprint_non (s : W4) (lo hi : Int) (z : Bool) (a b : Nat) (g cap : Nat) (k' : Int) (s' : W4) (lo' hi' : Int) (z' : Bool) (a' b' : Nat) (lu : Value) (sA : ByteArray) (hsA : sA.size <= 1000000000000) (w : World) (hg : g < w.heap.size)
  (c0 : w.cell? ⟨g,0,none⟩ = some (.int .i64 k')) (c1 : w.cell? ⟨g,1,none⟩ = some (.int .u64 s'.a)) (c2 : w.cell? ⟨g,2,none⟩ = some (.int .u64 s'.b)) (c3 : w.cell? ⟨g,3,none⟩ = some (.int .u64 s'.c)) (c4 : w.cell? ⟨g,4,none⟩ = some (.int .u64 s'.d)) (c5 : w.cell? ⟨g,5,none⟩ = some (.int .i64 lo')) (c6 : w.cell? ⟨g,6,none⟩ = some (.int .i64 hi')) (c7 : w.cell? ⟨g,7,none⟩ = some (.bool z')) (c8 : w.cell? ⟨g,8,none⟩ = some lu) (c9 : w.cell? ⟨g,9,none⟩ = some (.int .i64 (a' : Int))) (c10 : w.cell? ⟨g,10,none⟩ = some (.int .i64 (b' : Int)))
  (hU : ∀ X,Below w.heap.size w X -> Calls Tryz.prog 21 #[.agg #[.int .i64 k',.int .u64 s'.a,.int .u64 s'.b,.int .u64 s'.c,.int .u64 s'.d,.int .i64 lo',.int .i64 hi',.bool z',lu,.int .i64 (a' : Int),.int .i64 (b' : Int)]] X fun e w' => e = .returned (.string sA) /\ Below X.heap.size X w') :
  Calls Tryz.prog 21 #[.agg #[.int .i64 3,.int .u64 s.a,.int .u64 s.b,.int .u64 s.c,.int .u64 s.d,.int .i64 lo,.int .i64 hi,.bool z,(.slice (some ⟨g,0,none⟩) 1 cap),.int .i64 (a : Int),.int .i64 (b : Int)]] w fun e w' => e = .returned (.string ((⟨#[40,63,58]⟩ ++ sA) ++ ⟨#[41]⟩)) /\ Below w.heap.size w w' := by
 have HU := qhid hU;clear hU
 go_enter Tryz.func21,Tryz.ntmps21
 go_wp2_with fail
 refine (HU.out _ (below1 w _)).mono ?_;rintro e w1 ⟨rfl,hb⟩;have HB := qhid hb;clear hb
 go_wp2_with fail
 go_ret
 exact ⟨by first | rfl | simp [ByteArray.append_assoc],(below1 w _).trans (HB.out.mono (Nat.le_of_lt (by rw [World.size_alloc];exact Nat.lt_succ_self _)))⟩
def rgTold (q g cap : Nat) (k' : Int) (s' : W4) (lo' hi' : Int) (z' : Bool) (a' b' : Nat) (lu : Value) (sA sB : ByteArray) (lo hi : Int) (z : Bool) : Nat -> Value
 | 0 => .pointer (some ⟨q,8,none⟩)
 | 1 => .slice (some ⟨g,0,none⟩) 1 cap
 | 2 => .pointer (some ⟨g,0,none⟩)
 | 3 => .agg #[.int .i64 k',.int .u64 s'.a,.int .u64 s'.b,.int .u64 s'.c,.int .u64 s'.d,.int .i64 lo',.int .i64 hi',.bool z',lu,.int .i64 (a' : Int),.int .i64 (b' : Int)]
 | 4 => .string sA
 | 5 => .pointer (some ⟨q,5,none⟩)
 | 6 => .int .i64 lo
 | 7 => .pointer (some ⟨q,6,none⟩)
 | 8 => .int .i64 hi
 | 9 => .pointer (some ⟨q,7,none⟩)
 | 10 => .bool z
 | 11 => .string sB
 | 12 => .string (sA ++ sB)
 | 13 => .string (sA ++ sB)
 | _ => undef
theorem rprint_rep (s : W4) (lo hi : Int) (z : Bool) (a b : Nat) (g cap : Nat) (k' : Int) (s' : W4) (lo' hi' : Int) (z' : Bool) (a' b' : Nat) (lu : Value) (sA sB : ByteArray) (hsA : sA.size <= 1000000000000) (hsB : sB.size <= 1000000000000) (w : World) (hg : g < w.heap.size)
  (c0 : w.cell? ⟨g,0,none⟩ = some (.int .i64 k')) (c1 : w.cell? ⟨g,1,none⟩ = some (.int .u64 s'.a)) (c2 : w.cell? ⟨g,2,none⟩ = some (.int .u64 s'.b)) (c3 : w.cell? ⟨g,3,none⟩ = some (.int .u64 s'.c)) (c4 : w.cell? ⟨g,4,none⟩ = some (.int .u64 s'.d)) (c5 : w.cell? ⟨g,5,none⟩ = some (.int .i64 lo')) (c6 : w.cell? ⟨g,6,none⟩ = some (.int .i64 hi')) (c7 : w.cell? ⟨g,7,none⟩ = some (.bool z')) (c8 : w.cell? ⟨g,8,none⟩ = some lu) (c9 : w.cell? ⟨g,9,none⟩ = some (.int .i64 (a' : Int))) (c10 : w.cell? ⟨g,10,none⟩ = some (.int .i64 (b' : Int)))
  (hU : ∀ X,Below w.heap.size w X -> Calls Tryz.prog 21 #[.agg #[.int .i64 k',.int .u64 s'.a,.int .u64 s'.b,.int .u64 s'.c,.int .u64 s'.d,.int .i64 lo',.int .i64 hi',.bool z',lu,.int .i64 (a' : Int),.int .i64 (b' : Int)]] X fun e w' => e = .returned (.string sA) /\ Below X.heap.size X w')
  (hC : ∀ X,Calls Tryz.prog 41 #[.int .i64 lo,.int .i64 hi,.bool z] X fun e w' => e = .returned (.string sB) /\ Below X.heap.size X w') :
  Calls Tryz.prog 21 #[.agg #[.int .i64 6,.int .u64 s.a,.int .u64 s.b,.int .u64 s.c,.int .u64 s.d,.int .i64 lo,.int .i64 hi,.bool z,(.slice (some ⟨g,0,none⟩) 1 cap),.int .i64 (a : Int),.int .i64 (b : Int)]] w fun e w' => e = .returned (.string (sA ++ sB)) /\ Below w.heap.size w w' := by
 have HU := qhid hU;have HC := qhid hC;have HG := qhid hg;obtain ⟨W,hW⟩ : ∃ W,W = w.alloc (.cells #[.int .i64 6,.int .u64 s.a,.int .u64 s.b,.int .u64 s.c,.int .u64 s.d,.int .i64 lo,.int .i64 hi,.bool z,(.slice (some ⟨g,0,none⟩) 1 cap),.int .i64 (a : Int),.int .i64 (b : Int)] 32) := ⟨_,rfl⟩;obtain ⟨q,hq⟩ : ∃ q,q = w.heap.size := ⟨_,rfl⟩;have HB0 : Hid (Below w.heap.size w W) := qhid (by rw [hW];exact below1 w _);have HK : Hid (W.heap[q]? = some (.cells #[.int .i64 6,.int .u64 s.a,.int .u64 s.b,.int .u64 s.c,.int .u64 s.d,.int .i64 lo,.int .i64 hi,.bool z,(.slice (some ⟨g,0,none⟩) 1 cap),.int .i64 (a : Int),.int .i64 (b : Int)] 32)) := qhid (by rw [hW,hq];exact heap_new w _);have HCC := qhid (And.intro c0 (And.intro c1 (And.intro c2 (And.intro c3 (And.intro c4 (And.intro c5 (And.intro c6 (And.intro c7 (And.intro c8 (And.intro c9 c10))))))))));have k0 := jC HK.out 0;simp only [List.getElem?_toArray,List.getElem?_cons_zero] at k0;have HE := qhid (And.intro hW hq);clear hU hC c0 c1 c2 c3 c4 c5 c6 c7 c8 c9 c10 hW hq
 go_enter Tryz.func21,Tryz.ntmps21
 go_upto_region 10 with fail
 rw [<- HE.out.1,<- HE.out.2];clear HE k0 hg;refine Reg.wp_region_C (rgTold q g cap k' s' lo' hi' z' a' b' lu sA sB lo hi z) (fun _ X => Below W.heap.size W X) [0,1,2,3,4,5,6,7,8,9,10,11,12,13] (by rfl) (by kernel_rfl) (by kernel_rfl) ?_ ?_ ?_
 ·exact Below.drew (Below.refl _ _)
 ·refine Reg.oC (fun listed A X hI hcl hin hun hall _ => ?_) ?_
  ·have e1 := hI.wo 1 rfl;have hX : Below W.heap.size W X := hI.st;have HX := qhid hX;clear hI hall hX hcl
   go_simp
   first | rfl | exact ⟨rfl,HX.out⟩ | (refine ⟨?_,HX.out⟩;simp [rgTold];done) | (refine ⟨?_,HX.out⟩;simp [rgTold];assumption)
  refine Reg.oC (fun listed A X hI hcl hin hun hall _ => ?_) ?_
  ·have e32 : A.tmps[32]? = some (.pointer (some ⟨q,8,none⟩)) := hI.v hall 0 32;have hX : Below W.heap.size W X := hI.st;have d8 := (hX.cell (p := ⟨q,8,none⟩) (jS HK.out)).trans (jC HK.out 8);simp only [Reg.la,Reg.lb,Reg.lc] at d8;have HX := qhid hX;clear hI hall hX hcl
   go_simp
   first | rfl | exact ⟨rfl,HX.out⟩ | (refine ⟨?_,HX.out⟩;simp [rgTold];done) | (refine ⟨?_,HX.out⟩;simp [rgTold];assumption)
  refine Reg.oC (fun listed A X hI hcl hin hun hall _ => ?_) ?_
  ·have e33 : A.tmps[33]? = some (.slice (some ⟨g,0,none⟩) 1 cap) := hI.v hall 1 33;have hX : Below W.heap.size W X := hI.st;have HX := qhid hX;clear hI hall hX hcl
   go_simp
   first | rfl | exact ⟨rfl,HX.out⟩ | (refine ⟨?_,HX.out⟩;simp [rgTold];done) | (refine ⟨?_,HX.out⟩;simp [rgTold];assumption)
  refine Reg.oC (fun listed A X hI hcl hin hun hall _ => ?_) ?_
  ·have e34 : A.tmps[34]? = some (.pointer (some ⟨g,0,none⟩)) := hI.v hall 2 34;have hX : Below W.heap.size W X := hI.st;obtain ⟨c0,c1,c2,c3,c4,c5,c6,c7,c8,c9,c10⟩ := HCC.out;have hgX := HB0.out.trans (hX.mono HB0.out.size);have f0 := (hgX.cell (p := ⟨g,0,none⟩) HG.out).trans c0;have f1 := (hgX.cell (p := ⟨g,1,none⟩) HG.out).trans c1;have f2 := (hgX.cell (p := ⟨g,2,none⟩) HG.out).trans c2;have f3 := (hgX.cell (p := ⟨g,3,none⟩) HG.out).trans c3;have f4 := (hgX.cell (p := ⟨g,4,none⟩) HG.out).trans c4;have f5 := (hgX.cell (p := ⟨g,5,none⟩) HG.out).trans c5;have f6 := (hgX.cell (p := ⟨g,6,none⟩) HG.out).trans c6;have f7 := (hgX.cell (p := ⟨g,7,none⟩) HG.out).trans c7;have f8 := (hgX.cell (p := ⟨g,8,none⟩) HG.out).trans c8;have f9 := (hgX.cell (p := ⟨g,9,none⟩) HG.out).trans c9;have f10 := (hgX.cell (p := ⟨g,10,none⟩) HG.out).trans c10;clear c0 c1 c2 c3 c4 c5 c6 c7 c8 c9 c10 hgX;have HX := qhid hX;clear hI hall hX hcl
   go_simp
   first | rfl | exact ⟨rfl,HX.out⟩ | (refine ⟨?_,HX.out⟩;simp [rgTold];done) | (refine ⟨?_,HX.out⟩;simp [rgTold];assumption)
  refine Reg.oC (fun listed A X hI hcl hin hun hall _ => ?_) ?_
  ·have e35 : A.tmps[35]? = some (.agg #[.int .i64 k',.int .u64 s'.a,.int .u64 s'.b,.int .u64 s'.c,.int .u64 s'.d,.int .i64 lo',.int .i64 hi',.bool z',lu,.int .i64 (a' : Int),.int .i64 (b' : Int)]) := hI.v hall 3 35;have hX : Below W.heap.size W X := hI.st;have HX := qhid hX;clear hI hall hX hcl
   go_simp
   exact (HU.out X (HB0.out.trans (HX.out.mono HB0.out.size))).mono fun e w'' ⟨he,hb⟩ => ⟨_,he,rfl,HX.out.trans (hb.mono HX.out.size)⟩
  refine Reg.oC (fun listed A X hI hcl hin hun hall _ => ?_) ?_
  ·have e1 := hI.wo 1 rfl;have hX : Below W.heap.size W X := hI.st;have HX := qhid hX;clear hI hall hX hcl
   go_simp
   first | rfl | exact ⟨rfl,HX.out⟩ | (refine ⟨?_,HX.out⟩;simp [rgTold];done) | (refine ⟨?_,HX.out⟩;simp [rgTold];assumption)
  refine Reg.oC (fun listed A X hI hcl hin hun hall _ => ?_) ?_
  ·have e37 : A.tmps[37]? = some (.pointer (some ⟨q,5,none⟩)) := hI.v hall 5 37;have hX : Below W.heap.size W X := hI.st;have d5 := (hX.cell (p := ⟨q,5,none⟩) (jS HK.out)).trans (jC HK.out 5);simp only [Reg.la,Reg.lb,Reg.lc] at d5;have HX := qhid hX;clear hI hall hX hcl
   go_simp
   first | rfl | exact ⟨rfl,HX.out⟩ | (refine ⟨?_,HX.out⟩;simp [rgTold];done) | (refine ⟨?_,HX.out⟩;simp [rgTold];assumption)
  refine Reg.oC (fun listed A X hI hcl hin hun hall _ => ?_) ?_
  ·have e1 := hI.wo 1 rfl;have hX : Below W.heap.size W X := hI.st;have HX := qhid hX;clear hI hall hX hcl
   go_simp
   first | rfl | exact ⟨rfl,HX.out⟩ | (refine ⟨?_,HX.out⟩;simp [rgTold];done) | (refine ⟨?_,HX.out⟩;simp [rgTold];assumption)
  refine Reg.oC (fun listed A X hI hcl hin hun hall _ => ?_) ?_
  ·have e39 : A.tmps[39]? = some (.pointer (some ⟨q,6,none⟩)) := hI.v hall 7 39;have hX : Below W.heap.size W X := hI.st;have d6 := (hX.cell (p := ⟨q,6,none⟩) (jS HK.out)).trans (jC HK.out 6);simp only [Reg.la,Reg.lb,Reg.lc] at d6;have HX := qhid hX;clear hI hall hX hcl
   go_simp
   first | rfl | exact ⟨rfl,HX.out⟩ | (refine ⟨?_,HX.out⟩;simp [rgTold];done) | (refine ⟨?_,HX.out⟩;simp [rgTold];assumption)
  refine Reg.oC (fun listed A X hI hcl hin hun hall _ => ?_) ?_
  ·have e1 := hI.wo 1 rfl;have hX : Below W.heap.size W X := hI.st;have HX := qhid hX;clear hI hall hX hcl
   go_simp
   first | rfl | exact ⟨rfl,HX.out⟩ | (refine ⟨?_,HX.out⟩;simp [rgTold];done) | (refine ⟨?_,HX.out⟩;simp [rgTold];assumption)
  refine Reg.oC (fun listed A X hI hcl hin hun hall _ => ?_) ?_
  ·have e41 : A.tmps[41]? = some (.pointer (some ⟨q,7,none⟩)) := hI.v hall 9 41;have hX : Below W.heap.size W X := hI.st;have d7 := (hX.cell (p := ⟨q,7,none⟩) (jS HK.out)).trans (jC HK.out 7);simp only [Reg.la,Reg.lb,Reg.lc] at d7;have HX := qhid hX;clear hI hall hX hcl
   go_simp
   first | rfl | exact ⟨rfl,HX.out⟩ | (refine ⟨?_,HX.out⟩;simp [rgTold];done) | (refine ⟨?_,HX.out⟩;simp [rgTold];assumption)
  refine Reg.oC (fun listed A X hI hcl hin hun hall _ => ?_) ?_
  ·have e38 : A.tmps[38]? = some (.int .i64 lo) := hI.v hall 6 38;have e40 : A.tmps[40]? = some (.int .i64 hi) := hI.v hall 8 40;have e42 : A.tmps[42]? = some (.bool z) := hI.v hall 10 42;have hX : Below W.heap.size W X := hI.st;have HX := qhid hX;clear hI hall hX hcl
   go_simp
   exact (HC.out X).mono fun e w'' ⟨he,hb⟩ => ⟨_,he,rfl,HX.out.trans (hb.mono HX.out.size)⟩
  refine Reg.oC (fun listed A X hI hcl hin hun hall _ => ?_) ?_
  ·have e36 : A.tmps[36]? = some (.string sA) := hI.v hall 4 36;have e43 : A.tmps[43]? = some (.string sB) := hI.v hall 11 43;have hX : Below W.heap.size W X := hI.st;have hno : ¬ 9223372036854775807 < sA.size + sB.size := by omega
   have HX := qhid hX;clear hI hall hX hcl
   go_simp
   first | rfl | exact ⟨rfl,HX.out⟩ | (refine ⟨?_,HX.out⟩;simp [rgTold];done) | (refine ⟨?_,HX.out⟩;simp [rgTold];assumption)
  refine Reg.oC (fun listed A X hI hcl hin hun hall _ => ?_) ?_
  ·have e44 : A.tmps[44]? = some (.string (sA ++ sB)) := hI.v hall 12 44;have hX : Below W.heap.size W X := hI.st;have HX := qhid hX;clear hI hall hX hcl
   go_simp
   first | rfl | exact ⟨rfl,HX.out⟩ | (refine ⟨?_,HX.out⟩;simp [rgTold];done) | (refine ⟨?_,HX.out⟩;simp [rgTold];assumption)
  trivial
 ·intro X hS;have HX := qhid hS;clear hS;simp [Reg.finalTmps,Reg.dstAt,Reg.valOf,rgTold]
  go_wp2_with fail
  go_ret
  exact ⟨rfl,HB0.out.trans (HX.out.mono HB0.out.size)⟩
theorem rprint_many (k : Int) (hk : k = 0 \/ k = 4 \/ k = 5) (s : W4) (lo hi : Int) (z : Bool) (a b : Nat) (l : List Tr) (hl : l.length <= 1099511000000) (w : World) (A : Nat -> Prop) (lv : Value) (h : RnAt w A (.mk k s lo hi z a b l) lv) (ih : ∀ u ∈ l,PrT u) (hN : (joinP (if k = 5 then [124] else []) (l.map prT)).length <= 1000000000000) :
  Calls Tryz.prog 21 #[.agg #[.int .i64 k,.int .u64 s.a,.int .u64 s.b,.int .u64 s.c,.int .u64 s.d,.int .i64 lo,.int .i64 hi,.bool z,lv,.int .i64 (a : Int),.int .i64 (b : Int)]] w fun e w' => e = .returned (.string (baN (joinP (if k = 5 then [124] else []) (l.map prT)))) /\ Below w.heap.size w w' := by
 obtain ⟨p,cap,rfl⟩ := h.slice_len;have HA := qhid h;have HI := qhid ih;have HN0 := qhid hN;have HKK := qhid hk;obtain ⟨R,hR⟩ : ∃ R,R = baN (joinP (if k = 5 then [124] else []) (l.map prT)) := ⟨_,rfl⟩;rw [<- hR];have HR := qhid hR;obtain ⟨W,hW⟩ : ∃ W,W = w.alloc (.cells #[.int .i64 k,.int .u64 s.a,.int .u64 s.b,.int .u64 s.c,.int .u64 s.d,.int .i64 lo,.int .i64 hi,.bool z,(.slice p l.length cap),.int .i64 (a : Int),.int .i64 (b : Int)] 32) := ⟨_,rfl⟩;obtain ⟨q,hq⟩ : ∃ q,q = w.heap.size := ⟨_,rfl⟩;have HB0 : Hid (Below w.heap.size w W) := qhid (by rw [hW];exact below1 w _);have HK : Hid (W.heap[q]? = some (.cells #[.int .i64 k,.int .u64 s.a,.int .u64 s.b,.int .u64 s.c,.int .u64 s.d,.int .i64 lo,.int .i64 hi,.bool z,(.slice p l.length cap),.int .i64 (a : Int),.int .i64 (b : Int)] 32)) := qhid (by rw [hW,hq];exact heap_new w _);have HE := qhid (And.intro hW hq);have b1 : ((k : Int) == 1) = false := by simp;omega
 have b2 : ((k : Int) == 2) = false := by simp;omega
 have b3 : ((k : Int) == 3) = false := by simp;omega
 have b6 : ((k : Int) == 6) = false := by simp;omega
 clear h ih hR hW hq hk hN
 go_enter Tryz.func21,Tryz.ntmps21
 go_wp2_with fail
 rw [<- HE.out.1,<- HE.out.2];clear HE b1 b2 b3 b6
 go_loopw [3,4] (fun sv iv wr => ∃ i : Nat,i <= l.length /\ sv = .string (baN (joinP (if k = 5 then [124] else []) ((l.take i).map prT))) /\ iv = .int .i64 i /\ Hid (Below W.heap.size W wr)) (fun _ iv _ => l.length - (intOf iv).toNat)
 case atStart => exact ⟨0,Nat.zero_le _,rfl,rfl,qhid (Below.refl _ _)⟩
 case round =>
  obtain ⟨i,hi,rfl,rfl,HB⟩ := hrel;have hbk := (HB.out.block _ (jS HK.out)).trans HK.out;have q0 := jC hbk 0;have q8 := jC hbk 8;simp only [Reg.la,Reg.lb,Reg.lc] at q0 q8;clear hbk;have HBW := qhid (HB0.out.trans (HB.out.mono HB0.out.size))
  by_cases hlt : i < l.length
  ·obtain ⟨u,hu⟩ : ∃ u,l[i]? = some u := ⟨_,List.getElem?_eq_getElem hlt⟩;have hm := List.mem_of_getElem? hu;have hlu : (prT u).length <= 1000000000000 := Nat.le_trans (joinP_mem (if k = 5 then [124] else []) (List.mem_map_of_mem (f := prT) hm)) HN0.out
   have hls : (joinP (if k = 5 then [124] else []) ((l.take i).map prT)).length <= 1000000000000 := by
    rw [List.map_take];exact Nat.le_trans (joinP_take _ _ _) HN0.out
   have HP : Hid (∀ (w : World) (A : Nat -> Prop) (lv : Value),RnAt w A u lv -> Calls Tryz.prog 21 #[rnV u lv] w fun e w' => e = .returned (.string (baN (prT u))) /\ Below w.heap.size w w') := qhid (HI.out u hm hlu)
   have HT : Hid (joinP (if k = 5 then [124] else []) ((l.take (i + 1)).map prT) = joinP (if k = 5 then [124] else []) ((l.take i).map prT) ++ ((if (l.take i).map prT = [] then [] else (if k = 5 then [124] else [])) ++ prT u)) := qhid (by
    rw [List.take_add_one,hu];simp only [Option.toList,List.map_append,List.map_cons,List.map_nil]
    exact joinP_snoc _ _ _)
   have HE0 : Hid ((l.take i).map prT = [] ↔ i = 0) := qhid (by
    rw [List.map_eq_nil_iff,List.take_eq_nil_iff]
    constructor
    ·rintro (h | h)
     ·exact h
     ·subst h;simp at hlt
    ·intro h;exact .inl h)
   clear hm;generalize prT u = tx at *;obtain ⟨k',s',lo',hi',z',a',b',l'⟩ := u;obtain ⟨g,cap',lu,hv,hg,hru,c0,⟨c1,c2,c3,c4⟩,c5,c6,c7,c8,c9,c10⟩ := (HA.out.up HBW.out).get hu;injection hv with hv1 _ hv2;subst hv1 hv2;have HU : Hid (∀ X,Below wr.heap.size wr X -> Calls Tryz.prog 21 #[.agg #[.int .i64 k',.int .u64 s'.a,.int .u64 s'.b,.int .u64 s'.c,.int .u64 s'.d,.int .i64 lo',.int .i64 hi',.bool z',lu,.int .i64 (a' : Int),.int .i64 (b' : Int)]] X fun e w' => e = .returned (.string (baN tx)) /\ Below X.heap.size X w') := qhid (fun X hX => HP.out X A lu (hru.up hX));clear hru hu HP;generalize joinP (if k = 5 then [124] else []) ((l.take i).map prT) = sx at *;have hz1 := baN_size sx;have hz2 := baN_size tx;have hs1 : (baN sx).size <= 1000000000000 := by omega
   have hs2 : (baN tx).size <= 1000000000000 := by omega
   clear hz1 hz2 hls hlu
   by_cases hi0 : i = 0
   ·subst hi0;have HN : Hid (joinP (if k = 5 then [124] else []) ((l.take (0 + 1)).map prT) = sx ++ tx) := qhid (by rw [HT.out,if_pos (HE0.out.2 rfl),List.nil_append]);clear HT HE0;simp only [Nat.zero_mul,Nat.zero_add] at c0 c1 c2 c3 c4 c5 c6 c7 c8 c9 c10
    go_wp2_with fail
    refine (HU.out _ (Below.refl _ _)).mono ?_;rintro e w1 ⟨rfl,hb⟩;have HB1 := qhid (HB.out.trans (hb.mono HB.out.size));clear hb
    go_wp2_with fail
    go_roundw
    case rel => exact ⟨1,by omega,by rw [HN.out,baN_append],by go_num,HB1⟩
    case measure => simp [intOf];omega
   ·have hip : (0 : Int) < (i : Int) := by omega
    by_cases h5 : k = 5
    ·subst h5;have HN : Hid (joinP (if (5 : Int) = 5 then [124] else []) ((l.take (i + 1)).map prT) = (sx ++ [124]) ++ tx) := qhid (by rw [HT.out,if_neg (fun e => hi0 (HE0.out.1 e)),if_pos rfl,List.append_assoc]);have HI0 := qhid hi0;clear HT HE0 hi0
     go_wp2_with fail
     refine (HU.out _ (Below.refl _ _)).mono ?_;rintro e w1 ⟨rfl,hb⟩;have HB1 := qhid (HB.out.trans (hb.mono HB.out.size));clear hb
     go_wp2_with fail
     go_roundw
     case rel =>
      have e : joinP [124] (List.map prT (List.take (i + 1) l)) = sx ++ [124] ++ tx := by simpa using HN.out
      exact ⟨i + 1,by omega,by rw [e,baN_append,baN_append];rfl,by go_num,HB1⟩
     case measure => simp [intOf];omega
    ·have HN : Hid (joinP (if k = 5 then [124] else []) ((l.take (i + 1)).map prT) = sx ++ tx) := qhid (by rw [HT.out,if_neg (fun e => hi0 (HE0.out.1 e)),if_neg h5,List.nil_append]);have HI0 := qhid hi0;have b5 : ((k : Int) == 5) = false := by simpa using h5
     clear HT HE0 hi0 h5
     go_wp2_with fail
     refine (HU.out _ (Below.refl _ _)).mono ?_;rintro e w1 ⟨rfl,hb⟩;have HB1 := qhid (HB.out.trans (hb.mono HB.out.size));clear hb
     go_wp2_with fail
     go_roundw
     case rel => exact ⟨i + 1,by omega,by rw [HN.out,baN_append],by go_num,HB1⟩
     case measure => simp [intOf];omega
  ·obtain rfl : i = l.length := by omega
   have HF : Hid (R = baN (joinP (if k = 5 then [124] else []) ((l.take l.length).map prT))) := qhid (by rw [HR.out,List.take_length]);generalize joinP (if k = 5 then [124] else []) ((l.take l.length).map prT) = sx at *
   go_wp2_with fail
   go_ret
   exact ⟨by rw [HF.out];rfl,HBW.out⟩
theorem rprint_any : ∀ {t : Tr},RtT t -> trSize t <= 1099511000000 -> PrT t := by
 have key : ∀ {l : List Tr},trSizes l < 1099511000000 -> (∀ t,t ∈ l -> trSize t <= 1099511000000 -> PrT t) -> l.length <= 1099511000000 /\ ∀ t ∈ l,PrT t := fun {l} hs ih =>
  ⟨by have := trSizes_len l;omega,fun t ht => ih t ht (by have := trSize_mem ht;omega)⟩
 intro t ht
 induction ht with
 | empty a b =>
  intro _ hlen w A lv h;have h1 := rprint_many 0 (.inl rfl) noW 0 0 false a b [] (by decide) w A lv h (by simp) (by simp [joinP]);rw [prT_eq];exact h1
 | set s a b hs =>
  intro _ hlen w A lv h;obtain ⟨p,cap,rfl⟩ := h.slice_len;have h1 := rprint_set s hs 0 0 false a b (.slice p ([] : List Tr).length cap) w;rw [prT_eq];exact h1
 | group k a b u hk hu ih =>
  intro hsz hlen w A lv h;rw [trSize_eq] at hsz;have hsz : 1 + trSizes [u] <= 1099511000000 := hsz
  obtain ⟨hl,ih⟩ := key (l := [u]) (by omega) (fun t ht => by
   rw [List.mem_singleton] at ht;subst ht
   exact ih)
  have ih := ih u (List.mem_singleton.2 rfl);rw [prT_eq] at hlen ⊢;obtain ⟨k',s',lo',hi',z',a',b',l'⟩ := u;obtain ⟨g,cap,lu,rfl,hg,hru,c0,⟨c1,c2,c3,c4⟩,c5,c6,c7,c8,c9,c10⟩ := h.get (i := 0) rfl
  rcases hk with rfl | rfl
  ·rw [show prN 2 noW 0 0 false (List.map prT [.mk k' s' lo' hi' z' a' b' l']) = ([40] ++ prT (.mk k' s' lo' hi' z' a' b' l')) ++ [41] from rfl] at hlen ⊢;rw [List.length_append,List.length_append] at hlen;have hlu : (prT (.mk k' s' lo' hi' z' a' b' l')).length <= 1000000000000 := by omega
   have h1 := rprint_cap noW 0 0 false a b g cap k' s' lo' hi' z' a' b' lu _ (by rw [baN_size];exact hlu) w hg c0 c1 c2 c3 c4 c5 c6 c7 c8 c9 c10 (fun X hX => ih hlu X A lu (hru.up hX));rw [baN_append,baN_append];exact h1
  ·rw [show prN 3 noW 0 0 false (List.map prT [.mk k' s' lo' hi' z' a' b' l']) = ([40,63,58] ++ prT (.mk k' s' lo' hi' z' a' b' l')) ++ [41] from rfl] at hlen ⊢;rw [List.length_append,List.length_append] at hlen;have hlu : (prT (.mk k' s' lo' hi' z' a' b' l')).length <= 1000000000000 := by omega
   have h1 := rprint_non noW 0 0 false a b g cap k' s' lo' hi' z' a' b' lu _ (by rw [baN_size];exact hlu) w hg c0 c1 c2 c3 c4 c5 c6 c7 c8 c9 c10 (fun X hX => ih hlu X A lu (hru.up hX));rw [baN_append,baN_append];exact h1
 | cat a b l hl hi h ih =>
  intro hsz hlen w A lv hr;rw [trSize_eq] at hsz;have hsz : 1 + trSizes l <= 1099511000000 := hsz;obtain ⟨h1,h2⟩ := key (l := l) (by omega) ih;have h3 := rprint_many 4 (.inr (.inl rfl)) noW 0 0 false a b l h1 w A lv hr h2 (by rw [prT_eq] at hlen;exact hlen);rw [prT_eq];exact h3
 | alt a b l hl hi h ih =>
  intro hsz hlen w A lv hr;rw [trSize_eq] at hsz;have hsz : 1 + trSizes l <= 1099511000000 := hsz;obtain ⟨h1,h2⟩ := key (l := l) (by omega) ih;have h3 := rprint_many 5 (.inr (.inr rfl)) noW 0 0 false a b l h1 w A lv hr h2 (by rw [prT_eq] at hlen;exact hlen);rw [prT_eq];exact h3
 | rep lo hi z a b u hc hu h ih =>
  intro hsz hlen w A lv hr;rw [trSize_eq] at hsz;have hsz : 1 + trSizes [u] <= 1099511000000 := hsz
  obtain ⟨hl,ih⟩ := key (l := [u]) (by omega) (fun t ht => by
   rw [List.mem_singleton] at ht;subst ht
   exact ih)
  have ih := ih u (List.mem_singleton.2 rfl);obtain ⟨i1,i2⟩ := counted_i64 hc;rw [prT_eq] at hlen ⊢;obtain ⟨k',s',lo',hi',z',a',b',l'⟩ := u;obtain ⟨g,cap,lu,rfl,hg,hru,c0,⟨c1,c2,c3,c4⟩,c5,c6,c7,c8,c9,c10⟩ := hr.get (i := 0) rfl;rw [show prN 6 noW lo hi z (List.map prT [.mk k' s' lo' hi' z' a' b' l']) = prT (.mk k' s' lo' hi' z' a' b' l') ++ rcN lo hi z from rfl] at hlen ⊢;rw [List.length_append] at hlen;have hlu : (prT (.mk k' s' lo' hi' z' a' b' l')).length <= 1000000000000 := by omega
  have h1 := rprint_rep noW lo hi z a b g cap k' s' lo' hi' z' a' b' lu _ _ (by rw [baN_size];exact hlu) (by rw [baN_size];omega) w hg c0 c1 c2 c3 c4 c5 c6 c7 c8 c9 c10 (fun X hX => ih hlu X A lu (hru.up hX)) (fun X => prefcount_any lo hi z i1 i2 X);rw [baN_append];exact h1
end
end Go.Proofs.YtaliapknkpdmdaaGreatDoor
