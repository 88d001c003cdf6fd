/- A part of the proof. -/
import Derived.Test.YtlmcgbieobklhaaGreatDoorRfL
import Derived.Test.YtlmcgbieobklhaaGreatDoorTc
set_option maxRecDepth 100000
set_option maxHeartbeats 16000000
namespace Go.Proofs.YtlmcgbieobklhaaGreatDoor
section
open Go Go.RowKit
attribute [local go_sem ↓] Go.wp_at_zero Go.wp_at_succ
attribute [local go_sem] eq4
theorem Tryz.infoRTok : (Tryz.prog.info? 122).map (fun i => (i.zero,i.size,i.bytes)) = some (some (.agg #[.int .i64 0,.int .i64 0,.int .i64 0,.int .u64 0,.int .u64 0,.int .u64 0,.int .u64 0,.int .i64 0,.int .i64 0,.bool false]),10,80) := by kernel_rfl
def RTGrow (B : Nat) (l : List (TokM × Nat × Nat)) (v : Value) (w : World) : Prop := w.ownsRow B 122 10 v l.length (flatT l)
theorem RTGrow.start (B : Nat) (w : World) : RTGrow B [] (.slice none 0 0) w := ⟨rfl,.inl ⟨rfl,rfl⟩⟩
theorem RTGrow.below {B : Nat} {l : List (TokM × Nat × Nat)} {v : Value} {w w1 : World} (h : RTGrow B l v w) (hb : Below w.heap.size w w1) : RTGrow B l v w1 := ownsBelow h hb
theorem RTGrow.at {B : Nat} {l : List (TokM × Nat × Nat)} {v : Value} {w : World} (h : RTGrow B l v w) : TokAt w v l := by
 rcases h.2 with ⟨rfl,h2⟩ | ⟨g,cap,cur,rfl,hb,hh,hcap,hmax,hcs,htake⟩
 ·refine ⟨none,0,by rw [h2],fun i x hi => ?_⟩;rw [List.length_eq_zero_iff.1 h2] at hi;simp at hi
 ·refine ⟨_,cap,rfl,fun i x hi => ⟨g,rfl,(Array.getElem?_eq_some_iff.1 hh).1,fun o u hu => ?_⟩⟩;have hox := flatT_get l i o x u hi hu;rw [jC hh,<- Array.getElem?_toList];rw [<- htake] at hox;obtain ⟨hl,_⟩ := List.getElem?_eq_some_iff.1 hox;rw [List.getElem?_take_of_lt (by rw [List.length_take] at hl;omega)] at hox;exact hox
theorem rfin3 {r : List (TokM × Nat × Nat) × Int × Nat} {l : List (TokM × Nat × Nat)} {c : Int} {j : Nat} {n : Int} {v : Value} {w w' : World} (h : r = (l,c,j)) (hn : scanN (l,c,j) = n) (hg : RTGrow w.heap.size l v w') (hb : Below w.heap.size w w') :
  ∃ u,Ending.returned (.tuple #[v,.int .i64 n,.int .i64 c]) = .returned (.tuple #[u,.int .i64 (scanN r),.int .i64 r.2.1]) /\ RTGrow w.heap.size r.1 u w' /\ Below w.heap.size w w' := by
 subst h;subst hn;exact ⟨v,rfl,hg,hb⟩
structure ScS (w : World) (b j : Nat) (c : Int) (listed : Array Bool) (X : World) : Prop where
 en : OwnEnd X b (j : Int) c
 bel : Below w.heap.size w X
theorem ScS.same {w : World} {b j : Nat} {c : Int} {listed listed' : Array Bool} {X : World} (h : ScS w b j c listed X) : ScS w b j c listed' X := ⟨h.en,h.bel⟩
theorem OwnEnd.grownBy_ {w w' : World} {b : Nat} {x y : Int} {row : Option Nat} (h : OwnEnd w b x y) (hg : w.grownBy w' row) (hne : row ≠ some b) : OwnEnd w' b x y := h.same (hg.block b h.lt (fun e => hne e.symm)) hg.size
def scTold (b j : Nat) (c : Int) : Nat -> Value
 | 0 => .pointer (some ⟨b,0,none⟩)
 | 1 => .int .i64 (j : Int)
 | 2 => .pointer (some ⟨b,1,none⟩)
 | 3 => .int .i64 c
 | 4 => .slice none 0 0
 | 5 => .int .i64 (j : Int)
 | 6 => .int .i64 c
 | _ => undef
def RfS_In_0 : Nat -> List (Nat × Nat)
 | 5 => [(23,2)]
 | 6 => [(25,4)]
 | _ => []
theorem refscan_any (s : ByteArray) (hs : s.size <= 1048576) (w : World) :
  Calls Tryz.prog 31 #[.string s] w fun e w' => ∃ v,e = .returned (.tuple #[v,.int .i64 (scanN (scanAll s)),.int .i64 (scanAll s).2.1]) /\ RTGrow w.heap.size (scanAll s).1 v w' /\ Below w.heap.size w w' := by
 have ONE := qhid (fun k (hk : k < s.size) W => refone_any s k hk (by omega) W);obtain ⟨i0,hif,hy0,hy1,hy2⟩ := info_parts Tryz.infoRTok
 go_enter Tryz.func31,Tryz.ntmps31
 go_wp2_with fail
 go_loopg [5,6] s.size (fun n v at_ wr => ∃ (k : Nat) (l : List (TokM × Nat × Nat)),k + n = s.size /\ at_ = .int .i64 (k : Int) /\ Hid (ScanAt s l k) /\ l.length <= k /\ Hid (RTGrow w.heap.size l v wr) /\ Hid (Below w.heap.size w wr))
 case atStart => exact ⟨0,[],by omega,rfl,qhid (ScanAt.start s),by simp,qhid (RTGrow.start _ _),qhid (Below.refl _ _)⟩
 case round =>
  obtain ⟨k,l,hkn,rfl,HSA,hll,HG,HB⟩ := hrel
  by_cases hk : k < s.size
  ·have dk : decide (k < s.size) = true := jT hk;have TKk := qhid (ONE.out k hk);have hjle := (tokenR_tok hk).le;have hjon := (tokenR_tok hk).on;have HST := qhid (fun he => HSA.out.step hk he);have HBD := qhid (fun he => HSA.out.bad hk he);have herr := (tokenR_tok hk).err;obtain ⟨r,hr⟩ : ∃ r,r = tokenR s k := ⟨_,rfl⟩;rw [<- hr] at TKk hjle hjon HST HBD herr;clear hr;obtain ⟨t0,c,j⟩ := r;have TKk : Hid (∀ W,Calls Tryz.prog 64 #[.string s,.int .i64 (k : Int)] W fun e w' => OneOut (t0,c,j) (k : Int) e /\ Below W.heap.size W w') := TKk;have hjle : j <= s.size := hjle
   go_wp2_with fail
   refine (TKk.out _).mono ?_;rintro e w2 ⟨⟨t,he,ht⟩,hb2⟩;dsimp only at he ht;subst he;have HG2 := qhid ((HG.out.below hb2).below (below2 _ (rtOb t (k : Int)) (enOb j c)));have h2 := HB.out.trans (hb2.mono HB.out.size);have HB2 := qhid (h2.trans ((below2 w2 (rtOb t (k : Int)) (enOb j c)).mono h2.size));have HT2 : Hid (((w2.alloc (rtOb t (k : Int))).alloc (enOb j c)).heap[w2.heap.size]? = some (rtOb t (k : Int))) := qhid (below_kept (below1 _ _) (heap_new _ _))
   have HE2 : Hid (OwnEnd ((w2.alloc (rtOb t (k : Int))).alloc (enOb j c)) (w2.heap.size + 1) (j : Int) c) := qhid (by
    have h := heap_new (w2.alloc (rtOb t (k : Int))) (enOb j c);rw [World.size_alloc] at h
    exact OwnEnd.of h)
   have hb7 : w.heap.size <= w2.heap.size := h2.size;have HNB := qhid (fun g hg => (ownsLt (HG.out.below hb2) (g := g) hg).2);clear hb2 h2 HG HB TKk
   go_upto_region 5 with fail
   obtain ⟨W,hW⟩ : ∃ W,W = (w2.alloc (rtOb t (k : Int))).alloc (enOb j c) := ⟨_,rfl⟩;rw [<- hW] at HG2 HB2 HT2 HE2;change Code.wp _ _ _ _ ((w2.alloc (rtOb t (k : Int))).alloc (enOb j c));rw [<- hW];clear hW;generalize w2.heap.size = b7 at *;obtain ⟨⟨z0,z1⟩,⟨l0,l1⟩,hz⟩ := HE2.out;have hne : ¬ b7 = b7 + 1 := by omega
   rcases errS herr with rfl | ⟨hc0,hc1,hc2⟩
   ·have HS2 := qhid (HST.out rfl);have hjk : k < j := hjon rfl;obtain rfl : t = t0 := ht rfl;clear HST HBD herr hjon HSA ht;obtain ⟨⟨v0,v1,v2,v3,v4,v5,v6,v7,v8,v9⟩,hv⟩ := rt_free HT2.out;obtain ⟨⟨y0,y1,y2,y3,y4,y5,y6,y7,y8,y9⟩,hy⟩ := rt_cells HT2.out;have HB3 : Hid (Below w.heap.size w (W.setCell ⟨b7,2,none⟩ (.int .i64 (j : Int)))) := qhid (HB2.out.setCell (by simpa using hb7) _);have HT3 : Hid ((W.setCell ⟨b7,2,none⟩ (.int .i64 (j : Int))).heap[b7]? = some (.cells #[.int .i64 t.kind,.int .i64 (k : Int),.int .i64 (j : Int),.int .u64 t.set.a,.int .u64 t.set.b,.int .u64 t.set.c,.int .u64 t.set.d,.int .i64 t.lo,.int .i64 t.hi,.bool t.lazy] 122)) := qhid ((Joins.block_setCell (i := 2) HT2.out (.int .i64 (j : Int))).trans (by simp));have HE3 : Hid (OwnEnd (W.setCell ⟨b7,2,none⟩ (.int .i64 (j : Int))) (b7 + 1) (j : Int) 0) := qhid (HE2.out.same (heap_set _ (by omega)) (by simp [World.setCell]));have HG3 := qhid (ownsKeep HG2.out (only_setCell (only_refl W (some b7)) (p := ⟨b7,2,none⟩) (.inl rfl) (.int .i64 (j : Int))) (fun g hg e => by have := HNB.out g hg;injection e with e;omega))
    go_upto_region 8 with fail
    obtain ⟨W3,hW3⟩ : ∃ X,X = W.setCell ⟨b7,2,none⟩ (.int .i64 (j : Int)) := ⟨_,rfl⟩;rw [<- hW3] at HB3 HT3 HG3 HE3;change Code.wp _ _ _ _ (W.setCell ⟨b7,2,none⟩ (.int .i64 (j : Int)));rw [<- hW3];clear hW3 v0 v1 v2 v3 v4 v5 v6 v7 v8 v9 hv y0 y1 y2 y3 y4 y5 y6 y7 y8 y9 hy z0 z1 l0 l1 hz HT2 HG2 HB2 HE2;have y0 := jC HT3.out 0;have y1 := jC HT3.out 1;have y2 := jC HT3.out 2;have y3 := jC HT3.out 3;have y4 := jC HT3.out 4;have y5 := jC HT3.out 5;have y6 := jC HT3.out 6;have y7 := jC HT3.out 7;have y8 := jC HT3.out 8;have y9 := jC HT3.out 9;have hy := jS HT3.out;have hsz3 := HB3.out.size;simp only [Reg.la,Reg.lb,Reg.lc] at y0 y1 y2 y3 y4 y5 y6 y7 y8 y9
    go_wp2_with (at_builtin;go_must (refine wpList_append_own_at _ rfl (.tmp 29) (.tmp 31) 72 rfl w.heap.size 122 i0 (.agg #[.int .i64 0,.int .i64 0,.int .i64 0,.int .u64 0,.int .u64 0,.int .u64 0,.int .u64 0,.int .i64 0,.int .i64 0,.bool false]) 10 80 Tryz.underlying72 hif hy0 hy1 hy2 rfl (by decide) _ l.length (flatT l) rfl (ownsAlloc HG3.out _) ⟨_,0,none⟩ 1 1 (tcells (t,k,j)) rfl rfl (cell_ten_at _ _ t k j _ (by simp)) (ten_cells (t,k,j)) (by unfold maxLen;omega) (by omega) (by simp;omega) ?_;intro v4 w4 ho hg4 _ _;have HE4 := qhid ((HE3.out.below (below1 _ _)).grownBy_ hg4 (fun e => Nat.lt_irrefl _ (Nat.lt_trans (HNB.out _ e) (Nat.lt_succ_self _))));obtain ⟨⟨z0,z1⟩,⟨l0,l1⟩,hz⟩ := HE4.out))
    have hro : ∀ b,Value.ownBlock _ = some b -> w.heap.size <= b := fun b hb => (ownsLt HG3.out hb).1
    have HG4 : Hid (RTGrow w.heap.size (l ++ [(t,k,j)]) v4 w4) := qhid (by unfold RTGrow;rw [List.length_append,flatT_snoc];exact ho);have HB4 := qhid ((HB3.out.alloc hsz3 _).grown hg4 (by simp;omega) (fun b hb => hro _ hb))
    go_roundg (s.size - j)
    case measure => omega
    case rel => exact ⟨j,l ++ [(t,k,j)],by omega,rfl,HS2,by simp;omega,HG4,HB4⟩
   ·have HSC := qhid (HBD.out hc0);clear HST HBD herr hjon HSA ht ONE
    go_wp2_with fail
    refine Reg.wp_region_S (scTold (b7 + 1) j c) (ScS w (b7 + 1) j c) [0,1,2,3,4,5,6] (by rfl) (by kernel_rfl) (by kernel_rfl) ?_ ?_ ?_
    ·exact ⟨⟨HE2.out.at_,HE2.out.free,HE2.out.lt⟩,⟨HB2.out.os,HB2.out.tape,HB2.out.output,HB2.out.size,HB2.out.block⟩⟩
    ·refine Reg.oS (fun listed A X hI hin hun hall HS => ?_) ?_
     ·have e8 := hI.wo 8 rfl;clear hI hall
      go_simp
      exact ⟨rfl,HS.same⟩
     refine Reg.oS (fun listed A X hI hin hun hall HS => ?_) ?_
     ·have e22 : A.tmps[22]? = some (.pointer (some ⟨b7 + 1,0,none⟩)) := hI.v hall 0 22;obtain ⟨⟨z0,z1⟩,⟨l0,l1⟩,hz⟩ := HS.en;clear hI hall
      go_simp
      exact ⟨rfl,HS.same⟩
     refine Reg.oS (fun listed A X hI hin hun hall HS => ?_) ?_
     ·have e8 := hI.wo 8 rfl;clear hI hall
      go_simp
      exact ⟨rfl,HS.same⟩
     refine Reg.oS (fun listed A X hI hin hun hall HS => ?_) ?_
     ·have e24 : A.tmps[24]? = some (.pointer (some ⟨b7 + 1,1,none⟩)) := hI.v hall 2 24;obtain ⟨⟨z0,z1⟩,⟨l0,l1⟩,hz⟩ := HS.en;clear hI hall
      go_simp
      exact ⟨rfl,HS.same⟩
     refine Reg.oS (fun listed A X hI hin hun hall HS => ?_) ?_
     ·clear hI hall
      go_simp
      exact ⟨rfl,HS.same⟩
     iterate 2
      refine Reg.oS (fun listed A X hI hin hun hall HS => ?_) ?_
      ·have E := hI.tf hun hall RfS_In_0;simp only [Reg.TF,RfS_In_0,scTold] at E;clear hI hall
       go_simp
       exact ⟨rfl,HS.same⟩
     trivial
    ·intro W9 hS;have HB9 := qhid hS.bel;clear hS;simp [Reg.finalTmps,Reg.dstAt,Reg.valOf,scTold]
     go_wp2_with fail
     refine bodyPost_ret (v := .tuple #[.slice none 0 0,.int .i64 (j : Int),.int .i64 c]) (by simp [results,Tryz.results31,go_sem]) rfl (rfin3 HSC.out (by unfold scanN;rw [if_neg hc0]) (RTGrow.start _ _) HB9.out)
  ·have dk : decide (k < s.size) = false := jF hk;have hke : s.size <= k := by omega
   have HSC := qhid (HSA.out.done hke);clear HSA ONE;obtain ⟨p4,cap4,rfl⟩ := own_slice HG.out
   go_wp2_with fail
   refine bodyPost_ret (v := .tuple #[.slice p4 l.length cap4,.int .i64 (l.length : Int),.int .i64 0]) (by simp [results,Tryz.results31,go_sem]) rfl (rfin3 HSC.out rfl HG.out HB.out)
theorem eq4rf (a b c d x y z u : Int) (w : World) : (Op.equalIn 9999 29 (.agg #[.int .u64 a,.int .u64 b,.int .u64 c,.int .u64 d]) (.agg #[.int .u64 x,.int .u64 y,.int .u64 z,.int .u64 u])).run Tryz.prog w = .ok (a == x && b == y && c == z && d == u) w := by
 have u3 := Tryz.underlying27;have a3 := Tryz.isAgg27;have z3 := Tryz.sizeOf27;rw [show (9999 : Nat) = 9998 + 1 from rfl,Op.equalIn];simp only [Sem.run_bind,run_underlying Tryz.underlying29,Result.andThen_ok];simp only [Std.Legacy.Range.forIn_eq_forIn_range',Std.Legacy.Range.size,Nat.sub_zero,Nat.add_sub_cancel,Nat.div_one,List.range'_succ,List.range'_zero,List.forIn_cons,List.forIn_nil]
 go_simp
 by_cases h1 : a = x <;> by_cases h2 : b = y <;> by_cases h3 : c = z <;> by_cases h4 : d = u <;> simp [h1,h2,h3,h4]
attribute [local go_sem] eq4rf
end
end Go.Proofs.YtlmcgbieobklhaaGreatDoor
