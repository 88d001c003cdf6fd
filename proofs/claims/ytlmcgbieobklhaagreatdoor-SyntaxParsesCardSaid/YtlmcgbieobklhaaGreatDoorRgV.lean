/- A part of the proof. -/
import Derived.Test.YtlmcgbieobklhaaGreatDoorRgD
import Derived.Test.YtlmcgbieobklhaaGreatDoorRgV0
set_option maxRecDepth 100000
set_option maxHeartbeats 16000000
namespace Go.Proofs.YtlmcgbieobklhaaGreatDoor
section
open Go Go.RowKit
attribute [local go_sem ↓] Go.wp_at_zero Go.wp_at_succ
attribute [local go_sem] eq4
theorem wpList_append_nilS {P : Program} {ops : Array Oper} {rest : List Oper} {o : Oper} {a : Act} {w : World} {Q : Exit -> Act -> World -> Prop} (hgd : o.guard = none) (s x : Operand) (t : TypeId)
  (ho : o.op = .call { callee := .builtin .append,args := #[s,x],argTypes := #[t,t] }) (base : Nat) (e : TypeId) (i : TypeInfo) (size : Nat) (ht : P.underlying t = some (.slice e)) (hi : P.info? e = some i) (_ : i.size = size)
  (v : Value) (n : Nat) (xs : List Value) (hs : a.eval s = v) (hown : w.ownsRow base e size v n xs) (hx : a.eval x = .slice none 0 0)
  (h : wpList P ops Q rest (a.put o.dst v) w) : wpList P ops Q (o :: rest) a w := by
 refine wpList_plain hgd fun K hK => ?_
 have hr := run_append_owned_none (P := P) w base t o.type e i size ht hi v n xs hown;unfold Oper.wp execOp;simp only [ho,resolve,invoke,builtin,Sem.run_bind,Sem.run_pure,Result.andThen_ok,List.map_toArray,List.map_cons,List.map_nil,hs,hx,hr];exact hK _ _ h
theorem rsets_step (k : Int) (s : W4) (lo hi : Int) (z : Bool) (a b : Nat) (l : List Tr) (A : Nat -> Prop) (lv : Value) (w : World) (hlb : trSizes l <= 1048577000)
  (ht : RnAt w A (.mk k s lo hi z a b l) lv)
  (ih : ∀ (c : Tr) {i : Nat},l[i]? = some c -> ∀ (X : World) (B : Nat -> Prop) (v : Value),RnAt X B c v -> Calls Tryz.prog 9 #[rnV c v] X fun e w' => ∃ r,e = .returned r /\ SetsOwn X.heap.size (setsT c) r w' /\ Below X.heap.size X w') :
  Calls Tryz.prog 9 #[rnV (.mk k s lo hi z a b l) lv] w fun e w' => ∃ r,e = .returned r /\ SetsOwn w.heap.size (setsT (.mk k s lo hi z a b l)) r w' /\ Below w.heap.size w w' := by
 obtain ⟨p,cap,rfl⟩ := ht.slice_len;have HT := qhid ht;have HIH := qhid ih;have hlen := trSizes_len l;obtain ⟨i0,hif,hy0,hy1,hy2⟩ := info_parts Tryz.infoSt;obtain ⟨res,hres⟩ : ∃ r,r = setsT (.mk k s lo hi z a b l) := ⟨_,rfl⟩;rw [<- hres];have HRES := qhid hres;obtain ⟨W1,hW1⟩ : ∃ X,X = w.alloc (.cells #[.int .i64 k,.int .u64 s.a,.int .u64 s.b,.int .u64 s.c,.int .u64 s.d,.int .i64 lo,.int .i64 hi,.bool z,(.slice p l.length cap),.int .i64 (a : Int),.int .i64 (b : Int)] 32) := ⟨_,rfl⟩;have HB1 : Hid (Below w.heap.size w W1) := qhid (by rw [hW1];exact below1 w _);have HK1 : Hid (W1.heap[w.heap.size]? = some (.cells #[.int .i64 k,.int .u64 s.a,.int .u64 s.b,.int .u64 s.c,.int .u64 s.d,.int .i64 lo,.int .i64 hi,.bool z,(.slice p l.length cap),.int .i64 (a : Int),.int .i64 (b : Int)] 32)) := qhid (by rw [hW1];exact heap_new w _);have HW1 := qhid hW1;change Calls _ _ #[.agg #[.int .i64 k,.int .u64 s.a,.int .u64 s.b,.int .u64 s.c,.int .u64 s.d,.int .i64 lo,.int .i64 hi,.bool z,(.slice p l.length cap),.int .i64 (a : Int),.int .i64 (b : Int)]] _ _;clear ht ih hres hW1;have x0 := jC HK1.out 0;have x1 := jC HK1.out 1;have x2 := jC HK1.out 2;have x3 := jC HK1.out 3;have x4 := jC HK1.out 4;have x8 := jC HK1.out 8;have hx1 := jS HK1.out;simp only [Reg.la,Reg.lb,Reg.lc] at x0 x1 x2 x3 x4 x8
 by_cases hk : k = 1
 ·subst hk;have HP : Hid (setsT (.mk 1 s lo hi z a b l) = [s] ++ setsTs l) := qhid (by rw [setsT];rfl);have hb2 := below1 W1 (.cells #[.int .u64 s.a,.int .u64 s.b,.int .u64 s.c,.int .u64 s.d] 29)
  go_enter Tryz.func9,Tryz.ntmps9
  go_upto_region 1 with fail
  rw [<- HW1.out];clear HW1
  go_wp2_with (at_builtin;go_must (refine wpList_append_own_at _ rfl (.tmp 8) (.tmp 11) 37 rfl W1.heap.size 29 i0 (.agg #[.int .u64 0,.int .u64 0,.int .u64 0,.int .u64 0]) 4 32 Tryz.underlying37 hif hy0 hy1 hy2 rfl (by decide) _ 0 [] rfl ⟨rfl,.inl ⟨rfl,rfl⟩⟩ ⟨_,0,none⟩ 1 1 (flatS [s]) rfl rfl (cell_st_at _ _ s _ (by simp)) (flatS_one _) (by unfold maxLen;omega) (by omega) (by first | omega | (simp;done) | (simp;omega)) ?_;intro v4 w4 ho hg4 _ hat;have HG0 : Hid (SetsOwn W1.heap.size [s] v4 w4) := qhid ho;have HB2 := qhid (hb2.grown hg4 (by simp) (fun b hb => by have hb : (none : Option Nat) = some b := hb;cases hb));clear ho hg4 hat hb2))
  clear x0 x1 x2 x3 x4 x8 hx1
  go_wp2_with fail
  go_loopw [3,4] (fun ov iv wr => ∃ i : Nat,i <= l.length /\ iv = .int .i64 (i : Int) /\ Hid (SetsOwn W1.heap.size ([s] ++ setsTs (l.take i)) ov wr) /\ Hid (Below W1.heap.size W1 wr)) (fun _ iv _ => l.length - (intOf iv).toNat)
  case atStart => exact ⟨0,by omega,rfl,by simpa [setsTs] using HG0,HB2⟩
  case round =>
   obtain ⟨i,hi2,rfl,HG,HB⟩ := hrel;have HBW := qhid (HB1.out.trans (HB.out.mono HB1.out.size));have hb1 := (HB.out.block _ (jS HK1.out)).trans HK1.out;have x8 := jC hb1 8;have hl1 := jS hb1;simp only [Reg.la,Reg.lb,Reg.lc] at x8;clear hb1
   by_cases hlt : i < l.length
   ·obtain ⟨c,hc⟩ : ∃ c,l[i]? = some c := ⟨_,List.getElem?_eq_getElem hlt⟩;have HTK := qhid (setsTs_take l i c hc);have HLN := qhid (sets_room l i c hc);have HC := qhid (HIH.out c hc);obtain ⟨k1,s1,lo1,hi1,z1,a1,b1,l1⟩ := c;obtain ⟨g,cp1,lu1,hv1,hg1,hr1,c0,⟨c1,c2,c3,c4⟩,c5,c6,c7,c8,c9,c10⟩ := (HT.out.up HBW.out).get hc;injection hv1 with hv1 _ hv2;subst hv1 hv2;obtain ⟨pp,n1,cq,rfl⟩ := hr1.slice;have HR := qhid (HC.out wr _ _ hr1);have HST := qhid (show (setsT (.mk k1 s1 lo1 hi1 z1 a1 b1 l1)) = setsT (.mk k1 s1 lo1 hi1 z1 a1 b1 l1) from rfl);generalize setsT (.mk k1 s1 lo1 hi1 z1 a1 b1 l1) = L1 at *;clear hr1 hc HC HST;have hbw := HB.out.size
    go_wp2_with fail
    refine HR.out.mono ?_;rintro e w2 ⟨v2,rfl,hs2,hb⟩;have HB3 := qhid (HB.out.trans (hb.mono HB.out.size));have HG2 := qhid (HG.out.below hb);have hsz3 := HB3.out.size;have hlen := HLN.out;clear hb HR c0 c1 c2 c3 c4 c5 c6 c7 c8 c9 c10 x8 hl1 HG
    rcases hs2.2 with ⟨rfl,hz⟩ | ⟨g2,cap2,cur2,rfl,hg2a,hg2b,hg2c,hg2d,hg2e,hg2f⟩
    ·obtain rfl : L1 = [] := by simpa using hz
     clear hs2 hz;have HN2 : Hid (SetsOwn W1.heap.size ([s] ++ setsTs (l.take (i + 1))) _ w2) := qhid (by rw [HTK.out,List.append_nil];exact HG2.out)
     go_wp2_with (at_builtin;go_must (refine wpList_append_nilS rfl (.tmp 20) (.tmp 26) 37 rfl W1.heap.size 29 i0 4 Tryz.underlying37 hif hy1 _ _ _ rfl HG2.out rfl ?_))
     go_roundw
     case rel => exact ⟨i + 1,by omega,by go_num,HN2,HB3⟩
     case measure => simp [intOf];omega
    ·have hcell : ∀ j u,(flatS L1)[j]? = some u -> w2.cell? ((⟨g2,0,none⟩ : Addr).add j) = some u := hs2.cells (g := g2) rfl;have hone := flatS_one L1;have HHC := qhid (And.intro hcell hone);clear hcell hone hs2 hg2a hg2b hg2c hg2d hg2e hg2f
     go_wp2_with (at_builtin;go_must (refine wpList_append_own_at _ rfl (.tmp 20) (.tmp 26) 37 rfl W1.heap.size 29 i0 (.agg #[.int .u64 0,.int .u64 0,.int .u64 0,.int .u64 0]) 4 32 Tryz.underlying37 hif hy0 hy1 hy2 rfl (by decide) _ _ _ rfl HG2.out ⟨g2,0,none⟩ L1.length cap2 (flatS L1) rfl (by rw [flatS_len]) HHC.out.1 HHC.out.2 (by unfold maxLen;first | omega | (simp;omega)) (by first | omega | (simp;omega)) (by omega) ?_;intro v4 w4 ho hg4 _ hat;have HG4 : Hid (SetsOwn W1.heap.size ([s] ++ setsTs (l.take (i + 1))) v4 w4) := qhid (by rw [HTK.out];unfold SetsOwn;rw [<- List.append_assoc,List.length_append,flatS_append];exact ho);have HB4 := qhid (HB3.out.grown hg4 hsz3 (fun b hb => (ownsLt HG2.out hb).1));clear ho hg4 hat))
     clear HG2 HB3 HHC
     go_wp2_with fail
     go_roundw
     case rel => exact ⟨i + 1,by omega,by go_num,HG4,HB4⟩
     case measure => simp [intOf];omega
   ·obtain rfl : i = l.length := by omega
    have HF : Hid (SetsOwn w.heap.size res _ wr) := qhid (by rw [HRES.out,show setsT _ = [s] ++ setsTs l from HP.out];have h := HG.out;rw [List.take_of_length_le (jN _)] at h;exact ownsRow_mono h HB1.out.size);clear HG
    go_wp2_with fail
    exact bodyPost_ret (by simp [results,Tryz.results9,go_sem]) rfl ⟨_,rfl,HF.out,HBW.out⟩
 ·have HP : Hid (setsT (.mk k s lo hi z a b l) = [] ++ setsTs l) := qhid (by rw [setsT,if_neg hk]);have hkb : ((k : Int) == 1) = false := by simpa using hk
  have HG0 := qhid (SetsOwn.start W1.heap.size W1);have HB2 := qhid (Below.refl W1.heap.size W1);clear hk
  go_enter Tryz.func9,Tryz.ntmps9
  go_upto_region 1 with fail
  rw [<- HW1.out];clear HW1
  go_wp2_with fail
  clear x0 x1 x2 x3 x4 x8 hx1
  go_loopw [3,4] (fun ov iv wr => ∃ i : Nat,i <= l.length /\ iv = .int .i64 (i : Int) /\ Hid (SetsOwn W1.heap.size ([] ++ setsTs (l.take i)) ov wr) /\ Hid (Below W1.heap.size W1 wr)) (fun _ iv _ => l.length - (intOf iv).toNat)
  case atStart => exact ⟨0,by omega,rfl,by simpa [setsTs] using HG0,HB2⟩
  case round =>
   obtain ⟨i,hi2,rfl,HG,HB⟩ := hrel;have HBW := qhid (HB1.out.trans (HB.out.mono HB1.out.size));have hb1 := (HB.out.block _ (jS HK1.out)).trans HK1.out;have x8 := jC hb1 8;have hl1 := jS hb1;simp only [Reg.la,Reg.lb,Reg.lc] at x8;clear hb1
   by_cases hlt : i < l.length
   ·obtain ⟨c,hc⟩ : ∃ c,l[i]? = some c := ⟨_,List.getElem?_eq_getElem hlt⟩;have HTK := qhid (setsTs_take l i c hc);have HLN := qhid (sets_room l i c hc);have HC := qhid (HIH.out c hc);obtain ⟨k1,s1,lo1,hi1,z1,a1,b1,l1⟩ := c;obtain ⟨g,cp1,lu1,hv1,hg1,hr1,c0,⟨c1,c2,c3,c4⟩,c5,c6,c7,c8,c9,c10⟩ := (HT.out.up HBW.out).get hc;injection hv1 with hv1 _ hv2;subst hv1 hv2;obtain ⟨pp,n1,cq,rfl⟩ := hr1.slice;have HR := qhid (HC.out wr _ _ hr1);have HST := qhid (show (setsT (.mk k1 s1 lo1 hi1 z1 a1 b1 l1)) = setsT (.mk k1 s1 lo1 hi1 z1 a1 b1 l1) from rfl);generalize setsT (.mk k1 s1 lo1 hi1 z1 a1 b1 l1) = L1 at *;clear hr1 hc HC HST;have hbw := HB.out.size
    go_wp2_with fail
    refine HR.out.mono ?_;rintro e w2 ⟨v2,rfl,hs2,hb⟩;have HB3 := qhid (HB.out.trans (hb.mono HB.out.size));have HG2 := qhid (HG.out.below hb);have hsz3 := HB3.out.size;have hlen := HLN.out;clear hb HR c0 c1 c2 c3 c4 c5 c6 c7 c8 c9 c10 x8 hl1 HG
    rcases hs2.2 with ⟨rfl,hz⟩ | ⟨g2,cap2,cur2,rfl,hg2a,hg2b,hg2c,hg2d,hg2e,hg2f⟩
    ·obtain rfl : L1 = [] := by simpa using hz
     clear hs2 hz;have HN2 : Hid (SetsOwn W1.heap.size ([] ++ setsTs (l.take (i + 1))) _ w2) := qhid (by rw [HTK.out,List.append_nil];exact HG2.out)
     go_wp2_with (at_builtin;go_must (refine wpList_append_nilS rfl (.tmp 20) (.tmp 26) 37 rfl W1.heap.size 29 i0 4 Tryz.underlying37 hif hy1 _ _ _ rfl HG2.out rfl ?_))
     go_roundw
     case rel => exact ⟨i + 1,by omega,by go_num,HN2,HB3⟩
     case measure => simp [intOf];omega
    ·have hcell : ∀ j u,(flatS L1)[j]? = some u -> w2.cell? ((⟨g2,0,none⟩ : Addr).add j) = some u := hs2.cells (g := g2) rfl;have hone := flatS_one L1;have HHC := qhid (And.intro hcell hone);clear hcell hone hs2 hg2a hg2b hg2c hg2d hg2e hg2f
     go_wp2_with (at_builtin;go_must (refine wpList_append_own_at _ rfl (.tmp 20) (.tmp 26) 37 rfl W1.heap.size 29 i0 (.agg #[.int .u64 0,.int .u64 0,.int .u64 0,.int .u64 0]) 4 32 Tryz.underlying37 hif hy0 hy1 hy2 rfl (by decide) _ _ _ rfl HG2.out ⟨g2,0,none⟩ L1.length cap2 (flatS L1) rfl (by rw [flatS_len]) HHC.out.1 HHC.out.2 (by unfold maxLen;first | omega | (simp;omega)) (by first | omega | (simp;omega)) (by omega) ?_;intro v4 w4 ho hg4 _ hat;have HG4 : Hid (SetsOwn W1.heap.size ([] ++ setsTs (l.take (i + 1))) v4 w4) := qhid (by rw [HTK.out];unfold SetsOwn;rw [<- List.append_assoc,List.length_append,flatS_append];exact ho);have HB4 := qhid (HB3.out.grown hg4 hsz3 (fun b hb => (ownsLt HG2.out hb).1));clear ho hg4 hat))
     clear HG2 HB3 HHC
     go_wp2_with fail
     go_roundw
     case rel => exact ⟨i + 1,by omega,by go_num,HG4,HB4⟩
     case measure => simp [intOf];omega
   ·obtain rfl : i = l.length := by omega
    have HF : Hid (SetsOwn w.heap.size res _ wr) := qhid (by rw [HRES.out,show setsT _ = [] ++ setsTs l from HP.out];have h := HG.out;rw [List.take_of_length_le (jN _)] at h;exact ownsRow_mono h HB1.out.size);clear HG
    go_wp2_with fail
    exact bodyPost_ret (by simp [results,Tryz.results9,go_sem]) rfl ⟨_,rfl,HF.out,HBW.out⟩
theorem rsets_any : ∀ (n : Nat) (t : Tr) (A : Nat -> Prop) (lv : Value) (w : World),trSize t <= n -> n <= 1048577000 -> RnAt w A t lv ->
  Calls Tryz.prog 9 #[rnV t lv] w fun e w' => ∃ r,e = .returned r /\ SetsOwn w.heap.size (setsT t) r w' /\ Below w.heap.size w w'
 | 0,t,A,lv,w,h,_,_ => by have := trSize_pos t;omega
 | n + 1,.mk k s lo hi z a b l,A,lv,w,h,hn,ht => by
  rw [trSize] at h;exact rsets_step k s lo hi z a b l A lv w (by omega) ht (fun c i hc X B v h1 => rsets_any n c B v X (by have := trSize_mem (List.mem_of_getElem? hc);omega) (by omega) h1)
end
end Go.Proofs.YtlmcgbieobklhaaGreatDoor
