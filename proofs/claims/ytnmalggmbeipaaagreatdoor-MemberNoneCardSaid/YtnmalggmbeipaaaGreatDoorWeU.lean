/- A part of the proof. -/
import Derived.Test.YtnmalggmbeipaaaGreatDoorWeG
import Derived.Laws.MakeOwn
import Derived.Test.YtnmalggmbeipaaaGreatDoorWeH
import Derived.Test.YtnmalggmbeipaaaGreatDoorCso
set_option maxRecDepth 100000
set_option maxHeartbeats 16000000
namespace Go.Proofs.YtnmalggmbeipaaaGreatDoor
section
section
open Go Go.RowKit
attribute [local go_sem ↓] Go.wp_at_zero Go.wp_at_succ
attribute [local go_sem] eq4
def vlI (n : Nat) (f : Nat -> Int) : Array Value := ((List.range n).map fun i => Value.int .i64 (f i)).toArray
theorem vlI_at (n : Nat) (f : Nat -> Int) (k : Nat) (h : k < n) : (vlI n f)[k]? = some (.int .i64 (f k)) := by
 unfold vlI;simp [h]
theorem vlI_size (n : Nat) (f : Nat -> Int) : (vlI n f).size = n := by unfold vlI;simp
theorem vlI_congr {n : Nat} {f g : Nat -> Int} (h : ∀ i,i < n -> f i = g i) : vlI n f = vlI n g := by
 unfold vlI;congr 1;exact List.map_congr_left fun i hi => by rw [h i (List.mem_range.1 hi)]
theorem vlI_set (n : Nat) (f : Nat -> Int) (k : Nat) (v : Int) : (vlI n f).setIfInBounds k (.int .i64 v) = vlI n (fun i => if i = k then v else f i) := by
 apply Array.ext_getElem?;intro i
 by_cases hi : i < n
 ·by_cases hik : k = i
  ·subst hik;rw [vlI_at _ _ _ hi,if_pos rfl];have : k < (vlI n f).size := by rw [vlI_size];exact hi
   simp [this]
  ·rw [Array.getElem?_setIfInBounds_ne hik,vlI_at _ _ _ hi,vlI_at _ _ _ hi,if_neg (Ne.symm hik)]
 ·rw [Array.getElem?_eq_none (by simp [vlI_size];omega),Array.getElem?_eq_none (by simp [vlI_size];omega)]
theorem made_vlI (n : Nat) : madeCells #[.int .i64 0] n = vlI n fun _ => 0 := by
 apply Array.ext_getElem?;intro i
 by_cases hi : i < n
 ·rw [vlI_at _ _ _ hi];unfold madeCells;simp [hi,Nat.mod_one]
 ·rw [Array.getElem?_eq_none (by rw [size_madeCells];omega),Array.getElem?_eq_none (by rw [vlI_size];omega)]
theorem Tryz.infoIntW : (Tryz.prog.info? 3).map (fun i => (i.zero,i.size,i.bytes)) = some (some (.int .i64 0),1,8) := by kernel_rfl
theorem mk_vlI (n : Nat) (hn : n <= 1048576) (w : World) : (Instr.makeSlice 60 (.int .i64 (n : Int)) (.int .i64 (n : Int))).run Tryz.prog w = .ok (.slice (some ⟨w.heap.size,0,none⟩) n n) (w.alloc (.cells (vlI n fun _ => 0) 3)) := by
 obtain ⟨i0,hi,hz0,hz1,hz2⟩ := info_parts Tryz.infoIntW;have h := run_make (P := Tryz.prog) w 60 3 i0 _ Tryz.underlying60 hi hz0 .i64 .i64 (n : Int) (n : Int) (by omega) (by omega) (by rw [hz2];omega) (by omega);rw [h,hz1];simp only [Int.toNat_natCast,Nat.mul_one];rw [<- made_vlI];rfl
def VecI (w : World) (b : Nat) (n : Nat) (f : Nat -> Int) : Prop := w.heap[b]? = some (.cells (vlI n f) 3 (0,0))
theorem VecI.cell {w : World} {b n : Nat} {f : Nat -> Int} (h : VecI w b n f) {i : Nat} (hi : i < n) : w.cell? ⟨b,i,none⟩ = some (.int .i64 (f i)) := (jC h i).trans (vlI_at n f i hi)
theorem VecI.up {w w' : World} {b n : Nat} {f : Nat -> Int} (h : VecI w b n f) (hb : Below w.heap.size w w') : VecI w' b n f := below_kept hb h
theorem set_onlyX (w : World) (b i : Nat) (v : Value) : w.grownBy (w.setCell ⟨b,i,none⟩ v) (some b) := only_setCell (only_refl w (some b)) (.inl rfl) _
structure LsI (w wr : World) (g r b n : Nat) (f : Wts) (left : Lit -> Bool) (cnt : Nat) (D0 : DataW Nat) : Prop where
 rg : wr.ranges Tryz.prog 3 (plainElem Tryz.prog 3) b r (Maps.size D0) D0 left cnt
 vec : VecI wr g n (fun i => if left (kyW i) then 0 else f i)
 bel : Below w.heap.size w wr
theorem list_any (w : World) (m : Option Nat) (f : Wts) (n : Nat) (h : WtAt w (.map m) f) (hF : WtOK n f) (hn : n <= 100000) :
  Calls Tryz.prog 107 #[.map m,.int .i64 (n : Int)] w fun e w' => ∃ g,e = .returned (.slice (some ⟨g,0,none⟩) n n) /\ VecI w' g n f /\ Below w.heap.size w w' := by
 have hmk := mk_vlI n (by omega) w;have hb1 := below1 w (.cells (vlI n fun _ => 0) 3);have e1 : (w.alloc (.cells (vlI n fun _ => 0) 3)).heap.size = w.heap.size + 1 := by simp
 have hv0 : VecI (w.alloc (.cells (vlI n fun _ => 0) 3)) w.heap.size n (fun _ => 0) := heap_new _ _
 rcases h with ⟨e,rfl⟩ | ⟨b,e,hbl,⟨D0,hown,hd⟩,hne⟩
 ·obtain rfl : m = none := by injection e
  have hrg := run_range_nilMap (P := Tryz.prog) (w.alloc (.cells (vlI n fun _ => 0) 3)) 194 3 3 Tryz.underlying194;have hnx : ∀ ty,(Instr.next (.pointer (some ⟨(w.alloc (.cells (vlI n fun _ => 0) 3)).heap.size,0,none⟩)) false ty).run Tryz.prog ((w.alloc (.cells (vlI n fun _ => 0) 3)).alloc (.mapIter none 0 #[] 0)) = _ := fun ty => run_next_nilMap _ ty 0 0 #[]
  rw [e1] at hrg hnx;have HV := qhid hv0;have HB := qhid hb1;clear hv0 hb1 e1
  go_enter Tryz.func107,Tryz.ntmps107
  go_wp2_with fail
  refine wp_loop_rounds 1 ?_;rw [rounds_succ]
  go_wp2_with fail
  go_ret
  exact ⟨_,rfl,HV.out.up (below1 _ _),HB.out.trans ((below1 _ _).mono HB.out.size)⟩
 ·obtain rfl : m = some b := by injection e
  have HF := qhid hF;have HD0 := qhid hd;have HV := qhid hv0;have HB := qhid hb1;have hl := hown.lt;clear hF hd hv0 hb1 hne e
  go_enter Tryz.func107,Tryz.ntmps107
  go_wp2_with (first
   | (at_range;refine wpList_range_own _ rfl _ 194 rfl 3 3 lawI Tryz.underlying194 _ b _ _ rfl (hown.alloc _) ?_;intro w0 hrg0 hg0 hs0)
   | go_in)
  rw [e1] at hrg0 hs0
  have HI0 : Hid (LsI w w0 w.heap.size (w.heap.size + 1) b n f (Maps.has D0) (Maps.size D0) D0) := qhid (by
   refine ⟨hrg0,?_,?_⟩
   ·have h1 : VecI w0 w.heap.size n (fun _ => 0) := (hg0.block w.heap.size (by rw [e1];omega) (by simp)).trans HV.out
    have h2 : vlI n (fun i => if Maps.has D0 (kyW i) then 0 else f i) = vlI n (fun _ => 0) := vlI_congr fun i _ => by
     rw [HD0.out.has i]
     by_cases h : f i = 0
     ·simp [h]
     ·simp [h]
    unfold VecI;rw [h2];exact h1
   ·exact ⟨hg0.os.trans HB.out.os,hg0.tape.trans HB.out.tape,hg0.output.trans HB.out.output,Nat.le_trans HB.out.size hg0.size,fun k hk => (hg0.block k (by rw [e1];omega) (by simp)).trans (HB.out.block k hk)⟩)
  clear hrg0 hg0;obtain ⟨g,hg⟩ : ∃ x,x = w.heap.size := ⟨_,rfl⟩;rw [<- hg] at HI0 ⊢;have HGE := qhid hg;clear hg HV HB hmk e1
  go_loopw [6] (fun _ wr => ∃ (left : Lit -> Bool) (cnt : Nat),Hid (LsI w wr g (g + 1) b n f left cnt D0))
   (fun _ wr => wr.rangeLeft b (g + 1))
  case atStart => exact ⟨_,_,HI0⟩
  case round =>
   obtain ⟨left,cnt,HI⟩ := hrel;have hrg := HI.out.rg
   go_upto_region 5 with (first
    | (at_next;refine wpList_next_ranges_ii _ rfl _ rfl 3 3 .i64 .i64 lawI Tryz.underlying3 Tryz.underlying3 b (g + 1) _ _ _ _ rfl hrg ?_ ?_)
    | go_in)
   ·intro hc0 hl0
    go_wp2
    go_ret
    refine ⟨g,rfl,?_,HI.out.bel⟩;have h2 : vlI n (fun i => if left (kyW i) then 0 else f i) = vlI n f := vlI_congr fun i _ => by rw [hl0];rfl
    have := HI.out.vec;unfold VecI at this ⊢;rw [<- h2];exact this
   ·intro x c w1 cnt1 hwx hwc hlx hat hrg1 hlt hg1 hs1 hen
    have hk : Maps.has D0 (.int .i64 x) = true := by
     cases e : Maps.has D0 (.int .i64 x) with
     | true => rfl
     | false =>
      have h1 := Maps.atKey_of_not_has e (.lit (.int .i64 (c + 1)));rw [hat] at h1;injection h1 with h1;injection h1 with _ h1;omega
    obtain ⟨q,hq⟩ := HD0.out.keys _ hk;obtain rfl : x = (q : Int) := by simpa [kyW] using hq
    have hfq : f q ≠ 0 := by
     have := HD0.out.has q;rw [show Maps.has D0 (kyW q) = true from hk] at this;simpa using this.symm
    obtain rfl : c = f q := by
     have := HD0.out.at_ q hfq (.lit (.int .i64 0));rw [show D0.atKey (kyW q) _ = _ from hat _] at this;injection this with this;injection this with _ this
    have hqN : q < n := Nat.lt_of_not_le fun hle => hfq (HF.out.out q hle)
    have hvg : VecI w1 g n (fun i => if left (kyW i) then 0 else f i) := (hg1.block g (jS HI.out.vec) (fun e => by have := Option.some.inj e;omega)).trans HI.out.vec;have hc := hvg.cell hqN;have hfz := jU hvg q;have HVG := qhid hvg;have HRG1 := qhid hrg1;have HLT := qhid hlt;have HRG := qhid hrg;have HG1 := qhid hg1;clear hvg hrg1 hlt hrg hg1 hfq hk hat hwx hwc hlx
    go_wp2_with fail
    have HS1 := qhid (set_onlyX w1 g q (.int .i64 (f q)));have HR2 : Hid ((w1.setCell ⟨g,q,none⟩ (.int .i64 (f q))).ranges Tryz.prog 3 (plainElem Tryz.prog 3) b (g + 1) (Maps.size D0) D0 (fun z => left z && !z.sameKey (kyW q)) cnt1) := qhid (ranges_kept HRG1.out (HS1.out.block b HRG1.out.owns.lt (fun e => by have := Option.some.inj e;have := HGE.out;omega)) (HS1.out.block (g + 1) HRG1.out.lt (fun e => by have := Option.some.inj e;omega)))
    go_roundw
    case rel =>
     refine ⟨_,cnt1,qhid ⟨HR2.out,?_,?_⟩⟩
     ·have h1 := Joins.block_setCell (i := q) HVG.out (.int .i64 (f q));rw [vlI_set] at h1;refine h1.trans ?_;congr 2;refine vlI_congr fun i _ => ?_
      by_cases hi : i = q
      ·subst hi;rw [if_pos rfl,WideAt.sameKey_self (show WideAt.IsKeyLit (kyW i) from trivial)];simp
      ·rw [if_neg hi,Maps.sameKey_ne (fun e => hi (kyW_inj e))];simp
     ·have hge := HGE.out;exact ⟨HS1.out.os.trans (HG1.out.os.trans HI.out.bel.os),HS1.out.tape.trans (HG1.out.tape.trans HI.out.bel.tape),HS1.out.output.trans (HG1.out.output.trans HI.out.bel.output),Nat.le_trans HI.out.bel.size (Nat.le_trans HG1.out.size HS1.out.size),fun k hk => (HS1.out.block k (by have := HI.out.bel.size;have := HG1.out.size;omega) (fun e => by have := Option.some.inj e;omega)).trans ((HG1.out.block k (by have := HI.out.bel.size;omega) (fun e => by have := Option.some.inj e;omega)).trans (HI.out.bel.block k hk))⟩
    case measure =>
     rw [HR2.out.left_eq,HRG.out.left_eq];exact HLT.out
end
end
end Go.Proofs.YtnmalggmbeipaaaGreatDoor
namespace Go.Proofs.YtnmalggmbeipaaaGreatDoor
section
section
open Go Go.RowKit
attribute [local go_sem ↓] Go.wp_at_zero Go.wp_at_succ
attribute [local go_sem] eq4
structure WgAt (w : World) (wb : Nat) (c : Co) : Prop where
 ex : ∃ (mf ml : Option Nat) (sp fp : Option Addr) (sc fc : Nat) (fs : List (Option Nat)),w.heap[wb]? = some (wgOb ((prtC c).places : Int) (prtC c).void mf ml (.slice sp (prtC c).places sc) (.slice fp (prtC c).places fc)) /\
  WtAt w (.map mf) (prtC c).first /\ WtAt w (.map ml) (prtC c).last /\ (∃ B,w.ownsRow B 29 4 (.slice sp (prtC c).places sc) (prtC c).places (((folC c noneW 0).map Prod.fst).flatMap setV)) /\
  (∃ B,w.ownsRow B 194 1 (.slice fp (prtC c).places fc) (prtC c).places (fs.map Value.map)) /\ FolAt w fs (folC c noneW 0)
 le : (prtC c).places <= 600
theorem FolAt.upB {w w' : World} {fs : List (Option Nat)} {out : List (W4 × Wts)} (h : FolAt w fs out) (hb : Below w.heap.size w w') : FolAt w' fs out := h.up (KW.below hb)
theorem WgAt.up {w w' : World} {wb : Nat} {c : Co} (h : WgAt w wb c) (hb : Below w.heap.size w w') : WgAt w' wb c := by
 obtain ⟨⟨mf,ml,sp,fp,sc,fc,fs,h1,h2,h3,⟨B,h4⟩,⟨B',h5⟩,h6⟩,h7⟩ := h;exact ⟨⟨mf,ml,sp,fp,sc,fc,fs,below_kept hb h1,h2.up hb,h3.up hb,⟨B,ownsKeep h4 (grown_below none hb) (fun g _ e => by cases e)⟩,⟨B',ownsKeep h5 (grown_below none hb) (fun g _ e => by cases e)⟩,h6.upB hb⟩,h7⟩
theorem owns_slice {w : World} {B : Nat} {e : TypeId} {sz : Nat} {v : Value} {n : Nat} {xs : List Value} (h : w.ownsRow B e sz v n xs) : ∃ p c,v = .slice p n c := by
 rcases h.2 with ⟨rfl,rfl⟩ | ⟨g,cap,cur,rfl,_⟩
 ·exact ⟨none,0,rfl⟩
 ·exact ⟨_,_,rfl⟩
def NewTo (w w' : World) (e : Ending) (c : Co) : Prop :=
 Below w.heap.size w w' /\ (((prtC c).places <= 600 /\ ∃ wb,e = .returned (.tuple #[.pointer (some ⟨wb,0,none⟩),.int .i64 0]) /\ WgAt w' wb c) \/ (600 < (prtC c).places /\ e = .returned (.tuple #[.pointer none,.int .i64 3])))
theorem new_any (w : World) (x : PC) (hx : PCAt w x) (hk : KoK x.co) (hs : x.sz <= 1000000000) :
  Calls Tryz.prog 156 #[kPtr x.ptr] w fun e w' => NewTo w w' e x.co := by
 have HL := qhid (learn_any w x hx hk hs);have HX := qhid hx;have HKO := qhid hk;have HS := qhid hs;obtain ⟨q,k,s,z,a,b,ex,_⟩ := hk.ptr;have HPT : Hid (x.ptr = some q) := qhid (by rw [ex];rfl);rw [HPT.out] at HL ⊢;unfold kPtr at HL ⊢;clear hx hk hs ex
 go_enter Tryz.func156,Tryz.ntmps156
 go_wp2_with fail
 refine HL.out.mono ?_;rintro e w1 ⟨hb,⟨h6,mb,D,rfl,hkn⟩ | ⟨h6,rfl⟩⟩
 ·obtain ⟨q',mf,ml,e1,e2,e3,e4,_,_⟩ := kn_at hkn.kn HX.out hkn.root;obtain rfl : q' = q := by rw [HPT.out] at e1;exact (Option.some.inj e1).symm
  have hiq : IsK w1 (some q') := by have := isK_up HX.out.isK hb;rw [HPT.out] at this;exact this
  have hlk := vlookup_at hkn.map.map hiq hkn.map.keys (zeroPart w1);rw [e2,Option.getD_some] at hlk;unfold kPtr at hlk;simp only [Option.map_some] at hlk;obtain ⟨p,hp⟩ : ∃ n : Int,n = ((prtC x.co).places : Int) := ⟨_,rfl⟩;obtain ⟨v,hv⟩ : ∃ n,n = (prtC x.co).void := ⟨_,rfl⟩;rw [<- hp,<- hv] at hlk;have HP := qhid hp;have HV := qhid hv;have HKN := qhid hkn;have HB := qhid hb;have H3 := qhid e3;have H4 := qhid e4;have H6 := qhid h6;obtain ⟨W1,hW1⟩ : ∃ X,X = w1.alloc (wgOb p v mf ml (.slice none 0 0) (.slice none 0 0)) := ⟨_,rfl⟩;have hb1 : Below w1.heap.size w1 W1 := by rw [hW1];exact below1 _ _
  have HME : Hid (W1.heap[w1.heap.size]? = some (wgOb p v mf ml (.slice none 0 0) (.slice none 0 0))) := qhid (by rw [hW1];exact heap_new _ _);have HN := qhid (number_any w W1 w1.heap.size mb D x p v mf ml (hb.trans (hb1.mono hb.size)) HX.out HKO.out (hkn.map.up hb1) (hkn.kn.up hb1) hkn.root HME.out HS.out);rw [HPT.out] at HN;unfold kPtr at HN;have HB1 := qhid hb1;have HW1 := qhid hW1;clear hb1 hW1 hkn hb e1 e2 e3 e4 h6 hiq hp hv
  go_wp2_with fail
  rw [show w1.alloc (wgOb p v mf ml (.slice none 0 0) (.slice none 0 0)) = W1 from HW1.out.symm];refine HN.out.mono ?_;rintro e w2 ⟨rfl,fs,lv,sv,fv,hM,hF⟩;have HMM := qhid hM;have HFF := qhid hF;clear hM hF
  go_wp2_with fail
  refine bodyPost_ret (v := .tuple #[.pointer (some ⟨w1.heap.size,0,none⟩),.int .i64 0]) (by simp [results,Tryz.results156,go_sem]) rfl ⟨?_,.inl ⟨H6.out,w1.heap.size,rfl,?_,H6.out⟩⟩
  ·exact below_grown (HB.out.trans (HB1.out.mono HB.out.size)) HMM.out.gr HB.out.size
  ·have hl : (List.map Prod.fst (folC x.co noneW 0)).length = (prtC x.co).places := by rw [List.length_map,fol_len]
   have hl2 : fs.length = (prtC x.co).places := by rw [HFF.out.len,fol_len]
   have hs := HMM.out.srow;have hf := HMM.out.frow;rw [hl] at hs;rw [hl2] at hf;obtain ⟨sp,sc,rfl⟩ := owns_slice hs;obtain ⟨fp,fc,rfl⟩ := owns_slice hf;have hk : KW w1 w2 := (KW.below HB1.out).trans (KW.cells HMM.out.gr (fun g e => by rw [<- Option.some.inj e];exact ⟨_,_,_,HME.out⟩));refine ⟨mf,ml,sp,fp,sc,fc,fs,?_,hk _ _ H3.out,hk _ _ H4.out,⟨_,hs⟩,⟨_,hf⟩,HFF.out⟩;rw [<- HP.out,<- HV.out];exact HMM.out.me
 ·have HB := qhid hb;have H6 := qhid h6;clear hb h6
  go_wp2_with fail
  exact bodyPost_ret (v := .tuple #[.pointer none,.int .i64 3]) (by simp [results,Tryz.results156,go_sem]) rfl ⟨HB.out,.inr ⟨H6.out,rfl⟩⟩
end
end
end Go.Proofs.YtnmalggmbeipaaaGreatDoor
namespace Go.Proofs.YtnmalggmbeipaaaGreatDoor
section
section
open Go Go.RowKit
attribute [local go_sem ↓] Go.wp_at_zero Go.wp_at_succ
attribute [local go_sem] eq4
theorem places_any (w : World) (wb : Nat) (c : Co) (h : WgAt w wb c) : Calls Tryz.prog 71 #[.pointer (some ⟨wb,0,none⟩)] w fun e w' => e = .returned (.int .i64 ((prtC c).places : Int)) /\ w' = w := by
 obtain ⟨⟨mf,ml,sp,fp,sc,fc,fs,hme,_⟩,h6⟩ := h;obtain ⟨_,_,_,_,g4,_⟩ := wg_cells hme;obtain ⟨n,hn⟩ : ∃ n,n = (prtC c).places := ⟨_,rfl⟩;rw [<- hn] at g4 ⊢;clear hme h6 hn
 go_enter Tryz.func71,Tryz.ntmps71
 go_wp2_with fail
 go_ret
 exact ⟨rfl,rfl⟩
theorem void_any (w : World) (wb : Nat) (c : Co) (h : WgAt w wb c) : Calls Tryz.prog 60 #[.pointer (some ⟨wb,0,none⟩)] w fun e w' => e = .returned (.int .i64 (prtC c).void) /\ w' = w := by
 obtain ⟨⟨mf,ml,sp,fp,sc,fc,fs,hme,_⟩,h6⟩ := h;obtain ⟨_,g1,_,_,_,_⟩ := wg_cells hme;obtain ⟨v,hv⟩ : ∃ n,n = (prtC c).void := ⟨_,rfl⟩;rw [<- hv] at g1 ⊢;clear hme h6 hv
 go_enter Tryz.func60,Tryz.ntmps60
 go_wp2_with fail
 go_ret
 exact ⟨rfl,rfl⟩
theorem there_any (w : World) (wb : Nat) (c : Co) (h : WgAt w wb c) (p : Nat) (hp : p < (prtC c).places) : Calls Tryz.prog 159 #[.pointer (some ⟨wb,0,none⟩),.int .i64 (p : Int)] w fun e w' => e = .returned (.bool true) /\ w' = w := by
 have HP := qhid (places_any w wb c h);obtain ⟨n,hn⟩ : ∃ n,n = (prtC c).places := ⟨_,rfl⟩;rw [<- hn] at HP hp;clear h hn
 go_enter Tryz.func159,Tryz.ntmps159
 go_wp2_with (go_at_call 71;refine HP.out.mono ?_;rintro e w2 ⟨rfl,hw2⟩;subst hw2)
 exact bodyPost_ret (v := .bool true) (by simp [results,Tryz.results159,go_sem]) rfl ⟨rfl,rfl⟩
theorem vec_up {n : Nat} {f : Wts} : Reg.UpP (fun (_ : Nat) (b : Nat) X => VecI X b n f) := fun _ _ _ _ hb h => VecI.up h hb
def wf3 (wb g n fc p : Nat) (m : Option Nat) (gh : Nat -> Nat) : Nat -> Value
 | 0 => .pointer (some ⟨wb,0,none⟩)
 | 1 => .pointer (some ⟨wb,0,none⟩)
 | 2 => .pointer (some ⟨wb,5,none⟩)
 | 3 => .slice (some ⟨g,0,none⟩) n fc
 | 4 => .int .i64 (p : Int)
 | 5 => .pointer (some ⟨g,p,none⟩)
 | 6 => .map m
 | 7 => .pointer (some ⟨wb,0,none⟩)
 | 8 => .int .i64 (n : Int)
 | 9 => .slice (some ⟨gh 9,0,none⟩) n n
 | 10 => .slice (some ⟨gh 9,0,none⟩) n n
 | _ => undef
theorem wf3_9 {wb g n fc p x j : Nat} {m : Option Nat} {gh : Nat -> Nat} (h9 : j ≠ 9) (h10 : j ≠ 10) : wf3 wb g n fc p m (Reg.updP gh 9 x) j = wf3 wb g n fc p m gh j := by
 unfold wf3
 split <;> first | rfl | exact absurd rfl ‹_›
theorem follow_any (w : World) (wb : Nat) (c : Co) (h : WgAt w wb c) (p : Nat) (x : W4 × Wts) (hx : (folC c noneW 0)[p]? = some x) :
  Calls Tryz.prog 112 #[.pointer (some ⟨wb,0,none⟩),.int .i64 (p : Int)] w fun e w' => ∃ g,e = .returned (.slice (some ⟨g,0,none⟩) (prtC c).places (prtC c).places) /\ VecI w' g (prtC c).places x.2 /\ Below w.heap.size w w' := by
 have hp : p < (prtC c).places := by
  have := (List.getElem?_eq_some_iff.1 hx).1
  rwa [fol_len] at this
 have HTH := qhid (there_any w wb c h p hp);have HWG := qhid h;have hok : WtOK (prtC c).places x.2 := fol_ok c noneW 0 (prtC c).places (noneW_ok _) (by omega) x (List.mem_of_getElem? hx);obtain ⟨⟨mf,ml,sp,fp,sc,fc,fs,hme,_,_,_,⟨B,hf⟩,hfol⟩,h6⟩ := h;have hfl : fs.length = (prtC c).places := by rw [hfol.len,fol_len]
 obtain ⟨m,hm⟩ : ∃ m,fs[p]? = some m := ⟨fs[p]'(by omega),List.getElem?_eq_getElem (by omega)⟩;have hwt := hfol.at_ p m x hm hx;obtain ⟨g,cap,hv,_,hgl⟩ := hf.form (by omega);have hfp : fp = some ⟨g,0,none⟩ := by injection hv
 subst hfp
 have hce : w.cell? ⟨g,p,none⟩ = some (.map m) := by
  have key := hf.cells (g := g) rfl p (.map m) (by rw [List.getElem?_map,hm];rfl);have ha : (⟨g,0,none⟩ : Addr).add p = ⟨g,p,none⟩ := by unfold Addr.add;split <;> simp_all
  rwa [ha] at key
 obtain ⟨f,hff⟩ : ∃ f,f = x.2 := ⟨_,rfl⟩;obtain ⟨n,hn⟩ : ∃ n,n = (prtC c).places := ⟨_,rfl⟩;rw [<- hff] at hok hwt ⊢;rw [<- hn] at hok hme h6 hp ⊢;have HME := qhid hme;have HOK := qhid hok;have HWT := qhid hwt;have HCE := qhid hce;have HGL := qhid hgl;have HNP := qhid hn;have HPN := qhid hp;have HNL := qhid h6;clear hme hok hwt hce hgl hn hp h6 hf hfol hfl hm hv hff hx
 go_enter Tryz.func112,Tryz.ntmps112
 go_wp2_with fail
 refine HTH.out.mono ?_;rintro e w2 ⟨rfl,hw2⟩;obtain rfl := hw2
 go_upto_region 3 with fail
 refine Reg.wp_region_H (wf3 wb g n fc p m) (Reg.MkP w2 [9] (fun _ b X => VecI X b n f)) (fun _ => 0) [0,1,2,3,4,5,6,7,8,9,10] (by rfl) (by kernel_rfl) (by kernel_rfl) ?_ ?_ ?_
 ·exact Reg.MkP.start _ _
 ·refine ⟨fun gh listed A X hI hcl hin hun hall => ⟨Reg.wanted_none rfl,?_⟩,?_⟩
  ·have e0 := hI.evo (d := 0) (by kernel_rfl) rfl;have HS := hI.st;have hX := HS.bel;clear hI hX;have HS2 := qhid HS;clear HS;unfold Reg.Yields
   go_simp
   first | exact ⟨gh,fun _ _ => rfl,rfl,HS2.out.up (by simp) vec_up (Below.refl _ _)⟩ | exact ⟨rfl,gh,fun _ _ => rfl,rfl,HS2.out.up (by simp) vec_up (Below.refl _ _)⟩
  refine ⟨fun gh listed A X hI hcl hin hun hall => ⟨Reg.wanted_none rfl,?_⟩,?_⟩
  ·have e9 : A.tmps[9]? = some (.pointer (some ⟨wb,0,none⟩)) := hI.ev (i := 0) (d := 9) (by rfl) (hall ⟨0,.data⟩ (by simp) rfl);have HS := hI.st;have hX := HS.bel;clear hI hX;have HS2 := qhid HS;clear HS;unfold Reg.Yields
   go_simp
   first | exact ⟨gh,fun _ _ => rfl,rfl,HS2.out.up (by simp) vec_up (Below.refl _ _)⟩ | exact ⟨rfl,gh,fun _ _ => rfl,rfl,HS2.out.up (by simp) vec_up (Below.refl _ _)⟩
  refine ⟨fun gh listed A X hI hcl hin hun hall => ⟨Reg.wanted_none rfl,?_⟩,?_⟩
  ·have e10 : A.tmps[10]? = some (.pointer (some ⟨wb,0,none⟩)) := hI.ev (i := 1) (d := 10) (by rfl) (hall ⟨1,.data⟩ (by simp) rfl);have HS := hI.st;have hX := HS.bel;clear hI hX;have HS2 := qhid HS;clear HS;unfold Reg.Yields
   go_simp
   first | exact ⟨gh,fun _ _ => rfl,rfl,HS2.out.up (by simp) vec_up (Below.refl _ _)⟩ | exact ⟨rfl,gh,fun _ _ => rfl,rfl,HS2.out.up (by simp) vec_up (Below.refl _ _)⟩
  refine ⟨fun gh listed A X hI hcl hin hun hall => ⟨Reg.wanted_none rfl,?_⟩,?_⟩
  ·have e11 : A.tmps[11]? = some (.pointer (some ⟨wb,5,none⟩)) := hI.ev (i := 2) (d := 11) (by rfl) (hall ⟨2,.data⟩ (by simp) rfl);have HS := hI.st;have hX := HS.bel;obtain ⟨_,_,_,_,_,g5⟩ := wg_cells (Reg.heap_kept_up HME.out hX);clear hI hX;have HS2 := qhid HS;clear HS;unfold Reg.Yields
   go_simp
   first | exact ⟨gh,fun _ _ => rfl,rfl,HS2.out.up (by simp) vec_up (Below.refl _ _)⟩ | exact ⟨rfl,gh,fun _ _ => rfl,rfl,HS2.out.up (by simp) vec_up (Below.refl _ _)⟩
  refine ⟨fun gh listed A X hI hcl hin hun hall => ⟨Reg.wanted_none rfl,?_⟩,?_⟩
  ·have e1 := hI.evo (d := 1) (by kernel_rfl) rfl;have HS := hI.st;have hX := HS.bel;clear hI hX;have HS2 := qhid HS;clear HS;unfold Reg.Yields
   go_simp
   first | exact ⟨gh,fun _ _ => rfl,rfl,HS2.out.up (by simp) vec_up (Below.refl _ _)⟩ | exact ⟨rfl,gh,fun _ _ => rfl,rfl,HS2.out.up (by simp) vec_up (Below.refl _ _)⟩
  refine ⟨fun gh listed A X hI hcl hin hun hall => ⟨Reg.wanted_none rfl,?_⟩,?_⟩
  ·have e12 : A.tmps[12]? = some (.slice (some ⟨g,0,none⟩) n fc) := hI.ev (i := 3) (d := 12) (by rfl) (hall ⟨3,.data⟩ (by simp) rfl);have e13 : A.tmps[13]? = some (.int .i64 (p : Int)) := hI.ev (i := 4) (d := 13) (by rfl) (hall ⟨4,.data⟩ (by simp) rfl);have HS := hI.st;have hX := HS.bel;have hpn := HPN.out;clear hI hX;have HS2 := qhid HS;clear HS;unfold Reg.Yields
   go_simp
   first | exact ⟨gh,fun _ _ => rfl,rfl,HS2.out.up (by simp) vec_up (Below.refl _ _)⟩ | exact ⟨rfl,gh,fun _ _ => rfl,rfl,HS2.out.up (by simp) vec_up (Below.refl _ _)⟩
  refine ⟨fun gh listed A X hI hcl hin hun hall => ⟨Reg.wanted_none rfl,?_⟩,?_⟩
  ·have e14 : A.tmps[14]? = some (.pointer (some ⟨g,p,none⟩)) := hI.ev (i := 5) (d := 14) (by rfl) (hall ⟨5,.data⟩ (by simp) rfl);have HS := hI.st;have hX := HS.bel;have c6 : X.cell? ⟨g,p,none⟩ = some (.map m) := (World.cell?_of_block (w := w2) (a := ⟨g,p,none⟩) (hX.block g HGL.out)).trans HCE.out;clear hI hX;have HS2 := qhid HS;clear HS;unfold Reg.Yields
   go_simp
   first | exact ⟨gh,fun _ _ => rfl,rfl,HS2.out.up (by simp) vec_up (Below.refl _ _)⟩ | exact ⟨rfl,gh,fun _ _ => rfl,rfl,HS2.out.up (by simp) vec_up (Below.refl _ _)⟩
  refine ⟨fun gh listed A X hI hcl hin hun hall => ⟨Reg.wanted_none rfl,?_⟩,?_⟩
  ·have e0 := hI.evo (d := 0) (by kernel_rfl) rfl;have HS := hI.st;have hX := HS.bel;clear hI hX;have HS2 := qhid HS;clear HS;unfold Reg.Yields
   go_simp
   first | exact ⟨gh,fun _ _ => rfl,rfl,HS2.out.up (by simp) vec_up (Below.refl _ _)⟩ | exact ⟨rfl,gh,fun _ _ => rfl,rfl,HS2.out.up (by simp) vec_up (Below.refl _ _)⟩
  refine ⟨fun gh listed A X hI hcl hin hun hall => ⟨Reg.wanted_none rfl,?_⟩,?_⟩
  ·have e16 : A.tmps[16]? = some (.pointer (some ⟨wb,0,none⟩)) := hI.ev (i := 7) (d := 16) (by rfl) (hall ⟨7,.data⟩ (by simp) rfl);have HS := hI.st;have hX := HS.bel;have HM := qhid (places_any X wb c (HWG.out.up hX));rw [<- HNP.out] at HM;clear hI hX;have HS2 := qhid HS;clear HS;unfold Reg.Yields
   go_simp
   exact HM.out.mono fun e w2 ⟨he,hw⟩ => ⟨_,he,gh,fun _ _ => rfl,rfl,by rw [hw];exact HS2.out.up (by simp) vec_up (Below.refl _ _)⟩
  refine ⟨fun gh listed A X hI hcl hin hun hall => ⟨Reg.wanted_none rfl,?_⟩,?_⟩
  ·have e15 : A.tmps[15]? = some (.map m) := hI.ev (i := 6) (d := 15) (by rfl) (hall ⟨6,.data⟩ (by simp) rfl);have e17 : A.tmps[17]? = some (.int .i64 (n : Int)) := hI.ev (i := 8) (d := 17) (by rfl) (hall ⟨8,.data⟩ (by simp) rfl);have HS := hI.st;have hX := HS.bel;have HM := qhid (list_any X m f n (HWT.out.up hX) HOK.out (by have := HNL.out;omega));clear hI hX;have HS2 := qhid HS;clear HS;unfold Reg.Yields
   go_simp
   refine HM.out.mono ?_;rintro e w2 ⟨g2,he,hv,hb⟩;exact ⟨_,he,Reg.updP gh 9 g2,fun j hj => wf3_9 (fun e => by rw [e] at hj;rw [hj] at hun;cases hun) (fun e => by rw [e] at hj;rw [Reg.closed_reach hcl 60 10 9 (by kernel_rfl) hj] at hun;cases hun),rfl,HS2.out.new _ vec_up hb hv⟩
  refine ⟨fun gh listed A X hI hcl hin hun hall => ⟨Reg.wanted_none rfl,?_⟩,?_⟩
  ·have e18 : A.tmps[18]? = some (.slice (some ⟨gh 9,0,none⟩) n n) := hI.ev (i := 9) (d := 18) (by rfl) (hall ⟨9,.data⟩ (by simp) rfl);have HS := hI.st;have hX := HS.bel;clear hI hX;have HS2 := qhid HS;clear HS;unfold Reg.Yields
   go_simp
   first | exact ⟨gh,fun _ _ => rfl,rfl,HS2.out.up (by simp) vec_up (Below.refl _ _)⟩ | exact ⟨rfl,gh,fun _ _ => rfl,rfl,HS2.out.up (by simp) vec_up (Below.refl _ _)⟩
  trivial
 ·intro gh X hS;have HB := qhid hS.bel;have HV := qhid (hS.at_ 9 (by simp) (by rfl));clear hS;simp [Reg.finalTmps,Reg.dstAt,Reg.valOf,wf3]
  go_wp2_with fail
  exact bodyPost_ret (v := .slice (some ⟨gh 9,0,none⟩) n n) (by simp [results,Tryz.results112,go_sem]) rfl ⟨_,rfl,HV.out,HB.out⟩
end
end
end Go.Proofs.YtnmalggmbeipaaaGreatDoor
namespace Go.Proofs.YtnmalggmbeipaaaGreatDoor
section
section
open Go Go.RowKit
attribute [local go_sem ↓] Go.wp_at_zero Go.wp_at_succ
attribute [local go_sem] eq4
theorem wf_kok : ∀ {c : Co},WfC c -> KoK c
 | .nil,h => h.elim
 | .node k s z a b,h => by
  obtain ⟨_,⟨rfl,_,_,_,_⟩ | ⟨rfl,_,_,_⟩ | ⟨hk,_,_,wa,wb⟩ | ⟨rfl,_,wa,_⟩⟩ := h
  ·exact ⟨⟨by omega,by omega⟩,fun h => by omega,fun h => by omega⟩
  ·exact ⟨⟨by omega,by omega⟩,fun h => by omega,fun h => by omega⟩
  ·exact ⟨⟨by omega,by omega⟩,fun _ => ⟨wf_kok wa,wf_kok wb⟩,fun h => by omega⟩
  ·exact ⟨⟨by omega,by omega⟩,fun h => by omega,fun _ => wf_kok wa⟩
theorem pc_size : ∀ x : PC,x.sz = coSize x.co
 | .nil => by rw [PC.sz,PC.co,coSize]
 | .node q k s z a b => by rw [PC.sz,PC.co,coSize,pc_size a,pc_size b]
theorem new_po {c : Co} (h : GC c) (v : Value) (w : World) (hc : CoAt w c v) : Calls Tryz.prog 156 #[v] w fun e w' => NewTo w w' e c := by
 obtain ⟨x,rfl,rfl,hx⟩ := hc.pc;refine new_any w x hx (wf_kok h.wf) ?_;rw [pc_size];have := h.size;omega
theorem po_is {s : ByteArray} {t : Tr} {w : World} {v : Value} {e : Int} (hs : s.size <= 400) (hp : parseR s = (0,0,some t)) (hz : adL [szT t,addM 0] <= 4096) (h : PO s 0 w v e) : e = 0 /\ CoAt w (byC 0 (coreT t)) v /\ GC (byC 0 (coreT t)) := by
 have hg := po_good hs (m := 0) ⟨by decide,by decide⟩ hp hz
 rcases h with ⟨_,_,h⟩ | ⟨rfl,t2,h3,_,h5⟩
 ·have := h t hp;omega
 ·rw [hp] at h3;obtain rfl : t = t2 := by simpa using h3
  exact ⟨rfl,h5,hg⟩
end
end
end Go.Proofs.YtnmalggmbeipaaaGreatDoor
