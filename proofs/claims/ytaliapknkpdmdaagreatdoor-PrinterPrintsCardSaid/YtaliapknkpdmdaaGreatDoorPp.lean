/- The statement PrinterPrints, walked: what is printed of a pattern's tree is the document's own answer, or there is none. -/
import Derived.Test.YtaliapknkpdmdaaGreatDoorRgI
set_option maxRecDepth 100000
set_option maxHeartbeats 16000000
namespace Go.Proofs.YtaliapknkpdmdaaGreatDoor
section
open Go Go.RowKit
attribute [local go_sem ↓] Go.wp_at_zero Go.wp_at_succ
attribute [local go_sem] eq4
theorem normal_bad (s : ByteArray) (e at_ : Int) (he : e ≠ 0) (w : World) (PA : Calls Tryz.prog 6 #[.string s] w fun x w' => ParseOut w w' (e,at_,none) x) :
  Calls Tryz.prog 20 #[.string s] w fun x w' => x = .returned (.tuple #[.string ⟨#[]⟩,.int .i64 at_,.int .i64 e]) /\ Below w.heap.size w w' := by
 have HPA := qhid PA;have h3 : ((e : Int) == 0) = false := by simpa using he
 have h4 : ((e : Int) != 0) = true := by simpa using he
 clear PA he
 go_enter Tryz.func20,Tryz.ntmps20
 go_wp2_with fail
 refine HPA.out.mono ?_;rintro x w1 ⟨v,rfl,hv,hb⟩;have hv : v = .pointer none := hv;subst hv;have HB := qhid hb;clear hb HPA
 go_wp2_with fail
 exact bodyPost_ret (v := .tuple #[.string ⟨#[]⟩,.int .i64 at_,.int .i64 e]) (by simp [results,Tryz.results20,go_sem]) rfl ⟨rfl,HB.out⟩
theorem pp_long (s : ByteArray) (hs : 200 < s.size) (w : World)
  (AW : ∀ X,Below w.heap.size w X -> Calls Tryz.prog 18 #[] X fun e w' => e = .returned (.bool true) /\ Below X.heap.size X w') :
  Calls Tryz.prog 4 #[.string s] w fun x w' => x = .returned (.bool true) /\ Below w.heap.size w w' := by
 have HAW := qhid AW;have h1 : decide ((200 : Int) < (s.size : Int)) = true := jT (by omega);have h2 : (200 : Int) < (s.size : Int) := by omega
 clear AW hs
 go_enter Tryz.func4,Tryz.ntmps4
 go_wp2_with fail
 refine (HAW.out w (Below.refl _ _)).mono ?_;rintro x w2 ⟨rfl,hb2⟩;have HB2 := qhid hb2;clear hb2
 go_wp2_with fail
 go_ret
 exact ⟨rfl,HB2.out⟩
theorem pp_good (s tx : ByteArray) (t : Tr) (hs : s.size <= 200) (w : World)
  (PA : Calls Tryz.prog 6 #[.string s] w fun x w' => ParseOut w w' (0,0,some t) x)
  (RP : ∀ X,Calls Tryz.prog 7 #[.string s] X fun e w' => ∃ lv,e = .returned (.tuple #[rnV t lv,.agg #[.int .i64 0,.int .i64 0]]) /\ RnAt w' (fun b => X.heap.size <= b) t lv /\ Below X.heap.size X w')
  (PR : ∀ X q,Below w.heap.size w X -> NdAt X (fun _ => True) t (ndPtr q) -> Calls Tryz.prog 19 #[ndPtr q] X fun e w' => e = .returned (.tuple #[.string tx,.int .i64 0]) /\ Below X.heap.size X w')
  (NO : ∀ X,Below w.heap.size w X -> Calls Tryz.prog 20 #[.string s] X fun e w' => e = .returned (.tuple #[.string tx,.int .i64 0,.int .i64 0]) /\ Below X.heap.size X w')
  (RQ : ∀ X A lv,RnAt X A t lv -> Calls Tryz.prog 21 #[rnV t lv] X fun e w' => e = .returned (.string tx) /\ Below X.heap.size X w')
  (AW : ∀ X,Below w.heap.size w X -> Calls Tryz.prog 18 #[] X fun e w' => e = .returned (.bool true) /\ Below X.heap.size X w') :
  Calls Tryz.prog 4 #[.string s] w fun x w' => x = .returned (.bool true) /\ Below w.heap.size w w' := by
 have HPA := qhid PA;have HRP := qhid RP;have HPR := qhid PR;have HNO := qhid NO;have HRQ := qhid RQ;have HAW := qhid AW;have h1 : decide ((200 : Int) < (s.size : Int)) = false := jF (by omega);have h2 : (s.size : Int) <= 200 := by omega
 clear PA RP PR NO RQ AW hs
 go_enter Tryz.func4,Tryz.ntmps4
 go_wp2_with fail
 refine HPA.out.mono ?_;rintro x w1 ⟨v,rfl,hv,hb⟩;have hv : NdAt w1 (fun b => w.heap.size <= b) t v := hv;obtain ⟨a,rfl⟩ := hv.pointer;have N1 := qhid (hv.mono (A' := fun _ => True) (fun _ _ _ => trivial));have HB1 := qhid hb;clear hb hv HPA
 go_wp2_with fail
 refine (HRP.out w1).mono ?_;rintro x w2 ⟨lv,hx,hrn,hb⟩;obtain ⟨k',s',lo',hi',z',a',b',l'⟩ := t;obtain ⟨pp,n',cp,rfl⟩ := hrn.slice;have hx : x = .returned (.tuple #[.agg #[.int .i64 k',.int .u64 s'.a,.int .u64 s'.b,.int .u64 s'.c,.int .u64 s'.d,.int .i64 lo',.int .i64 hi',.bool z',.slice pp n' cp,.int .i64 (a' : Int),.int .i64 (b' : Int)],.agg #[.int .i64 0,.int .i64 0]]) := hx;subst hx;have HB2 := qhid (HB1.out.trans (hb.mono HB1.out.size));have N2 := qhid (N1.out.up hb);have HRN := qhid hrn;clear hb hrn HRP N1
 go_upto_region 5 with fail
 obtain ⟨W3,hW3⟩ : ∃ X,X = (w2.alloc (.cells #[.int .i64 k',.int .u64 s'.a,.int .u64 s'.b,.int .u64 s'.c,.int .u64 s'.d,.int .i64 lo',.int .i64 hi',.bool z',.slice pp n' cp,.int .i64 (a' : Int),.int .i64 (b' : Int)] 32)).alloc (.cells #[.int .i64 0,.int .i64 0] 34) := ⟨_,rfl⟩;have b3 : Below w2.heap.size w2 W3 := by rw [hW3];exact below2 w2 _ _
 have HN3 : Hid (W3.heap[w2.heap.size]? = some (.cells #[.int .i64 k',.int .u64 s'.a,.int .u64 s'.b,.int .u64 s'.c,.int .u64 s'.d,.int .i64 lo',.int .i64 hi',.bool z',.slice pp n' cp,.int .i64 (a' : Int),.int .i64 (b' : Int)] 32)) := qhid (by rw [hW3];exact below_kept (below1 _ _) (heap_new w2 (.cells #[.int .i64 k',.int .u64 s'.a,.int .u64 s'.b,.int .u64 s'.c,.int .u64 s'.d,.int .i64 lo',.int .i64 hi',.bool z',.slice pp n' cp,.int .i64 (a' : Int),.int .i64 (b' : Int)] 32)));have HF3 : Hid (W3.heap[w2.heap.size + 1]? = some (.cells #[.int .i64 0,.int .i64 0] 34)) := qhid (by have h := heap_new (w2.alloc (.cells #[.int .i64 k',.int .u64 s'.a,.int .u64 s'.b,.int .u64 s'.c,.int .u64 s'.d,.int .i64 lo',.int .i64 hi',.bool z',.slice pp n' cp,.int .i64 (a' : Int),.int .i64 (b' : Int)] 32)) (.cells #[.int .i64 0,.int .i64 0] 34);rw [World.size_alloc] at h;rw [hW3];exact h);change Code.wp _ _ _ _ ((w2.alloc (.cells #[.int .i64 k',.int .u64 s'.a,.int .u64 s'.b,.int .u64 s'.c,.int .u64 s'.d,.int .i64 lo',.int .i64 hi',.bool z',.slice pp n' cp,.int .i64 (a' : Int),.int .i64 (b' : Int)] 32)).alloc (.cells #[.int .i64 0,.int .i64 0] 34));rw [<- hW3];clear hW3;have HB3 := qhid (HB2.out.trans (b3.mono HB2.out.size));have N3 := qhid (N2.out.up b3);have R3 := qhid (HRN.out.up b3);clear b3 HB2 N2 HRN
 go_wp2_with fail
 refine (HPR.out W3 a HB3.out N3.out).mono ?_;rintro x w4 ⟨rfl,hb⟩;have HB4 := qhid (HB3.out.trans (hb.mono HB3.out.size));have B34 := qhid hb;clear hb HPR N3
 go_wp2_with fail
 refine (HNO.out w4 HB4.out).mono ?_;rintro x w5 ⟨rfl,hb⟩;have HB5 := qhid (HB4.out.trans (hb.mono HB4.out.size));have B35 := qhid (B34.out.trans (hb.mono B34.out.size));clear hb HNO B34;have hn := (B35.out.block _ (jS HN3.out)).trans HN3.out;have hf := (B35.out.block _ (jS HF3.out)).trans HF3.out;have q0 := jC hn 0;have q1 := jC hn 1;have q2 := jC hn 2;have q3 := jC hn 3;have q4 := jC hn 4;have q5 := jC hn 5;have q6 := jC hn 6;have q7 := jC hn 7;have q8 := jC hn 8;have q9 := jC hn 9;have q10 := jC hn 10;have p0 := jC hf 0;have p1 := jC hf 1;have hln := jS hn;have hlf := jS hf;simp only [Reg.la,Reg.lb,Reg.lc] at q0 q1 q2 q3 q4 q5 q6 q7 q8 q9 q10 p0 p1;have R5 := qhid (R3.out.up B35.out);clear hn hf R3 HN3 HF3
 go_wp2_with fail
 refine (HRQ.out w5 _ _ R5.out).mono ?_;clear q0 q1 q2 q3 q4 q5 q6 q7 q8 q9 q10 p0 p1 hln hlf;rintro x w6 ⟨rfl,hb⟩;have HB6 := qhid (HB5.out.trans (hb.mono HB5.out.size));clear hb HRQ R5
 go_wp2_with fail
 refine (HAW.out w6 HB6.out).mono ?_;rintro x w7 ⟨rfl,hb⟩;have HB7 := qhid (HB6.out.trans (hb.mono HB6.out.size));clear hb
 go_wp2_with fail
 go_ret
 exact ⟨rfl,HB7.out⟩
theorem pp_bad (s : ByteArray) (e at_ : Int) (he : e ≠ 0) (hs : s.size <= 200) (w : World)
  (PA : Calls Tryz.prog 6 #[.string s] w fun x w' => ParseOut w w' (e,at_,none) x)
  (RP : ∀ X,Calls Tryz.prog 7 #[.string s] X fun x w' => x = .returned (.tuple #[.agg #[.int .i64 0,.int .u64 0,.int .u64 0,.int .u64 0,.int .u64 0,.int .i64 0,.int .i64 0,.bool false,.slice none 0 0,.int .i64 0,.int .i64 0],.agg #[.int .i64 at_,.int .i64 e]]) /\ Below X.heap.size X w')
  (PR : ∀ X,Calls Tryz.prog 19 #[.pointer none] X fun e w' => e = .returned (.tuple #[.string ⟨#[]⟩,.int .i64 1]) /\ Below X.heap.size X w')
  (NO : ∀ X,Below w.heap.size w X -> Calls Tryz.prog 20 #[.string s] X fun x w' => x = .returned (.tuple #[.string ⟨#[]⟩,.int .i64 at_,.int .i64 e]) /\ Below X.heap.size X w')
  (AW : ∀ X,Below w.heap.size w X -> Calls Tryz.prog 18 #[] X fun e w' => e = .returned (.bool true) /\ Below X.heap.size X w') :
  Calls Tryz.prog 4 #[.string s] w fun x w' => x = .returned (.bool true) /\ Below w.heap.size w w' := by
 have HPA := qhid PA;have HRP := qhid RP;have HPR := qhid PR;have HNO := qhid NO;have HAW := qhid AW;have h1 : decide ((200 : Int) < (s.size : Int)) = false := jF (by omega);have h2 : (s.size : Int) <= 200 := by omega
 have h3 : ((e : Int) == 0) = false := by simpa using he
 have h4 : ((e : Int) != 0) = true := by simpa using he
 clear PA RP PR NO AW hs he
 go_enter Tryz.func4,Tryz.ntmps4
 go_wp2_with fail
 refine HPA.out.mono ?_;rintro x w1 ⟨v,rfl,hv,hb⟩;have hv : v = .pointer none := hv;subst hv;have HB1 := qhid hb;clear hb HPA
 go_wp2_with fail
 refine (HRP.out w1).mono ?_;rintro x w2 ⟨rfl,hb⟩;have HB2 := qhid (HB1.out.trans (hb.mono HB1.out.size));clear hb HRP
 go_upto_region 5 with fail
 obtain ⟨W3,hW3⟩ : ∃ X,X = (w2.alloc (.cells #[.int .i64 0,.int .u64 0,.int .u64 0,.int .u64 0,.int .u64 0,.int .i64 0,.int .i64 0,.bool false,.slice none 0 0,.int .i64 0,.int .i64 0] 32)).alloc (.cells #[.int .i64 at_,.int .i64 e] 34) := ⟨_,rfl⟩;have b3 : Below w2.heap.size w2 W3 := by rw [hW3];exact below2 w2 _ _
 have HN3 : Hid (W3.heap[w2.heap.size]? = some (.cells #[.int .i64 0,.int .u64 0,.int .u64 0,.int .u64 0,.int .u64 0,.int .i64 0,.int .i64 0,.bool false,.slice none 0 0,.int .i64 0,.int .i64 0] 32)) := qhid (by rw [hW3];exact below_kept (below1 _ _) (heap_new w2 (.cells #[.int .i64 0,.int .u64 0,.int .u64 0,.int .u64 0,.int .u64 0,.int .i64 0,.int .i64 0,.bool false,.slice none 0 0,.int .i64 0,.int .i64 0] 32)));have HF3 : Hid (W3.heap[w2.heap.size + 1]? = some (.cells #[.int .i64 at_,.int .i64 e] 34)) := qhid (by have h := heap_new (w2.alloc (.cells #[.int .i64 0,.int .u64 0,.int .u64 0,.int .u64 0,.int .u64 0,.int .i64 0,.int .i64 0,.bool false,.slice none 0 0,.int .i64 0,.int .i64 0] 32)) (.cells #[.int .i64 at_,.int .i64 e] 34);rw [World.size_alloc] at h;rw [hW3];exact h);change Code.wp _ _ _ _ ((w2.alloc (.cells #[.int .i64 0,.int .u64 0,.int .u64 0,.int .u64 0,.int .u64 0,.int .i64 0,.int .i64 0,.bool false,.slice none 0 0,.int .i64 0,.int .i64 0] 32)).alloc (.cells #[.int .i64 at_,.int .i64 e] 34));rw [<- hW3];clear hW3;have HB3 := qhid (HB2.out.trans (b3.mono HB2.out.size));clear b3 HB2
 go_wp2_with fail
 refine (HPR.out W3).mono ?_;rintro x w4 ⟨rfl,hb⟩;have HB4 := qhid (HB3.out.trans (hb.mono HB3.out.size));have B34 := qhid hb;clear hb HPR
 go_wp2_with fail
 refine (HNO.out w4 HB4.out).mono ?_;rintro x w5 ⟨rfl,hb⟩;have HB5 := qhid (HB4.out.trans (hb.mono HB4.out.size));have B35 := qhid (B34.out.trans (hb.mono B34.out.size));clear hb HNO B34;have hf := (B35.out.block _ (jS HF3.out)).trans HF3.out;have p0 := jC hf 0;have p1 := jC hf 1;have hlf := jS hf;simp only [Reg.la,Reg.lb,Reg.lc] at p0 p1;clear hf HN3 HF3
 go_wp2_with fail
 refine (HAW.out w5 HB5.out).mono ?_;rintro x w7 ⟨rfl,hb⟩;have HB7 := qhid (HB5.out.trans (hb.mono HB5.out.size));clear hb
 go_wp2_with fail
 go_ret
 exact ⟨rfl,HB7.out⟩
theorem printlaw_any (s : ByteArray) (w : World) (hT : Tab w) (hP : TabP w) :
  Calls Tryz.prog 4 #[.string s] w fun x w' => x = .returned (.bool true) /\ Below w.heap.size w w' := by
 have AW := fun X (hX : Below w.heap.size w X) => pr_awake X (hT.up hX) (hP.up hX)
 by_cases hs : 200 < s.size
 ·exact pp_long s hs w AW
 have hs : s.size <= 200 := by omega
 have PA := parse_any s (by omega) w hT
 rcases parseR_cases s with ⟨t,ht⟩ | ⟨e,at_,he,hne⟩
 ·rw [ht] at PA;have ok := parse_ok (by omega) ht;obtain ⟨r1,r2,r3⟩ := parse_right ht;have hsz : (prT t).length <= 1000000000000 := by have := ok.len;omega
  exact pp_good s (baN (prT t)) t hs w PA (fun X => rparse_ok s t (by omega) ht X) (fun X q hX hN => print_any X hN (hT.up hX) (hP.up hX) ok) (fun X hX => normal_any s t (by omega) X (hT.up hX) (hP.up hX) ht ok) (fun X A lv h => rprint_any r1 ok.size hsz X A lv h) AW
 ·rw [he] at PA;exact pp_bad s e at_ hne hs w PA (fun X => rparse_bad s e at_ hne (by omega) he X) (fun X => print_bad (.pointer none) X (sright_nil X)) (fun X hX => normal_bad s e at_ hne X (by have h := parse_any s (by omega) X (hT.up hX);rw [he] at h;exact h)) AW
end
end Go.Proofs.YtaliapknkpdmdaaGreatDoor
