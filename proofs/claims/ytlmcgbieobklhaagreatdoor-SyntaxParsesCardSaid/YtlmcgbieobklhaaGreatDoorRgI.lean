/- A part of the proof. -/
import Derived.Test.YtlmcgbieobklhaaGreatDoorRgH
import Derived.Test.YtlmcgbieobklhaaGreatDoorRfS
set_option maxRecDepth 100000
set_option maxHeartbeats 16000000
namespace Go.Proofs.YtlmcgbieobklhaaGreatDoor
section
open Go Go.RowKit
attribute [local go_sem ↓] Go.wp_at_zero Go.wp_at_succ
attribute [local go_sem] eq4
theorem scan_S (s : ByteArray) : ∀ x ∈ mt (scanAll s).1,TkS x := by
 intro x hx;obtain ⟨y,hy,rfl⟩ := List.mem_map.1 hx;exact scanR_S _ _ y hy
theorem parse_good {s : ByteArray} {t : Tr} (h : parseR s = (0,0,some t)) : (scanAll s).2.1 = 0 /\ fr (scanAll s).1 s.size 0 0 false = none /\ Spn (scanAll s).1 s.size 0 (scanAll s).1.length t := by
 unfold parseR at h
 by_cases h1 : (scanAll s).2.1 = 0
 ·rw [if_neg (by simpa using h1)] at h
  by_cases h2 : (wholeR (scanAll s).1 s.size).1 = 0
  ·rw [if_neg (by simpa using h2)] at h;simp only [Prod.mk.injEq,true_and] at h
   rcases whole_told (scan_S s) s.size with ⟨j,u,hw,hf⟩ | ⟨e,j,hw,he,hf⟩
   ·rw [hw] at h;simp only [Option.some.injEq] at h;subst h;obtain ⟨rfl,hs⟩ := whole_spn hw;exact ⟨h1,hf,hs⟩
   ·rw [hw] at h2;exact absurd h2 he
  ·rw [if_pos h2] at h;simp at h
 ·rw [if_pos h1] at h;simp at h
theorem parse_fault {s : ByteArray} {e a : Int} (he : e ≠ 0) (h : parseR s = (e,a,none)) : ((scanAll s).2.1 = e /\ scanN (scanAll s) = a) \/ ((scanAll s).2.1 = 0 /\ ∃ p : Nat,a = (p : Int) /\ fr (scanAll s).1 s.size 0 0 false = some (p,e)) := by
 unfold parseR at h
 by_cases h1 : (scanAll s).2.1 = 0
 ·rw [if_neg (by simpa using h1)] at h
  by_cases h2 : (wholeR (scanAll s).1 s.size).1 = 0
  ·rw [if_neg (by simpa using h2)] at h;simp only [Prod.mk.injEq] at h;exact absurd h.1.symm he
  ·rw [if_pos h2] at h;simp only [Prod.mk.injEq,and_true] at h;obtain ⟨h3,h4⟩ := h
   rcases whole_told (scan_S s) s.size with ⟨j,u,hw,hf⟩ | ⟨e',j,hw,he',hf⟩
   ·rw [hw] at h2;exact absurd rfl h2
   ·rw [hw] at h3 h4;simp only at h3 h4;subst h3;exact .inr ⟨h1,_,h4.symm,hf⟩
 ·rw [if_pos h1] at h;simp only [Prod.mk.injEq,and_true] at h;exact .inl h
theorem rparse_ok (s : ByteArray) (t : Tr) (hs : s.size <= 1048576) (h : parseR s = (0,0,some t)) (w : World) :
  Calls Tryz.prog 8 #[.string s] w fun e w' => ∃ lv,e = .returned (.tuple #[rnV t lv,.agg #[.int .i64 0,.int .i64 0]]) /\ RnAt w' (fun b => w.heap.size <= b) t lv /\ Below w.heap.size w w' := by
 have SC := qhid (fun W => refscan_any s hs W);obtain ⟨W0,hW0⟩ : ∃ X,X = (w.alloc (.cells #[.int .i64 0,.int .u64 0,.int .u64 0,.int .u64 0,.int .u64 0,.int .i64 0,.int .i64 0,.bool false,.slice none 0 0,.int .i64 0,.int .i64 0] 32)).alloc (.cells #[.int .i64 0,.int .i64 0] 34) := ⟨_,rfl⟩;have HB0 : Hid (Below w.heap.size w W0) := qhid (by rw [hW0];exact below2 w _ _);have HN0 : Hid (W0.heap[w.heap.size]? = some (.cells #[.int .i64 0,.int .u64 0,.int .u64 0,.int .u64 0,.int .u64 0,.int .i64 0,.int .i64 0,.bool false,.slice none 0 0,.int .i64 0,.int .i64 0] 32)) := qhid (by rw [hW0];exact below_kept (below1 _ _) (heap_new w (.cells #[.int .i64 0,.int .u64 0,.int .u64 0,.int .u64 0,.int .u64 0,.int .i64 0,.int .i64 0,.bool false,.slice none 0 0,.int .i64 0,.int .i64 0] 32)));have HF0 : Hid (W0.heap[w.heap.size + 1]? = some (.cells #[.int .i64 0,.int .i64 0] 34)) := qhid (by have h := heap_new (w.alloc (.cells #[.int .i64 0,.int .u64 0,.int .u64 0,.int .u64 0,.int .u64 0,.int .i64 0,.int .i64 0,.bool false,.slice none 0 0,.int .i64 0,.int .i64 0] 32)) (.cells #[.int .i64 0,.int .i64 0] 34);rw [World.size_alloc] at h;rw [hW0];exact h);have HSZ : Hid (W0.heap.size = w.heap.size + 2) := qhid (by rw [hW0,World.size_alloc,World.size_alloc]);have HE0 := qhid hW0;clear hW0;obtain ⟨h1,h2,h3⟩ := parse_good h
 have hlen : (scanAll s).1.length <= 1048576 := by
  have h := scan_len' s;omega
 have hadj : AdjT (scanAll s).1 s.size := scan_adj h1;rw [h1] at SC;generalize scanN (scanAll s) = m at *;generalize hL : (scanAll s).1 = L at *;have HFI := qhid (fun (v : Value) (X : World) (hX : TokAt X v L) => rfirst_any s.size hlen X hX);rw [h2] at HFI;have HAL : Hid (∀ (v : Value) (X : World),TokAt X v L -> Calls Tryz.prog 33 #[v,.int .i64 0,.int .i64 (L.length : Int),.int .i64 (s.size : Int)] X fun e w' => ROut t X w' e) := qhid (fun v X hX => (rtree_any s.size hlen hadj (trSize t)).2 t 0 L.length (jN _) h3 X hX);have hss : (s.size : Int) <= 1048576 := by omega
 clear h h1 h2 h3 hadj hL
 go_enter Tryz.func8,Tryz.ntmps8
 go_upto_region 1 with fail
 rw [<- HE0.out];clear HE0
 go_wp2_with fail
 refine (SC.out W0).mono ?_;rintro e w1 ⟨v,rfl,hg,hb⟩;have HA1 := qhid hg.at;obtain ⟨p,cap,rfl⟩ := HA1.out.slice;have HB1 := qhid (HB0.out.trans (hb.mono HB0.out.size));have HB01 := qhid hb;clear hg hb SC
 go_wp2_with fail
 refine (HFI.out _ w1 HA1.out).mono ?_;rintro e w2 ⟨rfl,hb⟩;simp only [frV];have HA2 := qhid (HA1.out.below hb);have HB2 := qhid (HB1.out.trans (hb.mono HB1.out.size));have HB02 := qhid (HB01.out.trans (hb.mono HB01.out.size));clear hb HA1 HB1 HB01 HFI;obtain ⟨W3,hW3⟩ : ∃ X,X = w2.alloc (.cells #[.int .i64 0,.int .i64 0] 34) := ⟨_,rfl⟩;have HF3 : Hid (W3.heap[w2.heap.size]? = some (.cells #[.int .i64 0,.int .i64 0] 34)) := qhid (by rw [hW3];exact heap_new w2 _);have b3 := below1 w2 (.cells #[.int .i64 0,.int .i64 0] 34);rw [<- hW3] at b3;have HA3 := qhid (HA2.out.below b3);have HB3 := qhid (HB2.out.trans (b3.mono HB2.out.size));have HB03 := qhid (HB02.out.trans (b3.mono HB02.out.size));clear HA2 HB2 HB02 b3
 go_upto_region 5 with fail
 change Code.wp _ _ _ _ (w2.alloc (.cells #[.int .i64 0,.int .i64 0] 34));rw [<- hW3];clear hW3;have p0 := jC HF3.out 0;have p1 := jC HF3.out 1;have hlf := jS HF3.out;simp only [Reg.la,Reg.lb,Reg.lc] at p0 p1
 go_wp2_with fail
 refine (HAL.out _ W3 HA3.out).mono ?_;clear p0 p1 hlf HF3;rintro e w4 ⟨lv,he,hrn,hb⟩;obtain ⟨k',s',lo',hi',z',a',b',l'⟩ := t;obtain ⟨pp,n',cp,rfl⟩ := hrn.slice;have he : e = .returned (.agg #[.int .i64 k',.int .u64 s'.a,.int .u64 s'.b,.int .u64 s'.c,.int .u64 s'.d,.int .i64 lo',.int .i64 hi',.bool z',(.slice pp n' cp),.int .i64 (a' : Int),.int .i64 (b' : Int)]) := he;subst he;have HB4 := qhid (HB3.out.trans (hb.mono HB3.out.size));have HB04 := qhid (HB03.out.trans (hb.mono HB03.out.size));have HRN := qhid hrn;have hz3 := HSZ.out;have hz4 := HB03.out.size;clear hb hrn HAL HA3;have hn := (HB04.out.block _ (jS HN0.out)).trans HN0.out;have hf := (HB04.out.block _ (jS HF0.out)).trans HF0.out;have q0 := jC hn 0;have q1 := jC hn 1;have q2 := jC hn 2;have q3 := jC hn 3;have q4 := jC hn 4;have q5 := jC hn 5;have q6 := jC hn 6;have q7 := jC hn 7;have q8 := jC hn 8;have q9 := jC hn 9;have q10 := jC hn 10;have z0 := jU hn 0;have z1 := jU hn 1;have z2 := jU hn 2;have z3 := jU hn 3;have z4 := jU hn 4;have z5 := jU hn 5;have z6 := jU hn 6;have z7 := jU hn 7;have z8 := jU hn 8;have z9 := jU hn 9;have z10 := jU hn 10;have p0 := jC hf 0;have p1 := jC hf 1;have y0 := jU hf 0;have y1 := jU hf 1;have hln := jS hn;have hlf := jS hf;simp only [Reg.la,Reg.lb,Reg.lc] at q0 q1 q2 q3 q4 q5 q6 q7 q8 q9 q10 p0 p1;clear hn hf
 go_wp2_with fail
 refine bodyPost_ret (v := .tuple #[.agg #[.int .i64 k',.int .u64 s'.a,.int .u64 s'.b,.int .u64 s'.c,.int .u64 s'.d,.int .i64 lo',.int .i64 hi',.bool z',(.slice pp n' cp),.int .i64 (a' : Int),.int .i64 (b' : Int)],.agg #[.int .i64 0,.int .i64 0]]) (by simp [results,Tryz.results8,go_sem,q0,q1,q2,q3,q4,q5,q6,q7,q8,q9,q10,p0,p1]) rfl ⟨.slice pp n' cp,rfl,?_,?_⟩
 ·refine RnAt.mono (A := fun b => W3.heap.size <= b) ((HRN.out.keep (rn_only w4 w.heap.size _ _ _ _ _ _ _ _ _ _ _) (fun b hb e => by injection e with e;omega)).keep (only_setCell (only_setCell (only_refl _ (some (w.heap.size + 1))) (.inl rfl) _) (.inl rfl) _) (fun b hb e => by injection e with e;omega)) (fun b _ hb => by omega)
 ·exact ((rn_below HB4.out (jN _) _ _ _ _ _ _ _ _ _ _ _).setCell (p := ⟨w.heap.size + 1,0,none⟩) (Nat.le_succ _) _).setCell (p := ⟨w.heap.size + 1,1,none⟩) (Nat.le_succ _) _
theorem rparse_bad (s : ByteArray) (c a : Int) (hc : c ≠ 0) (hs : s.size <= 1048576) (h : parseR s = (c,a,none)) (w : World) :
  Calls Tryz.prog 8 #[.string s] w fun e w' => e = .returned (.tuple #[.agg #[.int .i64 0,.int .u64 0,.int .u64 0,.int .u64 0,.int .u64 0,.int .i64 0,.int .i64 0,.bool false,.slice none 0 0,.int .i64 0,.int .i64 0],.agg #[.int .i64 a,.int .i64 c]]) /\ Below w.heap.size w w' := by
 have SC := qhid (fun W => refscan_any s hs W);obtain ⟨W0,hW0⟩ : ∃ X,X = (w.alloc (.cells #[.int .i64 0,.int .u64 0,.int .u64 0,.int .u64 0,.int .u64 0,.int .i64 0,.int .i64 0,.bool false,.slice none 0 0,.int .i64 0,.int .i64 0] 32)).alloc (.cells #[.int .i64 0,.int .i64 0] 34) := ⟨_,rfl⟩;have HB0 : Hid (Below w.heap.size w W0) := qhid (by rw [hW0];exact below2 w _ _);have HN0 : Hid (W0.heap[w.heap.size]? = some (.cells #[.int .i64 0,.int .u64 0,.int .u64 0,.int .u64 0,.int .u64 0,.int .i64 0,.int .i64 0,.bool false,.slice none 0 0,.int .i64 0,.int .i64 0] 32)) := qhid (by rw [hW0];exact below_kept (below1 _ _) (heap_new w (.cells #[.int .i64 0,.int .u64 0,.int .u64 0,.int .u64 0,.int .u64 0,.int .i64 0,.int .i64 0,.bool false,.slice none 0 0,.int .i64 0,.int .i64 0] 32)));have HF0 : Hid (W0.heap[w.heap.size + 1]? = some (.cells #[.int .i64 0,.int .i64 0] 34)) := qhid (by have h := heap_new (w.alloc (.cells #[.int .i64 0,.int .u64 0,.int .u64 0,.int .u64 0,.int .u64 0,.int .i64 0,.int .i64 0,.bool false,.slice none 0 0,.int .i64 0,.int .i64 0] 32)) (.cells #[.int .i64 0,.int .i64 0] 34);rw [World.size_alloc] at h;rw [hW0];exact h);have HSZ : Hid (W0.heap.size = w.heap.size + 2) := qhid (by rw [hW0,World.size_alloc,World.size_alloc]);have HE0 := qhid hW0;clear hW0
 have hlen : (scanAll s).1.length <= 1048576 := by
  have h := scan_len' s;omega
 rcases parse_fault hc h with ⟨h1,h2⟩ | ⟨h1,p,rfl,h2⟩
 ·rw [h1,h2] at SC;have hne : ((c : Int) != 0) = true := by simpa using hc
  have hne2 : ((c : Int) == 0) = false := by simpa using hc
  generalize (scanAll s).1 = L at *;clear h h1 h2
  go_enter Tryz.func8,Tryz.ntmps8
  go_upto_region 1 with fail
  rw [<- HE0.out];clear HE0
  go_wp2_with fail
  refine (SC.out W0).mono ?_;rintro e w1 ⟨v,rfl,hg,hb⟩;have HB1 := qhid (HB0.out.trans (hb.mono HB0.out.size));have HB01 := qhid hb;clear hg hb SC;have hn := (HB01.out.block _ (jS HN0.out)).trans HN0.out;have hf := (HB01.out.block _ (jS HF0.out)).trans HF0.out;have q0 := jC hn 0;have q1 := jC hn 1;have q2 := jC hn 2;have q3 := jC hn 3;have q4 := jC hn 4;have q5 := jC hn 5;have q6 := jC hn 6;have q7 := jC hn 7;have q8 := jC hn 8;have q9 := jC hn 9;have q10 := jC hn 10;have z0 := jU hn 0;have z1 := jU hn 1;have z2 := jU hn 2;have z3 := jU hn 3;have z4 := jU hn 4;have z5 := jU hn 5;have z6 := jU hn 6;have z7 := jU hn 7;have z8 := jU hn 8;have z9 := jU hn 9;have z10 := jU hn 10;have p0 := jC hf 0;have p1 := jC hf 1;have y0 := jU hf 0;have y1 := jU hf 1;have hln := jS hn;have hlf := jS hf;simp only [Reg.la,Reg.lb,Reg.lc] at q0 q1 q2 q3 q4 q5 q6 q7 q8 q9 q10 p0 p1;clear hn hf
  go_wp2_with fail
  refine bodyPost_ret (v := .tuple #[.agg #[.int .i64 0,.int .u64 0,.int .u64 0,.int .u64 0,.int .u64 0,.int .i64 0,.int .i64 0,.bool false,.slice none 0 0,.int .i64 0,.int .i64 0],.agg #[.int .i64 a,.int .i64 c]]) (by simp [results,Tryz.results8,go_sem,q0,q1,q2,q3,q4,q5,q6,q7,q8,q9,q10,p0,p1]) rfl ⟨rfl,?_⟩;exact ((rn_below HB1.out (jN _) _ _ _ _ _ _ _ _ _ _ _).setCell (p := ⟨w.heap.size + 1,0,none⟩) (Nat.le_succ _) _).setCell (p := ⟨w.heap.size + 1,1,none⟩) (Nat.le_succ _) _
 ·rw [h1] at SC;have hne : ((c : Int) != 0) = true := by simpa using hc
  have hne2 : ((c : Int) == 0) = false := by simpa using hc
  generalize scanN (scanAll s) = m at *;generalize (scanAll s).1 = L at *;have HFI := qhid (fun (v : Value) (X : World) (hX : TokAt X v L) => rfirst_any s.size hlen X hX);rw [h2] at HFI;have hss : (s.size : Int) <= 1048576 := by omega
  clear h h1 h2
  go_enter Tryz.func8,Tryz.ntmps8
  go_upto_region 1 with fail
  rw [<- HE0.out];clear HE0
  go_wp2_with fail
  refine (SC.out W0).mono ?_;rintro e w1 ⟨v,rfl,hg,hb⟩;have HA1 := qhid hg.at;obtain ⟨pt,cap,rfl⟩ := HA1.out.slice;have HB1 := qhid (HB0.out.trans (hb.mono HB0.out.size));have HB01 := qhid hb;clear hg hb SC
  go_wp2_with fail
  refine (HFI.out _ w1 HA1.out).mono ?_;rintro e w2 ⟨rfl,hb⟩;simp only [frV];have HB2 := qhid (HB1.out.trans (hb.mono HB1.out.size));have HB02 := qhid (HB01.out.trans (hb.mono HB01.out.size));clear hb HA1 HB1 HB01 HFI;obtain ⟨W3,hW3⟩ : ∃ X,X = w2.alloc (.cells #[.int .i64 (p : Int),.int .i64 c] 34) := ⟨_,rfl⟩;have HF3 : Hid (W3.heap[w2.heap.size]? = some (.cells #[.int .i64 (p : Int),.int .i64 c] 34)) := qhid (by rw [hW3];exact heap_new w2 _);have b3 := below1 w2 (.cells #[.int .i64 (p : Int),.int .i64 c] 34);rw [<- hW3] at b3;have HB3 := qhid (HB2.out.trans (b3.mono HB2.out.size));have HB03 := qhid (HB02.out.trans (b3.mono HB02.out.size));have hz3 := HSZ.out;have hz4 := HB02.out.size;clear HB2 HB02 b3
  go_upto_region 5 with fail
  change Code.wp _ _ _ _ (w2.alloc (.cells #[.int .i64 (p : Int),.int .i64 c] 34));rw [<- hW3];clear hW3;have r0 := jC HF3.out 0;have r1 := jC HF3.out 1;have hlr := jS HF3.out;simp only [Reg.la,Reg.lb,Reg.lc] at r0 r1;have hn := (HB03.out.block _ (jS HN0.out)).trans HN0.out;have hf := (HB03.out.block _ (jS HF0.out)).trans HF0.out;have q0 := jC hn 0;have q1 := jC hn 1;have q2 := jC hn 2;have q3 := jC hn 3;have q4 := jC hn 4;have q5 := jC hn 5;have q6 := jC hn 6;have q7 := jC hn 7;have q8 := jC hn 8;have q9 := jC hn 9;have q10 := jC hn 10;have z0 := jU hn 0;have z1 := jU hn 1;have z2 := jU hn 2;have z3 := jU hn 3;have z4 := jU hn 4;have z5 := jU hn 5;have z6 := jU hn 6;have z7 := jU hn 7;have z8 := jU hn 8;have z9 := jU hn 9;have z10 := jU hn 10;have p0 := jC hf 0;have p1 := jC hf 1;have y0 := jU hf 0;have y1 := jU hf 1;have hln := jS hn;have hlf := jS hf;simp only [Reg.la,Reg.lb,Reg.lc] at q0 q1 q2 q3 q4 q5 q6 q7 q8 q9 q10 p0 p1;clear hn hf
  go_upto_region 6 with fail
  go_region
  obtain ⟨Y,hY⟩ : ∃ Y,Y = ((rnPut W3 w.heap.size (.int .i64 0) (.int .u64 0) (.int .u64 0) (.int .u64 0) (.int .u64 0) (.int .i64 0) (.int .i64 0) (.bool false) (.slice none 0 0) (.int .i64 0) (.int .i64 0)).setCell ⟨w.heap.size + 1,0,none⟩ (.int .i64 (p : Int))).setCell ⟨w.heap.size + 1,1,none⟩ (.int .i64 c) := ⟨_,rfl⟩;have HN3 := (HB03.out.block _ (jS HN0.out)).trans HN0.out;have HQ3 := (HB03.out.block _ (jS HF0.out)).trans HF0.out
  have hnY : Y.heap[w.heap.size]? = some (.cells #[.int .i64 0,.int .u64 0,.int .u64 0,.int .u64 0,.int .u64 0,.int .i64 0,.int .i64 0,.bool false,.slice none 0 0,.int .i64 0,.int .i64 0] 32) := by
   obtain ⟨Z,hZ⟩ : ∃ Z,Z = rnPut W3 w.heap.size (.int .i64 0) (.int .u64 0) (.int .u64 0) (.int .u64 0) (.int .u64 0) (.int .i64 0) (.int .i64 0) (.bool false) (.slice none 0 0) (.int .i64 0) (.int .i64 0) := ⟨_,rfl⟩;have hz := rn_put HN3 (.int .i64 0) (.int .u64 0) (.int .u64 0) (.int .u64 0) (.int .u64 0) (.int .i64 0) (.int .i64 0) (.bool false) (.slice none 0 0) (.int .i64 0) (.int .i64 0);rw [<- hZ] at hz;rw [hY,<- hZ];clear hZ hY;exact ((only_setCell (only_setCell (only_refl Z (some (w.heap.size + 1))) (p := ⟨w.heap.size + 1,0,none⟩) (.inl rfl) (.int .i64 (p : Int))) (p := ⟨w.heap.size + 1,1,none⟩) (.inl rfl) (.int .i64 c)).block w.heap.size (jS hz) (fun e => by injection e with e;omega)).trans hz
  have hfY : Y.heap[w.heap.size + 1]? = some (.cells #[.int .i64 (p : Int),.int .i64 c] 34) := by
   obtain ⟨Z,hZ⟩ : ∃ Z,Z = rnPut W3 w.heap.size (.int .i64 0) (.int .u64 0) (.int .u64 0) (.int .u64 0) (.int .u64 0) (.int .i64 0) (.int .i64 0) (.bool false) (.slice none 0 0) (.int .i64 0) (.int .i64 0) := ⟨_,rfl⟩;have hz := ((rn_only W3 w.heap.size (.int .i64 0) (.int .u64 0) (.int .u64 0) (.int .u64 0) (.int .u64 0) (.int .i64 0) (.int .i64 0) (.bool false) (.slice none 0 0) (.int .i64 0) (.int .i64 0)).block (w.heap.size + 1) (jS HQ3) (fun e => by injection e with e;omega)).trans HQ3;rw [<- hZ] at hz;rw [hY,<- hZ];clear hZ hY;exact (Joins.block_setCell (i := 1) (Joins.block_setCell (i := 0) hz (.int .i64 (p : Int))) (.int .i64 c)).trans (by simp)
  have HBY : Below w.heap.size w Y := by
   rw [hY];exact ((rn_below HB3.out (jN _) _ _ _ _ _ _ _ _ _ _ _).setCell (p := ⟨w.heap.size + 1,0,none⟩) (Nat.le_succ _) _).setCell (p := ⟨w.heap.size + 1,1,none⟩) (Nat.le_succ _) _
  rw [<- hY];clear hY HN3 HQ3 r0 r1 hlr z0 z1 z2 z3 z4 z5 z6 z7 z8 z9 z10 y0 y1 q0 q1 q2 q3 q4 q5 q6 q7 q8 q9 q10 p0 p1;obtain ⟨X,hX⟩ : ∃ X,X = Y.drew := ⟨_,rfl⟩;have bX : Below Y.heap.size Y X := by rw [hX];exact Below.drew (Below.refl _ _)
  rw [<- hX];clear hX;have hn := below_kept bX hnY;have hf := below_kept bX hfY;have HBX := qhid (HBY.trans (bX.mono HBY.size));clear hnY hfY HBY bX;have hln := jS hn;have hlf := jS hf;have q0 := jC hn 0;have q1 := jC hn 1;have q2 := jC hn 2;have q3 := jC hn 3;have q4 := jC hn 4;have q5 := jC hn 5;have q6 := jC hn 6;have q7 := jC hn 7;have q8 := jC hn 8;have q9 := jC hn 9;have q10 := jC hn 10;have p0 := jC hf 0;have p1 := jC hf 1;simp only [Reg.la,Reg.lb,Reg.lc] at q0 q1 q2 q3 q4 q5 q6 q7 q8 q9 q10 p0 p1;clear hn hf
  go_wp2_with fail
  exact bodyPost_ret (v := .tuple #[.agg #[.int .i64 0,.int .u64 0,.int .u64 0,.int .u64 0,.int .u64 0,.int .i64 0,.int .i64 0,.bool false,.slice none 0 0,.int .i64 0,.int .i64 0],.agg #[.int .i64 (p : Int),.int .i64 c]]) (by simp [results,Tryz.results8,go_sem,q0,q1,q2,q3,q4,q5,q6,q7,q8,q9,q10,p0,p1]) rfl ⟨rfl,HBX.out⟩
end
end Go.Proofs.YtlmcgbieobklhaaGreatDoor
