/- A part of the proof. -/
import Derived.Test.YtnmalggmbeipaaaGreatDoorTa
import Derived.Laws.Externs
import Derived.Test.YtnmalggmbeipaaaGreatDoorRa
set_option maxRecDepth 100000
set_option maxHeartbeats 16000000
namespace Go.Proofs.YtnmalggmbeipaaaGreatDoor
section
section
open Go Go.RowKit
attribute [local go_sem ↓] Go.wp_at_zero Go.wp_at_succ
attribute [local go_sem] eq4
def setAns (t : W4) (e : Int) : Value := .tuple #[.agg #[.int .u64 t.a,.int .u64 t.b,.int .u64 t.c,.int .u64 t.d],.int .i64 e]
def setObj : Obj := .cells #[.int .u64 0,.int .u64 0,.int .u64 0,.int .u64 0] 29
def oneW (b : Nat) : W4 := ⟨oneB b 0,oneB b 1,oneB b 2,oneB b 3⟩
def notW (t : W4) : W4 := ⟨nt t.a,nt t.b,nt t.c,nt t.d⟩
abbrev setPut (w : World) (b : Nat) (t : W4) : World :=
 (((w.setCell ⟨b,0,none⟩ (.int .u64 t.a)).setCell ⟨b,1,none⟩ (.int .u64 t.b)).setCell ⟨b,2,none⟩ (.int .u64 t.c)).setCell ⟨b,3,none⟩ (.int .u64 t.d)
theorem Rd.set {w w' : World} {g j b : Nat} {s : ByteArray} (h : Rd w w' g s j) (hb : w.heap.size <= b) (hg : g < w.heap.size) (t : W4) : Rd w (setPut w' b t) g s j :=
 (((h.store hb hg _).store hb hg _).store hb hg _).store hb hg _
theorem set_cells {W : World} {b : Nat} (h : W.heap[b]? = some setObj) :
  (W.cell? ⟨b,0,none⟩ = some (.int .u64 0) /\ W.cell? ⟨b,1,none⟩ = some (.int .u64 0) /\ W.cell? ⟨b,2,none⟩ = some (.int .u64 0) /\ W.cell? ⟨b,3,none⟩ = some (.int .u64 0)) /\
  (W.frozen? ⟨b,0,none⟩ = false /\ W.frozen? ⟨b,1,none⟩ = false /\ W.frozen? ⟨b,2,none⟩ = false /\ W.frozen? ⟨b,3,none⟩ = false) /\ b < W.heap.size :=
 ⟨⟨jC h 0,jC h 1,jC h 2,jC h 3⟩,⟨jU h 0,jU h 1,jU h 2,jU h 3⟩,jS h⟩
theorem tedge_any (g k : Nat) (s : ByteArray) (w : World) (h : RdAt w g s k) :
  Calls Tryz.prog 245 #[.pointer (some ⟨g,0,none⟩)] w fun e w' => e = .returned (setAns noW 6) /\ Rd w w' g s k := by
 have HH := qhid h;have hlt := h.lt;have HA := qhid (rd_alloc h setObj);have HR2 : Hid (Rd (w.alloc setObj) (w.alloc setObj) g s k) := qhid (Rd.refl HA.out);clear h
 go_enter Tryz.func245,Tryz.ntmps245
 go_wp2_with fail
 refine bodyPost_ret (v := setAns noW 6) (by simp [results,Tryz.results245,go_sem,setAns,noW]) rfl ⟨rfl,?_⟩;exact ⟨HR2.out.1,only_first HR2.out.2⟩
theorem tstray_any (g k : Nat) (s : ByteArray) (w : World) (h : RdAt w g s k) :
  Calls Tryz.prog 246 #[.pointer (some ⟨g,0,none⟩)] w fun e w' => e = .returned (setAns noW 4) /\ Rd w w' g s k := by
 have HH := qhid h;have hlt := h.lt;have HA := qhid (rd_alloc h setObj);have HR2 : Hid (Rd (w.alloc setObj) (w.alloc setObj) g s k) := qhid (Rd.refl HA.out);clear h
 go_enter Tryz.func246,Tryz.ntmps246
 go_wp2_with fail
 refine bodyPost_ret (v := setAns noW 4) (by simp [results,Tryz.results246,go_sem,setAns,noW]) rfl ⟨rfl,?_⟩;exact ⟨HR2.out.1,only_first HR2.out.2⟩
theorem titself_any (g k : Nat) (s : ByteArray) (hk : k < s.size) (hs : s.size <= 1099511627776) (w : World) (h : RdAt w g s k) :
  Calls Tryz.prog 247 #[.pointer (some ⟨g,0,none⟩)] w fun e w' => e = .returned (setAns (oneW (bAt s k)) 0) /\ Rd w w' g s (k + 1) := by
 have HH := qhid h;have hlt := h.lt;have HA := qhid (rd_alloc h setObj);have ST := qhid (fun n => tstep_any g 1 1 s k (by omega) ((w.alloc setObj).drewN n) (only_rd HA.out n) rfl);have hb : ((s[k]'hk).toNat) = bAt s k := (bAt_in hk).symm;have hbl := bAt_lt hk;have OF := qhid (fun W => of_blk (w := W.alloc (.cells #[.int .u8 ((bAt s k : Nat) : Int)] 5)) (g := W.heap.size) (k := bAt s k) hbl (heap_new W _));rw [<- hb] at OF hbl;have hb2 : oneW (bAt s k) = oneW (s[k]'hk).toNat := by rw [hb]
 rw [hb2];obtain ⟨r0,r1,rz,rl⟩ := HA.out;unfold setObj at ST r0 r1 rz rl;clear h hb hb2
 go_enter Tryz.func247,Tryz.ntmps247
 go_wp2_with fail
 go_quiet (fail)
 go_wp2_with fail
 refine (ST.out nq).mono ?_;rintro e w2 ⟨rfl,hw2⟩;have HR2 : Hid (Rd (w.alloc setObj) w2 g s (k + 1)) := qhid (((Rd.refl HA.out).drewN nq).put (by rw [hw2];rfl));clear hw2 r0 r1 rz rl
 go_wp2_with fail
 refine (OF.out w2).mono ?_;rintro e w3 ⟨rfl,hb3⟩;have HR3 : Hid (Rd (w.alloc setObj) w3 g s (k + 1)) := qhid ((HR2.out.below (below1 w2 _)).below hb3);clear hb3;obtain ⟨⟨q0,q1,q2,q3⟩,⟨f0,f1,f2,f3⟩,_hsz⟩ := set_cells (kept_first HH.out HR3.out);have HRw : Hid (Rd w w3 g s (k + 1)) := qhid ⟨HR3.out.1,only_first HR3.out.2⟩
 go_wp2_with fail
 refine bodyPost_ret (v := setAns (oneW (s[k]'hk).toNat) 0) (by simp [results,Tryz.results247,go_sem,setAns,oneW,q0,q1,q2,q3]) rfl ⟨rfl,?_⟩;exact HRw.out.set (jN _) hlt (oneW (s[k]'hk).toNat)
theorem tpoint_any (g k : Nat) (s : ByteArray) (hk : k < s.size) (hs : s.size <= 1099511627776) (w : World) (h : RdAt w g s k) :
  Calls Tryz.prog 244 #[.pointer (some ⟨g,0,none⟩)] w fun e w' => e = .returned (setAns (notW (oneW 10)) 0) /\ Rd w w' g s (k + 1) := by
 have HH := qhid h;have hlt := h.lt;have HA := qhid (rd_alloc h setObj);have ST := qhid (tstep_any g 1 1 s k (by omega) (w.alloc setObj) HA.out rfl);have OF := qhid (fun W => of_blk (w := W.alloc (.cells #[.int .u8 ((10 : Nat) : Int)] 5)) (g := W.heap.size) (k := 10) (by omega) (heap_new W _));have NO := qhid (fun W => not_any (oneB 10 0) (oneB 10 1) (oneB 10 2) (oneB 10 3) W);obtain ⟨r0,r1,rz,rl⟩ := HA.out;unfold setObj at ST r0 r1 rz rl;clear h
 go_enter Tryz.func244,Tryz.ntmps244
 go_wp2_with fail
 refine ST.out.mono ?_;rintro e w2 ⟨rfl,hw2⟩;have HR2 : Hid (Rd (w.alloc setObj) w2 g s (k + 1)) := qhid ((Rd.refl HA.out).put (by rw [hw2];rfl));clear hw2 r0 r1 rz rl
 go_wp2_with fail
 refine (OF.out w2).mono ?_;rintro e w3 ⟨rfl,hb3⟩;have HR3 : Hid (Rd (w.alloc setObj) w3 g s (k + 1)) := qhid ((HR2.out.below (below1 w2 _)).below hb3);clear hb3
 go_wp2_with fail
 refine (NO.out w3).mono ?_;rintro e w4 ⟨rfl,hb4⟩;have HR4 := qhid (HR3.out.below hb4);clear hb4;obtain ⟨⟨q0,q1,q2,q3⟩,⟨f0,f1,f2,f3⟩,_hsz⟩ := set_cells (kept_first HH.out HR4.out);have HRw : Hid (Rd w w4 g s (k + 1)) := qhid ⟨HR4.out.1,only_first HR4.out.2⟩
 go_wp2_with fail
 refine bodyPost_ret (v := setAns (notW (oneW 10)) 0) (by simp [results,Tryz.results244,go_sem,setAns,notW,oneW,q0,q1,q2,q3]) rfl ⟨rfl,?_⟩;exact HRw.out.set (jN _) hlt (notW (oneW 10))
open Go Go.RowKit
attribute [local go_sem ↓] Go.wp_at_zero Go.wp_at_succ
attribute [local go_sem] eq4
def hexR (b : Nat) : Nat × Bool :=
 if digB b then (b - 48,true) else if 97 <= b /\ b <= 102 then (b - 87,true) else if 65 <= b /\ b <= 70 then (b - 55,true) else (0,false)
theorem hexR_le (b : Nat) : (hexR b).1 <= 15 := by
 unfold hexR
 split
 ·rename_i h;unfold digB at h;simp at h;show b - 48 <= 15;omega
 ·split
  ·show b - 87 <= 15;omega
  ·split
   ·show b - 55 <= 15;omega
   ·exact Nat.zero_le _
theorem fin2b {x : Nat} {y : Bool} {r : Nat × Bool} (h : r = (x,y)) : Ending.returned (.tuple #[.int .i64 (x : Int),.bool y]) = .returned (.tuple #[.int .i64 (r.1 : Int),.bool r.2]) := by subst h;rfl
theorem thex_any (b : Nat) (hb : b < 256) (w : World) :
  Calls Tryz.prog 267 #[.int .u8 (b : Int)] w fun e w' => e = .returned (.tuple #[.int .i64 ((hexR b).1 : Int),.bool (hexR b).2]) /\ w' = w := by
 have HD := qhid (fun W => tdigit_any b hb W)
 by_cases hd : digB b = true
 ·have HF : Hid (hexR b = (b - 48,true)) := qhid (by unfold hexR;rw [if_pos hd]);rw [hd] at HD;have h1 : 48 <= b /\ b <= 57 := by unfold digB at hd;simpa using hd
  obtain ⟨y,hy⟩ : ∃ y,y = b - 48 := ⟨_,rfl⟩;have e2 : IntKind.u8.wrap ((b : Int) - 48) = (y : Int) := by simp [IntKind.wrap,IntKind.signed,IntKind.bits];omega
  have e4 : IntKind.i64.wrap (y : Int) = (y : Int) := by simp [IntKind.wrap,IntKind.signed,IntKind.bits];omega
  rw [<- hy] at HF;clear hy hd
  go_enter Tryz.func267,Tryz.ntmps267
  go_wp2_with fail
  refine (HD.out _).mono ?_;rintro e w1 ⟨rfl,hw1⟩;obtain rfl : w = w1 := hw1.symm
  go_wp2_with fail
  go_ret2
  exact ⟨fin2b HF.out,rfl⟩
 ·have hdf : digB b = false := by simpa using hd
  rw [hdf] at HD
  by_cases h1 : 97 <= b /\ b <= 102
  ·have HF : Hid (hexR b = (b - 87,true)) := qhid (by unfold hexR;rw [if_neg hd,if_pos h1]);obtain ⟨y,hy⟩ : ∃ y,y = b - 97 := ⟨_,rfl⟩;obtain ⟨z,hz⟩ : ∃ z,z = b - 87 := ⟨_,rfl⟩;have d1 : decide ((97 : Int) <= (b : Int)) = true := jT (by omega);have d2 : decide ((b : Int) <= 102) = true := jT (by omega);have e2 : IntKind.u8.wrap ((b : Int) - 97) = (y : Int) := by simp [IntKind.wrap,IntKind.signed,IntKind.bits];omega
   have e4 : IntKind.i64.wrap (y : Int) = (y : Int) := by simp [IntKind.wrap,IntKind.signed,IntKind.bits];omega
   have e5 : IntKind.i64.wrap ((y : Int) + 10) = (z : Int) := by simp [IntKind.wrap,IntKind.signed,IntKind.bits];omega
   rw [<- hz] at HF;clear hy hz hd hdf h1
   go_enter Tryz.func267,Tryz.ntmps267
   go_wp2_with fail
   refine (HD.out _).mono ?_;rintro e w1 ⟨rfl,hw1⟩;obtain rfl : w = w1 := hw1.symm
   go_wp2_with fail
   go_ret2
   exact ⟨fin2b HF.out,rfl⟩
  ·by_cases h2 : 65 <= b /\ b <= 70
   ·have HF : Hid (hexR b = (b - 55,true)) := qhid (by unfold hexR;rw [if_neg hd,if_neg h1,if_pos h2]);obtain ⟨y,hy⟩ : ∃ y,y = b - 65 := ⟨_,rfl⟩;obtain ⟨z,hz⟩ : ∃ z,z = b - 55 := ⟨_,rfl⟩;have d1 : decide ((97 : Int) <= (b : Int)) = false := jF (by omega);have d3 : decide ((65 : Int) <= (b : Int)) = true := jT (by omega);have d4 : decide ((b : Int) <= 70) = true := jT (by omega);have e2 : IntKind.u8.wrap ((b : Int) - 65) = (y : Int) := by simp [IntKind.wrap,IntKind.signed,IntKind.bits];omega
    have e4 : IntKind.i64.wrap (y : Int) = (y : Int) := by simp [IntKind.wrap,IntKind.signed,IntKind.bits];omega
    have e5 : IntKind.i64.wrap ((y : Int) + 10) = (z : Int) := by simp [IntKind.wrap,IntKind.signed,IntKind.bits];omega
    rw [<- hz] at HF;clear hy hz hd hdf h1 h2
    go_enter Tryz.func267,Tryz.ntmps267
    go_wp2_with fail
    refine (HD.out _).mono ?_;rintro e w1 ⟨rfl,hw1⟩;obtain rfl : w = w1 := hw1.symm
    go_wp2_with fail
    go_ret2
    exact ⟨fin2b HF.out,rfl⟩
   ·have HF : Hid (hexR b = (0,false)) := qhid (by unfold hexR;rw [if_neg hd,if_neg h1,if_neg h2])
    have hcase : (decide ((97 : Int) <= (b : Int)) = false /\ decide ((65 : Int) <= (b : Int)) = false) \/ (decide ((97 : Int) <= (b : Int)) = false /\ decide ((65 : Int) <= (b : Int)) = true /\ decide ((b : Int) <= 70) = false) \/ (decide ((97 : Int) <= (b : Int)) = true /\ decide ((b : Int) <= 102) = false /\ decide ((65 : Int) <= (b : Int)) = true /\ decide ((b : Int) <= 70) = false) := by
     simp only [decide_eq_false_iff_not,decide_eq_true_iff];omega
    clear hd hdf h1 h2
    rcases hcase with ⟨d1,d3⟩ | ⟨d1,d3,d4⟩ | ⟨d1,d2,d3,d4⟩
    all_goals
     go_enter Tryz.func267,Tryz.ntmps267
     go_wp2_with fail
     refine (HD.out _).mono ?_;rintro e w1 ⟨rfl,hw1⟩;obtain rfl : w = w1 := hw1.symm
     go_wp2_with fail
     go_ret2
     exact ⟨fin2b HF.out,rfl⟩
theorem hexR_end : hexR 256 = (0,false) := by decide
def hexV (s : ByteArray) (j : Nat) : Nat -> Nat
 | 0 => 0
 | i + 1 => 16 * hexV s j i + (hexR (bAt s (j + i))).1
theorem hexV_le (s : ByteArray) (j i : Nat) (h : i <= 2) : hexV s j i <= 255 /\ (i <= 1 -> hexV s j i <= 15) := by
 have h0 := hexR_le (bAt s (j + 0));have h1 := hexR_le (bAt s (j + 1))
 match i,h with
 | 0,_ => exact ⟨by simp [hexV],fun _ => by simp [hexV]⟩
 | 1,_ => exact ⟨by simp [hexV] at *;omega,fun _ => by simp [hexV] at *;omega⟩
 | 2,_ => exact ⟨by simp [hexV] at *;omega,fun h => by omega⟩
def pairR (s : ByteArray) (j : Nat) : W4 × Int × Nat :=
 if (hexR (bAt s j)).2 = false then (noW,4,j) else if (hexR (bAt s (j + 1))).2 = false then (noW,4,j + 1) else (oneW (hexV s j 2),0,j + 2)
theorem pairR_at {s : ByteArray} {j i : Nat} (hi : i < 2) (hin : ∀ m,m < i -> (hexR (bAt s (j + m))).2 = true) (hno : (hexR (bAt s (j + i))).2 = false) : pairR s j = (noW,4,j + i) := by
 match i,hi with
 | 0,_ => unfold pairR;rw [if_pos (show (hexR (bAt s j)).2 = false from hno)];rfl
 | 1,_ =>
  have h0 := hin 0 (by omega);unfold pairR;rw [if_neg (by rw [show j + 0 = j from rfl] at h0;rw [h0];decide),if_pos hno]
theorem pairR_ok {s : ByteArray} {j : Nat} (hin : ∀ m,m < 2 -> (hexR (bAt s (j + m))).2 = true) : pairR s j = (oneW (hexV s j 2),0,j + 2) := by
 have h0 := hin 0 (by omega);have h1 := hin 1 (by omega);unfold pairR;rw [if_neg (by rw [show j + 0 = j from rfl] at h0;rw [h0];decide),if_neg (by rw [h1];decide)]
theorem finS {t : W4} {c : Int} {j : Nat} {r : W4 × Int × Nat} (h : r = (t,c,j)) {w w' : World} {g : Nat} {s : ByteArray} (hr : Rd w w' g s j) :
  Ending.returned (setAns t c) = .returned (setAns r.1 r.2.1) /\ Rd w w' g s r.2.2 := by subst h;exact ⟨rfl,hr⟩
theorem tpair_any (g j : Nat) (s : ByteArray) (hs : s.size <= 1099511627776) (w : World) (h : RdAt w g s j) :
  Calls Tryz.prog 261 #[.pointer (some ⟨g,0,none⟩)] w fun e w' => e = .returned (setAns (pairR s j).1 (pairR s j).2.1) /\ Rd w w' g s (pairR s j).2.2 := by
 have HH := qhid h;have hlt := h.lt;have HA := qhid (rd_alloc h setObj);have HAT := qhid (fun i hi hin hno => pairR_at (s := s) (j := j) (i := i) hi hin hno);have HOK := qhid (fun hin => pairR_ok (s := s) (j := j) hin);clear h
 go_enter Tryz.func261,Tryz.ntmps261
 go_wp2_with fail
 go_loopg [4,7] 2 (fun k v i wr => ∃ m : Nat,m + k = 2 /\ v = .int .i64 ((hexV s j m : Nat) : Int) /\ i = .int .i64 (m : Int) /\ Hid (∀ n,n < m -> (hexR (bAt s (j + n))).2 = true) /\ Hid (Rd (w.alloc setObj) wr g s (j + m)))
 case atStart => exact ⟨0,by omega,rfl,rfl,qhid (fun n hn => by omega),qhid (Rd.refl HA.out)⟩
 case round =>
  obtain ⟨m,hm,rfl,rfl,HIN,HR⟩ := hrel
  by_cases hm2 : m < 2
  ·obtain ⟨q,hq⟩ : ∃ q,q = j + m := ⟨_,rfl⟩;have HQ := qhid hq;have HAT2 : Hid ((hexR (bAt s q)).2 = false -> pairR s j = (noW,4,q)) := qhid (fun h => by rw [hq] at h ⊢;exact HAT.out m hm2 HIN.out h);have HV2 : Hid (hexV s j (m + 1) = 16 * hexV s j m + (hexR (bAt s q)).1) := qhid (by rw [hq];rfl);rw [<- hq] at HR;clear hq;have hvl := (hexV_le s j m (by omega)).2 (by omega);have HE := qhid (tended_any g s q wr HR.out.1);have dm : decide ((m : Int) < 2) = true := jT (by omega)
   by_cases hin : q < s.size
   ·rw [jF (by omega : ¬ s.size <= q)] at HE;have hb : ((s[q]'hin).toNat) = bAt s q := (bAt_in hin).symm;have hbl := bAt_lt hin;have HX := qhid (fun W => thex_any (bAt s q) hbl W);have hxl := hexR_le (bAt s q)
    have HNX : Hid ((hexR (bAt s q)).2 = true -> ∀ n,n < m + 1 -> (hexR (bAt s (j + n))).2 = true) := qhid (fun h n hn => by
     by_cases e : n = m
     ·subst e;rw [<- HQ.out];exact h
     ·exact HIN.out n (by omega))
    rw [<- hb] at HX HV2 HNX HAT2 hxl;generalize hexR (s[q]'hin).toNat = r at *;obtain ⟨x,y⟩ := r;have HX' : Hid (∀ W,Calls Tryz.prog 267 #[.int .u8 ((s[q]'hin).toNat : Int)] W fun e w' => e = .returned (.tuple #[.int .i64 (x : Int),.bool y]) /\ w' = W) := HX;have HV3 : Hid (hexV s j (m + 1) = 16 * hexV s j m + x) := HV2;have hxl2 : x <= 15 := hxl;clear HX HV2 hxl hb hbl
    go_wp2_with fail
    refine HE.out.mono ?_;rintro e w1 ⟨rfl,n1,hw1⟩;have HR1 : Hid (Rd (w.alloc setObj) w1 g s q) := qhid (by rw [hw1];exact HR.out.drewN n1);obtain ⟨r0,r1,rz,rl⟩ := HR1.out.1;clear hw1
    cases y
    ·have HF : Hid (pairR s j = (noW,4,q)) := qhid (HAT2.out rfl)
     go_wp2_with fail
     go_quiet ((go_at_call 267;exact Calls.quiet_of_same (HX'.out _)))
     have HR2 : Hid (Rd (w.alloc setObj) (w1.drewN nq) g s q) := qhid (HR1.out.drewN nq);clear r0 r1 rz rl;generalize w1.drewN nq = w2 at *;obtain ⟨⟨q0,q1,q2,q3⟩,⟨f0,f1,f2,f3⟩,_hsz⟩ := set_cells (kept_first HH.out HR2.out);have HRw : Hid (Rd w w2 g s q) := qhid ⟨HR2.out.1,only_first HR2.out.2⟩
     go_wp2_with fail
     refine bodyPost_ret (v := setAns noW 4) (by simp [results,Tryz.results261,go_sem,setAns,noW,q0,q1,q2,q3]) rfl (finS HF.out ?_);exact HRw.out.set (jN _) hlt noW
    ·have HN2 := qhid (HNX.out rfl)
     go_wp2_with fail
     go_quiet ((go_at_call 267;exact Calls.quiet_of_same (HX'.out _)))
     have HR2 : Hid (Rd (w.alloc setObj) (w1.drewN nq) g s q) := qhid (HR1.out.drewN nq);clear r0 r1 rz rl;generalize w1.drewN nq = w2 at *;have ST := qhid (tstep_any g 1 1 s q (by omega) w2 HR2.out.1 rfl)
     go_wp2_with fail
     refine ST.out.mono ?_;rintro e w3 ⟨rfl,hw3⟩;have HR3 : Hid (Rd (w.alloc setObj) w3 g s (j + (m + 1))) := qhid (by rw [show j + (m + 1) = q + 1 by rw [HQ.out];rfl];exact HR2.out.put (by rw [hw3];rfl));clear hw3
     go_wp2_with fail
     go_roundg (2 - (m + 1))
     case measure => omega
     case rel => exact ⟨m + 1,by omega,by rw [HV3.out];go_num,by go_num,HN2,HR3⟩
   ·rw [jT (by omega : s.size <= q)] at HE;have HF : Hid (pairR s j = (noW,4,q)) := qhid (HAT2.out (by rw [bAt_end (by omega),hexR_end]))
    go_wp2_with fail
    refine HE.out.mono ?_;rintro e w1 ⟨rfl,n1,hw1⟩;have HR2 : Hid (Rd (w.alloc setObj) w1 g s q) := qhid (by rw [hw1];exact HR.out.drewN n1);clear hw1;obtain ⟨⟨q0,q1,q2,q3⟩,⟨f0,f1,f2,f3⟩,_hsz⟩ := set_cells (kept_first HH.out HR2.out);have HRw : Hid (Rd w w1 g s q) := qhid ⟨HR2.out.1,only_first HR2.out.2⟩
    go_wp2_with fail
    refine bodyPost_ret (v := setAns noW 4) (by simp [results,Tryz.results261,go_sem,setAns,noW,q0,q1,q2,q3]) rfl (finS HF.out ?_);exact HRw.out.set (jN _) hlt noW
  ·obtain rfl : m = 2 := by omega
   have HF := qhid (HOK.out HIN.out);have hvl := (hexV_le s j 2 (by omega)).1;have HRe := HR;generalize hexV s j 2 = v at *;have hvu : IntKind.u8.wrap (v : Int) = (v : Int) := by simp [IntKind.wrap,IntKind.signed,IntKind.bits];omega
   have OF := qhid (fun W => of_blk (w := W.alloc (.cells #[.int .u8 ((v : Nat) : Int)] 5)) (g := W.heap.size) (k := v) (by omega) (heap_new W _))
   go_wp2_with fail
   refine (OF.out wr).mono ?_;rintro e w3 ⟨rfl,hb3⟩;have HR3 : Hid (Rd (w.alloc setObj) w3 g s (j + 2)) := qhid ((HRe.out.below (below1 wr _)).below hb3);clear hb3;obtain ⟨⟨q0,q1,q2,q3⟩,⟨f0,f1,f2,f3⟩,_hsz⟩ := set_cells (kept_first HH.out HR3.out);have HRw : Hid (Rd w w3 g s (j + 2)) := qhid ⟨HR3.out.1,only_first HR3.out.2⟩
   go_wp2_with fail
   refine bodyPost_ret (v := setAns (oneW v) 0) (by simp [results,Tryz.results261,go_sem,setAns,oneW,q0,q1,q2,q3]) rfl (finS HF.out ?_);exact HRw.out.set (jN _) hlt (oneW v)
end
end
section
open Go Go.RowKit
attribute [local go_sem ↓] Go.wp_at_zero Go.wp_at_succ
attribute [local go_sem] eq4
theorem tidx_run (args : Array Value) (w : World) : (callFunc 263 args).run Tryz.prog w = ((Extern.BytealgIndexByte.indexByte args).run Tryz.prog w).andThen fun v w' => .ok (.value v) w' :=
 run_callFunc_extern Tryz.func263 (by kernel_rfl) (by kernel_rfl) (by kernel_rfl) (by rfl) args w
theorem tidx_any (S : ByteArray) (b : Nat) (v : Int) (hv : firstIdx S (b : Int).toNat.toUInt8 = v) (w : World) :
  Calls Tryz.prog 260 #[.string S,.int .u8 (b : Int)] w fun e w' => e = .returned (.int .i64 v) /\ w' = w := by
 have hx : ∀ W,(callFunc 263 #[.string S,.int .u8 (b : Int)]).run Tryz.prog W = .ok (.value (.int .i64 v)) W := fun W => by
  rw [tidx_run,run_indexByte_string,hv];rfl
 go_enter Tryz.func260,Tryz.ntmps260
 go_wp2
 go_ret
 exact ⟨rfl,rfl⟩
theorem union_three (g : Nat) (a b c d x y z u i j k l : Int) (w : World) (hg : g < w.heap.size)
  (q0 : w.cell? ⟨g,0,none⟩ = some (.int .u64 a)) (q1 : w.cell? ⟨g,1,none⟩ = some (.int .u64 b)) (q2 : w.cell? ⟨g,2,none⟩ = some (.int .u64 c)) (q3 : w.cell? ⟨g,3,none⟩ = some (.int .u64 d)) (q4 : w.cell? ⟨g,4,none⟩ = some (.int .u64 x)) (q5 : w.cell? ⟨g,5,none⟩ = some (.int .u64 y)) (q6 : w.cell? ⟨g,6,none⟩ = some (.int .u64 z)) (q7 : w.cell? ⟨g,7,none⟩ = some (.int .u64 u)) (q8 : w.cell? ⟨g,8,none⟩ = some (.int .u64 i)) (q9 : w.cell? ⟨g,9,none⟩ = some (.int .u64 j)) (q10 : w.cell? ⟨g,10,none⟩ = some (.int .u64 k)) (q11 : w.cell? ⟨g,11,none⟩ = some (.int .u64 l)) :
  Calls Tryz.prog 259 #[.slice (some ⟨g,0,none⟩) 3 3] w fun e w' => e = .returned (.agg #[.int .u64 (orr (orr (orr 0 a) x) i),.int .u64 (orr (orr (orr 0 b) y) j),.int .u64 (orr (orr (orr 0 c) z) k),.int .u64 (orr (orr (orr 0 d) u) l)]) /\ Below w.heap.size w w' := by
 have n0 : ¬ g = w.heap.size := by omega
 have n1 : ¬ g = w.heap.size + 1 := by omega
 have m1 : g < w.heap.size + 1 := by omega
 have n2 : ¬ g = w.heap.size + 1 + 1 := by omega
 have m2 : g < w.heap.size + 1 + 1 := by omega
 have n3 : ¬ g = w.heap.size + 1 + 1 + 1 := by omega
 have m3 : g < w.heap.size + 1 + 1 + 1 := by omega
 have n4 : ¬ g = w.heap.size + 1 + 1 + 1 + 1 := by omega
 have m4 : g < w.heap.size + 1 + 1 + 1 + 1 := by omega
 go_enter Tryz.func259,Tryz.ntmps259
 go_wp2
 refine wp_loop_rounds 4 ?_;rw [rounds_succ]
 go_wp2
 refine wp_loop_rounds 5 ?_;rw [rounds_succ];go_wp2
 go_region
 go_wp2
 rw [rounds_succ];go_wp2
 go_region
 go_wp2
 rw [rounds_succ];go_wp2
 go_region
 go_wp2
 rw [rounds_succ];go_wp2
 go_region
 go_wp2
 rw [rounds_succ];go_wp2;rw [rounds_succ]
 go_wp2
 refine wp_loop_rounds 5 ?_;rw [rounds_succ];go_wp2
 go_region
 go_wp2
 rw [rounds_succ];go_wp2
 go_region
 go_wp2
 rw [rounds_succ];go_wp2
 go_region
 go_wp2
 rw [rounds_succ];go_wp2
 go_region
 go_wp2
 rw [rounds_succ];go_wp2;rw [rounds_succ]
 go_wp2
 refine wp_loop_rounds 5 ?_;rw [rounds_succ];go_wp2
 go_region
 go_wp2
 rw [rounds_succ];go_wp2
 go_region
 go_wp2
 rw [rounds_succ];go_wp2
 go_region
 go_wp2
 rw [rounds_succ];go_wp2
 go_region
 go_wp2
 rw [rounds_succ];go_wp2;rw [rounds_succ]
 go_wp2
 refine bodyPost_ret (v := .agg #[.int .u64 (orr (orr (orr 0 a) x) i),.int .u64 (orr (orr (orr 0 b) y) j),.int .u64 (orr (orr (orr 0 c) z) k),.int .u64 (orr (orr (orr 0 d) u) l)]) (by simp [results,Tryz.results259,go_sem,orr]) rfl ⟨rfl,?_⟩;exact ((below4 _ _ _ _ _).alloc (by simp;omega) _).drew.drew.drew.drew.drew.drew.drew.drew.drew.drew.drew.drew
section
open Go Go.RowKit
attribute [local go_sem ↓] Go.wp_at_zero Go.wp_at_succ
attribute [local go_sem] eq4
abbrev themS : ByteArray := ⟨#[92,124,40,41,91,93,123,125,42,43,63,46,94,36,47,45]⟩
abbrev letS : ByteArray := ⟨#[110,116,114,102,118]⟩
def themB (b : Nat) : Bool := [92,124,40,41,91,93,123,125,42,43,63,46,94,36,47,45].contains b
def letB (b : Nat) : Bool := [110,116,114,102,118].contains b
theorem them_idx (b : Nat) (hb : b < 256) : decide (0 <= firstIdx themS (b : Int).toNat.toUInt8) = themB b := by
 have hall : ∀ n : Fin 256,decide (0 <= firstIdx themS ((n.val : Nat) : Int).toNat.toUInt8) = themB n.val := by decide +kernel
 exact hall ⟨b,hb⟩
theorem let_idx (b : Nat) (hb : b < 256) : decide (0 <= firstIdx letS (b : Int).toNat.toUInt8) = letB b := by
 have hall : ∀ n : Fin 256,decide (0 <= firstIdx letS ((n.val : Nat) : Int).toNat.toUInt8) = letB n.val := by decide +kernel
 exact hall ⟨b,hb⟩
def digW : W4 := ⟨rgw 48 57 0,rgw 48 57 1,rgw 48 57 2,rgw 48 57 3⟩
def lowW : W4 := ⟨rgw 97 122 0,fo (rgw 97 122 1),rgw 97 122 2,rgw 97 122 3⟩
def uni3 (s t u : W4) : W4 := ⟨orr (orr (orr 0 s.a) t.a) u.a,orr (orr (orr 0 s.b) t.b) u.b,orr (orr (orr 0 s.c) t.c) u.c,orr (orr (orr 0 s.d) t.d) u.d⟩
def uni2 (s t : W4) : W4 := ⟨orr (orr 0 s.a) t.a,orr (orr 0 s.b) t.b,orr (orr 0 s.c) t.c,orr (orr 0 s.d) t.d⟩
def wordW : W4 := uni3 digW lowW (oneW 95)
def blankW : W4 := uni2 ⟨rgw 9 13 0,rgw 9 13 1,rgw 9 13 2,rgw 9 13 3⟩ (oneW 32)
def meanR (b : Nat) : W4 × Bool :=
 if themB b then (oneW b,true) else if b = 110 then (oneW 10,true) else if b = 116 then (oneW 9,true) else if b = 114 then (oneW 13,true) else if b = 102 then (oneW 12,true) else if b = 118 then (oneW 11,true)
 else if b = 100 then (digW,true) else if b = 119 then (wordW,true) else if b = 115 then (blankW,true) else if b = 68 then (notW digW,true) else if b = 87 then (notW wordW,true) else if b = 83 then (notW blankW,true) else (noW,false)
def meanAns (r : W4 × Bool) : Value := .tuple #[.agg #[.int .u64 r.1.a,.int .u64 r.1.b,.int .u64 r.1.c,.int .u64 r.1.d],.bool r.2]
theorem below_put {w w' : World} {b : Nat} {t : W4} (h : Below w.heap.size w w') (hb : w.heap.size <= b) : Below w.heap.size w (setPut w' b t) := below_set4 h hb _ _ _ _
theorem kept_below {w w' : World} {o : Obj} (hb : Below (w.alloc o).heap.size (w.alloc o) w') : w'.heap[w.heap.size]? = some o := by
 rw [hb.block w.heap.size (by simp)];exact heap_new w o
theorem mean_them (b : Nat) (hb : b < 256) (ht : themB b = true) (w : World) :
  Calls Tryz.prog 262 #[.int .u8 (b : Int)] w fun e w' => e = .returned (meanAns (oneW b,true)) /\ Below w.heap.size w w' := by
 have h1 := them_idx b hb;rw [ht] at h1;obtain ⟨v,hv⟩ : ∃ v,firstIdx themS (b : Int).toNat.toUInt8 = v := ⟨_,rfl⟩;rw [hv] at h1;have IX := qhid (fun W => tidx_any themS b v hv W);have OF := qhid (fun W => of_blk (w := W.alloc (.cells #[.int .u8 ((b : Nat) : Int)] 5)) (g := W.heap.size) (k := b) hb (heap_new W _));clear hv ht
 go_enter Tryz.func262,Tryz.ntmps262
 go_wp2_with fail
 refine (IX.out _).mono ?_;rintro e w1 ⟨rfl,hw1⟩;obtain ⟨W0,hW0⟩ : ∃ W0,W0 = w.alloc setObj := ⟨_,rfl⟩;have hW1 : w1 = W0 := by rw [hw1,hW0];rfl
 have HW0 := qhid hW0;clear hw1;subst hW1;clear hW0
 go_wp2_with fail
 refine (OF.out _).mono ?_;rintro e w2 ⟨rfl,hb2⟩;have HB2 : Hid (Below (w.alloc setObj).heap.size (w.alloc setObj) w2) := qhid (by rw [<- HW0.out];exact (below1 _ _).trans (hb2.mono (by simp)));clear hb2;obtain ⟨⟨q0,q1,q2,q3⟩,⟨f0,f1,f2,f3⟩,hsz⟩ := set_cells (kept_below HB2.out);have HBw : Hid (Below w.heap.size w w2) := qhid ((below1 w _).trans (HB2.out.mono (by simp)))
 go_wp2_with fail
 refine bodyPost_ret (v := meanAns (oneW b,true)) (by simp [results,Tryz.results262,go_sem,meanAns,oneW,q0,q1,q2,q3]) rfl ⟨rfl,?_⟩;exact below_put (t := oneW b) HBw.out (jN _)
theorem mean_110 (w : World) :
  Calls Tryz.prog 262 #[.int .u8 (110 : Int)] w fun e w' => e = .returned (meanAns (oneW 10,true)) /\ Below w.heap.size w w' := by
 have IX := qhid (fun W => tidx_any themS 110 (-1) (by decide +kernel) W);have IY := qhid (fun W => tidx_any letS 110 0 (by decide +kernel) W);have OF := qhid (fun W => of_blk (w := W.alloc (.cells #[.int .u8 ((10 : Nat) : Int)] 5)) (g := W.heap.size) (k := 10) (by omega) (heap_new W _))
 go_enter Tryz.func262,Tryz.ntmps262
 go_wp2_with fail
 refine (IX.out _).mono ?_;rintro e w1 ⟨rfl,hw1⟩;obtain ⟨W0,hW0⟩ : ∃ W0,W0 = w.alloc setObj := ⟨_,rfl⟩;have hW1 : w1 = W0 := by rw [hw1,hW0];rfl
 have HW0 := qhid hW0;clear hw1;subst hW1;clear hW0
 go_wp2_with fail
 refine (IY.out _).mono ?_;rintro e w3 ⟨rfl,hw3⟩;obtain rfl : w1 = w3 := hw3.symm
 go_wp2_with fail
 refine (OF.out _).mono ?_;rintro e w2 ⟨rfl,hb2⟩;have HB2 : Hid (Below (w.alloc setObj).heap.size (w.alloc setObj) w2) := qhid (by rw [<- HW0.out];exact (below1 _ _).trans (hb2.mono (by simp)));clear hb2;obtain ⟨⟨q0,q1,q2,q3⟩,⟨f0,f1,f2,f3⟩,hsz⟩ := set_cells (kept_below HB2.out);have HBw : Hid (Below w.heap.size w w2) := qhid ((below1 w _).trans (HB2.out.mono (by simp)))
 go_wp2_with fail
 refine bodyPost_ret (v := meanAns (oneW 10,true)) (by simp [results,Tryz.results262,go_sem,meanAns,oneW,q0,q1,q2,q3]) rfl ⟨rfl,?_⟩;exact below_put (t := oneW 10) HBw.out (jN _)
theorem mean_116 (w : World) :
  Calls Tryz.prog 262 #[.int .u8 (116 : Int)] w fun e w' => e = .returned (meanAns (oneW 9,true)) /\ Below w.heap.size w w' := by
 have IX := qhid (fun W => tidx_any themS 116 (-1) (by decide +kernel) W);have IY := qhid (fun W => tidx_any letS 116 1 (by decide +kernel) W);have OF := qhid (fun W => of_blk (w := W.alloc (.cells #[.int .u8 ((9 : Nat) : Int)] 5)) (g := W.heap.size) (k := 9) (by omega) (heap_new W _))
 go_enter Tryz.func262,Tryz.ntmps262
 go_wp2_with fail
 refine (IX.out _).mono ?_;rintro e w1 ⟨rfl,hw1⟩;obtain ⟨W0,hW0⟩ : ∃ W0,W0 = w.alloc setObj := ⟨_,rfl⟩;have hW1 : w1 = W0 := by rw [hw1,hW0];rfl
 have HW0 := qhid hW0;clear hw1;subst hW1;clear hW0
 go_wp2_with fail
 refine (IY.out _).mono ?_;rintro e w3 ⟨rfl,hw3⟩;obtain rfl : w1 = w3 := hw3.symm
 go_wp2_with fail
 refine (OF.out _).mono ?_;rintro e w2 ⟨rfl,hb2⟩;have HB2 : Hid (Below (w.alloc setObj).heap.size (w.alloc setObj) w2) := qhid (by rw [<- HW0.out];exact (below1 _ _).trans (hb2.mono (by simp)));clear hb2;obtain ⟨⟨q0,q1,q2,q3⟩,⟨f0,f1,f2,f3⟩,hsz⟩ := set_cells (kept_below HB2.out);have HBw : Hid (Below w.heap.size w w2) := qhid ((below1 w _).trans (HB2.out.mono (by simp)))
 go_wp2_with fail
 refine bodyPost_ret (v := meanAns (oneW 9,true)) (by simp [results,Tryz.results262,go_sem,meanAns,oneW,q0,q1,q2,q3]) rfl ⟨rfl,?_⟩;exact below_put (t := oneW 9) HBw.out (jN _)
theorem mean_114 (w : World) :
  Calls Tryz.prog 262 #[.int .u8 (114 : Int)] w fun e w' => e = .returned (meanAns (oneW 13,true)) /\ Below w.heap.size w w' := by
 have IX := qhid (fun W => tidx_any themS 114 (-1) (by decide +kernel) W);have IY := qhid (fun W => tidx_any letS 114 2 (by decide +kernel) W);have OF := qhid (fun W => of_blk (w := W.alloc (.cells #[.int .u8 ((13 : Nat) : Int)] 5)) (g := W.heap.size) (k := 13) (by omega) (heap_new W _))
 go_enter Tryz.func262,Tryz.ntmps262
 go_wp2_with fail
 refine (IX.out _).mono ?_;rintro e w1 ⟨rfl,hw1⟩;obtain ⟨W0,hW0⟩ : ∃ W0,W0 = w.alloc setObj := ⟨_,rfl⟩;have hW1 : w1 = W0 := by rw [hw1,hW0];rfl
 have HW0 := qhid hW0;clear hw1;subst hW1;clear hW0
 go_wp2_with fail
 refine (IY.out _).mono ?_;rintro e w3 ⟨rfl,hw3⟩;obtain rfl : w1 = w3 := hw3.symm
 go_wp2_with fail
 refine (OF.out _).mono ?_;rintro e w2 ⟨rfl,hb2⟩;have HB2 : Hid (Below (w.alloc setObj).heap.size (w.alloc setObj) w2) := qhid (by rw [<- HW0.out];exact (below1 _ _).trans (hb2.mono (by simp)));clear hb2;obtain ⟨⟨q0,q1,q2,q3⟩,⟨f0,f1,f2,f3⟩,hsz⟩ := set_cells (kept_below HB2.out);have HBw : Hid (Below w.heap.size w w2) := qhid ((below1 w _).trans (HB2.out.mono (by simp)))
 go_wp2_with fail
 refine bodyPost_ret (v := meanAns (oneW 13,true)) (by simp [results,Tryz.results262,go_sem,meanAns,oneW,q0,q1,q2,q3]) rfl ⟨rfl,?_⟩;exact below_put (t := oneW 13) HBw.out (jN _)
theorem mean_102 (w : World) :
  Calls Tryz.prog 262 #[.int .u8 (102 : Int)] w fun e w' => e = .returned (meanAns (oneW 12,true)) /\ Below w.heap.size w w' := by
 have IX := qhid (fun W => tidx_any themS 102 (-1) (by decide +kernel) W);have IY := qhid (fun W => tidx_any letS 102 3 (by decide +kernel) W);have OF := qhid (fun W => of_blk (w := W.alloc (.cells #[.int .u8 ((12 : Nat) : Int)] 5)) (g := W.heap.size) (k := 12) (by omega) (heap_new W _))
 go_enter Tryz.func262,Tryz.ntmps262
 go_wp2_with fail
 refine (IX.out _).mono ?_;rintro e w1 ⟨rfl,hw1⟩;obtain ⟨W0,hW0⟩ : ∃ W0,W0 = w.alloc setObj := ⟨_,rfl⟩;have hW1 : w1 = W0 := by rw [hw1,hW0];rfl
 have HW0 := qhid hW0;clear hw1;subst hW1;clear hW0
 go_wp2_with fail
 refine (IY.out _).mono ?_;rintro e w3 ⟨rfl,hw3⟩;obtain rfl : w1 = w3 := hw3.symm
 go_wp2_with fail
 refine (OF.out _).mono ?_;rintro e w2 ⟨rfl,hb2⟩;have HB2 : Hid (Below (w.alloc setObj).heap.size (w.alloc setObj) w2) := qhid (by rw [<- HW0.out];exact (below1 _ _).trans (hb2.mono (by simp)));clear hb2;obtain ⟨⟨q0,q1,q2,q3⟩,⟨f0,f1,f2,f3⟩,hsz⟩ := set_cells (kept_below HB2.out);have HBw : Hid (Below w.heap.size w w2) := qhid ((below1 w _).trans (HB2.out.mono (by simp)))
 go_wp2_with fail
 refine bodyPost_ret (v := meanAns (oneW 12,true)) (by simp [results,Tryz.results262,go_sem,meanAns,oneW,q0,q1,q2,q3]) rfl ⟨rfl,?_⟩;exact below_put (t := oneW 12) HBw.out (jN _)
theorem mean_118 (w : World) :
  Calls Tryz.prog 262 #[.int .u8 (118 : Int)] w fun e w' => e = .returned (meanAns (oneW 11,true)) /\ Below w.heap.size w w' := by
 have IX := qhid (fun W => tidx_any themS 118 (-1) (by decide +kernel) W);have IY := qhid (fun W => tidx_any letS 118 4 (by decide +kernel) W);have OF := qhid (fun W => of_blk (w := W.alloc (.cells #[.int .u8 ((11 : Nat) : Int)] 5)) (g := W.heap.size) (k := 11) (by omega) (heap_new W _))
 go_enter Tryz.func262,Tryz.ntmps262
 go_wp2_with fail
 refine (IX.out _).mono ?_;rintro e w1 ⟨rfl,hw1⟩;obtain ⟨W0,hW0⟩ : ∃ W0,W0 = w.alloc setObj := ⟨_,rfl⟩;have hW1 : w1 = W0 := by rw [hw1,hW0];rfl
 have HW0 := qhid hW0;clear hw1;subst hW1;clear hW0
 go_wp2_with fail
 refine (IY.out _).mono ?_;rintro e w3 ⟨rfl,hw3⟩;obtain rfl : w1 = w3 := hw3.symm
 go_wp2_with fail
 refine (OF.out _).mono ?_;rintro e w2 ⟨rfl,hb2⟩;have HB2 : Hid (Below (w.alloc setObj).heap.size (w.alloc setObj) w2) := qhid (by rw [<- HW0.out];exact (below1 _ _).trans (hb2.mono (by simp)));clear hb2;obtain ⟨⟨q0,q1,q2,q3⟩,⟨f0,f1,f2,f3⟩,hsz⟩ := set_cells (kept_below HB2.out);have HBw : Hid (Below w.heap.size w w2) := qhid ((below1 w _).trans (HB2.out.mono (by simp)))
 go_wp2_with fail
 refine bodyPost_ret (v := meanAns (oneW 11,true)) (by simp [results,Tryz.results262,go_sem,meanAns,oneW,q0,q1,q2,q3]) rfl ⟨rfl,?_⟩;exact below_put (t := oneW 11) HBw.out (jN _)
abbrev HeldS (wr : World) (g : Nat) (t : W4) (w' : World) : Prop :=
 (w'.cell? ⟨g,0,none⟩ = some (.int .u64 t.a) /\ w'.cell? ⟨g,1,none⟩ = some (.int .u64 t.b) /\ w'.cell? ⟨g,2,none⟩ = some (.int .u64 t.c) /\ w'.cell? ⟨g,3,none⟩ = some (.int .u64 t.d)) /\ g < w'.heap.size /\ Below wr.heap.size wr w'
theorem heldS_below {wr : World} {g : Nat} {t : W4} {X Y : World} (hb : Below X.heap.size X Y) (h : HeldS wr g t X) : HeldS wr g t Y :=
 ⟨SetAt.below (s := t) (o := 0) h.1 hb h.2.1,Nat.lt_of_lt_of_le h.2.1 hb.size,h.2.2.trans (hb.mono h.2.2.size)⟩
theorem heldS_drew {wr : World} {g : Nat} {t : W4} {X : World} (h : HeldS wr g t X) : HeldS wr g t X.drew := ⟨h.1,h.2.1,h.2.2.drew⟩
theorem set_of_block {W : World} {g : Nat} {t : W4} (h : W.heap[g]? = some (.cells #[.int .u64 t.a,.int .u64 t.b,.int .u64 t.c,.int .u64 t.d] 29)) : SetAt W g 0 t /\ g < W.heap.size :=
 ⟨⟨jC h 0,jC h 1,jC h 2,jC h 3⟩,jS h⟩
theorem three_blk {s t u : W4} {w : World} {g : Nat} (h : w.heap[g]? = some (.cells #[.int .u64 s.a,.int .u64 s.b,.int .u64 s.c,.int .u64 s.d,.int .u64 t.a,.int .u64 t.b,.int .u64 t.c,.int .u64 t.d,.int .u64 u.a,.int .u64 u.b,.int .u64 u.c,.int .u64 u.d] 29)) :
  Calls Tryz.prog 259 #[.slice (some ⟨g,0,none⟩) 3 3] w fun e w' => e = .returned (.agg #[.int .u64 (uni3 s t u).a,.int .u64 (uni3 s t u).b,.int .u64 (uni3 s t u).c,.int .u64 (uni3 s t u).d]) /\ Below w.heap.size w w' :=
 union_three g _ _ _ _ _ _ _ _ _ _ _ _ w (jS h) (jC h 0) (jC h 1) (jC h 2) (jC h 3) (jC h 4) (jC h 5) (jC h 6) (jC h 7) (jC h 8) (jC h 9) (jC h 10) (jC h 11)
def rngW (lo hi : Nat) : W4 := ⟨rgw lo hi 0,rgw lo hi 1,rgw lo hi 2,rgw lo hi 3⟩
def foldW (t : W4) : W4 := ⟨t.a,fo t.b,t.c,t.d⟩
def meanTold (d r l u x : W4) : Nat -> Reg.Told
 | 0 => .inl (.agg #[.int .u64 d.a,.int .u64 d.b,.int .u64 d.c,.int .u64 d.d])
 | 1 => .inl (.agg #[.int .u64 r.a,.int .u64 r.b,.int .u64 r.c,.int .u64 r.d])
 | 2 => .inl (.agg #[.int .u64 l.a,.int .u64 l.b,.int .u64 l.c,.int .u64 l.d])
 | 3 => .inr ⟨fun G => .slice (some ⟨G,0,none⟩) 1 1,5,#[.int .u8 95]⟩
 | 4 => .inl (.agg #[.int .u64 u.a,.int .u64 u.b,.int .u64 u.c,.int .u64 u.d])
 | 5 => .inr ⟨fun G => .slice (some ⟨G,0,none⟩) 3 3,29,#[.int .u64 d.a,.int .u64 d.b,.int .u64 d.c,.int .u64 d.d,.int .u64 l.a,.int .u64 l.b,.int .u64 l.c,.int .u64 l.d,.int .u64 u.a,.int .u64 u.b,.int .u64 u.c,.int .u64 u.d]⟩
 | 6 => .inl (.agg #[.int .u64 x.a,.int .u64 x.b,.int .u64 x.c,.int .u64 x.d])
 | 7 => .inr ⟨fun G => .pointer (some ⟨G,0,none⟩),29,#[.int .u64 0,.int .u64 0,.int .u64 0,.int .u64 0]⟩
 | _ => .inl undef
theorem below_put_alloc {w w' : World} {b : Nat} {t : W4} (h : Below w.heap.size w w') (hb : w.heap.size <= b) (o : Obj) : Below w.heap.size w ((setPut w' b t).alloc o) :=
 (below_put (t := t) h hb).alloc (below_put (t := t) h hb).size o
theorem mean_rest (b : Nat) (hb : b < 256) (ht : themB b = false) (hl : letB b = false) (w : World) :
  Calls Tryz.prog 262 #[.int .u8 (b : Int)] w fun e w' => e = .returned (meanAns (meanR b)) /\ Below w.heap.size w w' := by
 have h1 := them_idx b hb;have h2 := let_idx b hb;rw [ht] at h1;rw [hl] at h2;obtain ⟨v,hv⟩ : ∃ v,firstIdx themS (b : Int).toNat.toUInt8 = v := ⟨_,rfl⟩;obtain ⟨u,hu⟩ : ∃ u,firstIdx letS (b : Int).toNat.toUInt8 = u := ⟨_,rfl⟩;rw [hv] at h1;rw [hu] at h2;have IX := qhid (fun W => tidx_any themS b v hv W);have IY := qhid (fun W => tidx_any letS b u hu W);have RG : Hid (∀ W,Calls Tryz.prog 216 #[.int .u8 48,.int .u8 57] W fun e w' => e = .returned (.agg #[.int .u64 (rngW 48 57).a,.int .u64 (rngW 48 57).b,.int .u64 (rngW 48 57).c,.int .u64 (rngW 48 57).d]) /\ Below W.heap.size W w') := qhid (fun W => range_any 48 57 (by omega) (by omega) W);have RL : Hid (∀ W,Calls Tryz.prog 216 #[.int .u8 97,.int .u8 122] W fun e w' => e = .returned (.agg #[.int .u64 (rngW 97 122).a,.int .u64 (rngW 97 122).b,.int .u64 (rngW 97 122).c,.int .u64 (rngW 97 122).d]) /\ Below W.heap.size W w') := qhid (fun W => range_any 97 122 (by omega) (by omega) W);have RB : Hid (∀ W,Calls Tryz.prog 216 #[.int .u8 9,.int .u8 13] W fun e w' => e = .returned (.agg #[.int .u64 (rngW 9 13).a,.int .u64 (rngW 9 13).b,.int .u64 (rngW 9 13).c,.int .u64 (rngW 9 13).d]) /\ Below W.heap.size W w') := qhid (fun W => range_any 9 13 (by omega) (by omega) W);have FL : Hid (∀ W,Calls Tryz.prog 268 #[.agg #[.int .u64 (rngW 97 122).a,.int .u64 (rngW 97 122).b,.int .u64 (rngW 97 122).c,.int .u64 (rngW 97 122).d]] W fun e w' => e = .returned (.agg #[.int .u64 (foldW (rngW 97 122)).a,.int .u64 (foldW (rngW 97 122)).b,.int .u64 (foldW (rngW 97 122)).c,.int .u64 (foldW (rngW 97 122)).d]) /\ Below W.heap.size W w') := qhid (fun W => fold_any _ _ _ _ W);have OU : Hid (∀ W g,W.heap[g]? = some (.cells #[.int .u8 95] 5) -> Calls Tryz.prog 127 #[.slice (some ⟨g,0,none⟩) 1 1] W fun e w' => e = .returned (.agg #[.int .u64 (oneW 95).a,.int .u64 (oneW 95).b,.int .u64 (oneW 95).c,.int .u64 (oneW 95).d]) /\ Below W.heap.size W w') := qhid (fun W g h => of_blk (k := 95) (by omega) h);have UN : Hid (∀ W g,W.heap[g]? = some (.cells #[.int .u64 (rngW 48 57).a,.int .u64 (rngW 48 57).b,.int .u64 (rngW 48 57).c,.int .u64 (rngW 48 57).d,.int .u64 (foldW (rngW 97 122)).a,.int .u64 (foldW (rngW 97 122)).b,.int .u64 (foldW (rngW 97 122)).c,.int .u64 (foldW (rngW 97 122)).d,.int .u64 (oneW 95).a,.int .u64 (oneW 95).b,.int .u64 (oneW 95).c,.int .u64 (oneW 95).d] 29) -> Calls Tryz.prog 259 #[.slice (some ⟨g,0,none⟩) 3 3] W fun e w' => e = .returned (.agg #[.int .u64 (uni3 (rngW 48 57) (foldW (rngW 97 122)) (oneW 95)).a,.int .u64 (uni3 (rngW 48 57) (foldW (rngW 97 122)) (oneW 95)).b,.int .u64 (uni3 (rngW 48 57) (foldW (rngW 97 122)) (oneW 95)).c,.int .u64 (uni3 (rngW 48 57) (foldW (rngW 97 122)) (oneW 95)).d]) /\ Below W.heap.size W w') := qhid (fun W g h => three_blk h);have OO : Hid (∀ W : World,Calls Tryz.prog 127 #[.slice (some ⟨W.heap.size,0,none⟩) 1 1] (W.alloc (.cells #[.int .u8 32] 5)) fun e w' => e = .returned (.agg #[.int .u64 (oneW 32).a,.int .u64 (oneW 32).b,.int .u64 (oneW 32).c,.int .u64 (oneW 32).d]) /\ Below (W.alloc (.cells #[.int .u8 32] 5)).heap.size (W.alloc (.cells #[.int .u8 32] 5)) w') := qhid (fun W => of_blk (k := 32) (by omega) (heap_new W _));have U2 : Hid (∀ W : World,Calls Tryz.prog 259 #[.slice (some ⟨W.heap.size,0,none⟩) 2 2] (W.alloc (.cells #[.int .u64 (rngW 9 13).a,.int .u64 (rngW 9 13).b,.int .u64 (rngW 9 13).c,.int .u64 (rngW 9 13).d,.int .u64 (oneW 32).a,.int .u64 (oneW 32).b,.int .u64 (oneW 32).c,.int .u64 (oneW 32).d] 29)) fun e w' => e = .returned (.agg #[.int .u64 (uni2 (rngW 9 13) (oneW 32)).a,.int .u64 (uni2 (rngW 9 13) (oneW 32)).b,.int .u64 (uni2 (rngW 9 13) (oneW 32)).c,.int .u64 (uni2 (rngW 9 13) (oneW 32)).d]) /\ Below (W.alloc (.cells #[.int .u64 (rngW 9 13).a,.int .u64 (rngW 9 13).b,.int .u64 (rngW 9 13).c,.int .u64 (rngW 9 13).d,.int .u64 (oneW 32).a,.int .u64 (oneW 32).b,.int .u64 (oneW 32).c,.int .u64 (oneW 32).d] 29)).heap.size (W.alloc (.cells #[.int .u64 (rngW 9 13).a,.int .u64 (rngW 9 13).b,.int .u64 (rngW 9 13).c,.int .u64 (rngW 9 13).d,.int .u64 (oneW 32).a,.int .u64 (oneW 32).b,.int .u64 (oneW 32).c,.int .u64 (oneW 32).d] 29)) w') := qhid (fun W => union_new _ _ _ _ _ _ _ _ W)
 have HMR : Hid (meanR b = if b = 100 then (rngW 48 57,true) else if b = 119 then (uni3 (rngW 48 57) (foldW (rngW 97 122)) (oneW 95),true) else if b = 115 then (uni2 (rngW 9 13) (oneW 32),true) else if b = 68 then (notW (rngW 48 57),true) else if b = 87 then (notW (uni3 (rngW 48 57) (foldW (rngW 97 122)) (oneW 95)),true) else if b = 83 then (notW (uni2 (rngW 9 13) (oneW 32)),true) else (noW,false)) := qhid (by
  have k0 : ¬ b = 110 := by rintro rfl;revert hl;decide
  have k1 : ¬ b = 116 := by rintro rfl;revert hl;decide
  have k2 : ¬ b = 114 := by rintro rfl;revert hl;decide
  have k3 : ¬ b = 102 := by rintro rfl;revert hl;decide
  have k4 : ¬ b = 118 := by rintro rfl;revert hl;decide
  unfold meanR;rw [ht,if_neg (by decide),if_neg k0,if_neg k1,if_neg k2,if_neg k3,if_neg k4]
  rfl)
 generalize uni3 (rngW 48 57) (foldW (rngW 97 122)) (oneW 95) = xW at *;generalize uni2 (rngW 9 13) (oneW 32) = kW at *;generalize rngW 48 57 = dW at *;generalize foldW (rngW 97 122) = lW at *;generalize rngW 97 122 = rW at *;generalize rngW 9 13 = sW at *;generalize oneW 95 = uW at *;generalize oneW 32 = oW at *;clear ht hl hv hu
 go_enter Tryz.func262,Tryz.ntmps262
 go_wp2_with fail
 refine (IX.out _).mono ?_;rintro e w1 ⟨rfl,hw1⟩;obtain ⟨W0,hW0⟩ : ∃ W0,W0 = w.alloc setObj := ⟨_,rfl⟩;have hW1 : w1 = W0 := by rw [hw1,hW0];rfl
 have HW0 := qhid hW0;clear hw1;subst hW1;clear hW0
 go_wp2_with fail
 refine (IY.out _).mono ?_;rintro e w3 ⟨rfl,hw3⟩;obtain rfl : w1 = w3 := hw3.symm
 go_wp2_with fail
 refine (RG.out _).mono ?_;rintro e w2 ⟨rfl,hb2⟩;have HB2 : Hid (Below (w.alloc setObj).heap.size (w.alloc setObj) w2) := qhid (by rw [<- HW0.out];exact hb2);clear hb2
 go_wp2_with fail
 have hgd : (w2.alloc (.cells #[.int .u64 dW.a,.int .u64 dW.b,.int .u64 dW.c,.int .u64 dW.d] 29)).heap[w2.heap.size]? = some (.cells #[.int .u64 dW.a,.int .u64 dW.b,.int .u64 dW.c,.int .u64 dW.d] 29) := heap_new _ _;have HB6 : Hid (Below (w.alloc setObj).heap.size (w.alloc setObj) (w2.alloc (.cells #[.int .u64 dW.a,.int .u64 dW.b,.int .u64 dW.c,.int .u64 dW.d] 29))) := qhid (HB2.out.trans ((below1 _ _).mono HB2.out.size));obtain ⟨W6,hW6⟩ : ∃ W6,W6 = w2.alloc (.cells #[.int .u64 dW.a,.int .u64 dW.b,.int .u64 dW.c,.int .u64 dW.d] 29) := ⟨_,rfl⟩;rw [<- hW6] at hgd HB6;rw [<- hW6];clear hW6;generalize w2.heap.size = gd at *;have HS0 : HeldS W6 gd dW W6 := ⟨(set_of_block hgd).1,(set_of_block hgd).2,Below.refl _ _⟩;clear hgd;refine Reg.wp_region_told (meanTold dW rW lW uW xW) [(8,7,#[.int .u64 xW.a,.int .u64 xW.b,.int .u64 xW.c,.int .u64 xW.d])] [0,1,2,3,4,5,6,7,8] (by rfl) (by kernel_rfl) (by kernel_rfl) (by intro f hf f' hf' _;rw [List.mem_singleton.1 hf,List.mem_singleton.1 hf']) (by intro f hf f' hf' _;rw [List.mem_singleton.1 hf,List.mem_singleton.1 hf']) ?_ ?_
 focus
  refine ⟨Reg.opOK_plain (by rfl) fun G listed A wv hI hall => .inl ⟨Reg.wanted_none rfl,?_⟩,?_⟩
  focus
   have H := heldS_below hI.base (heldS_drew HS0);have e5 := hI.evo (d := 5) (by kernel_rfl) rfl;clear hI hall HS0;unfold Reg.Yields
   go_simp
   exact Reg.good_val (by rfl) (by rfl) (Below.refl _ _)
  refine ⟨Reg.opOK_plain (by rfl) fun G listed A wv hI hall => .inl ⟨Reg.wanted_none rfl,?_⟩,?_⟩
  focus
   clear hI hall HS0;unfold Reg.Yields
   go_simp
   exact (RL.out _).mono fun e w'' ⟨he,hb⟩ => ⟨_,he,Reg.good_val (by rfl) (by rfl) hb⟩
  refine ⟨Reg.opOK_plain (by rfl) fun G listed A wv hI hall => .inl ⟨Reg.wanted_none rfl,?_⟩,?_⟩
  focus
   have e24 := hI.ev (i := 1) (d := 24) (by rfl) (by rfl) (hall ⟨1,.data⟩ (by simp) rfl);clear hI hall HS0;unfold Reg.Yields
   go_simp
   exact (FL.out _).mono fun e w'' ⟨he,hb⟩ => ⟨_,he,Reg.good_val (by rfl) (by rfl) hb⟩
  refine ⟨Reg.opOK_plain (by rfl) fun G listed A wv hI hall => .inl ⟨Reg.wanted_none rfl,?_⟩,?_⟩
  focus
   clear hI hall HS0;unfold Reg.Yields
   go_simp
   exact Reg.good_new (by rfl) (by rfl) (by rfl)
  refine ⟨Reg.opOK_plain (by rfl) fun G listed A wv hI hall => .inl ⟨Reg.wanted_none rfl,?_⟩,?_⟩
  focus
   obtain ⟨e26,_,b26⟩ := hI.evm (i := 3) (d := 26) (by rfl) (by rfl) (hall ⟨3,.data⟩ (by simp) rfl);clear hI hall HS0;unfold Reg.Yields
   go_simp
   exact (OU.out _ _ b26).mono fun e w'' ⟨he,hb⟩ => ⟨_,he,Reg.good_val (by rfl) (by rfl) hb⟩
  refine ⟨Reg.opOK_plain (by rfl) fun G listed A wv hI hall => .inl ⟨Reg.wanted_none rfl,?_⟩,?_⟩
  focus
   have e23 := hI.ev (i := 0) (d := 23) (by rfl) (by rfl) (hall ⟨0,.data⟩ (by simp) rfl);have e25 := hI.ev (i := 2) (d := 25) (by rfl) (by rfl) (hall ⟨2,.data⟩ (by simp) rfl);have e27 := hI.ev (i := 4) (d := 27) (by rfl) (by rfl) (hall ⟨4,.data⟩ (by simp) rfl);clear hI hall HS0;unfold Reg.Yields
   go_simp
   exact Reg.good_new (by rfl) (by rfl) (by rfl)
  refine ⟨Reg.opOK_plain (by rfl) fun G listed A wv hI hall => .inl ⟨Reg.wanted_none rfl,?_⟩,?_⟩
  focus
   obtain ⟨e28,_,b28⟩ := hI.evm (i := 5) (d := 28) (by rfl) (by rfl) (hall ⟨5,.data⟩ (by simp) rfl);clear hI hall HS0;unfold Reg.Yields
   go_simp
   exact (UN.out _ _ b28).mono fun e w'' ⟨he,hb⟩ => ⟨_,he,Reg.good_val (by rfl) (by rfl) hb⟩
  refine ⟨Reg.opOK_plain (by rfl) fun G listed A wv hI hall => .inl ⟨Reg.wanted_none rfl,?_⟩,?_⟩
  focus
   clear hI hall HS0;unfold Reg.Yields
   go_simp
   exact Reg.good_new (by rfl) (by rfl) (by rfl)
  refine ⟨Reg.opOK_fill (by rfl) (by rfl) (by rfl) rfl rfl (by simp) (fun G listed A wv hI hall s6 hc => ?_) (by intro f hf f' hf' _;rw [List.mem_singleton.1 hf,List.mem_singleton.1 hf']),?_⟩
  focus
   have e6 := s6;have e29 := hI.ev (i := 6) (d := 29) (by rfl) (by rfl) (hall ⟨6,.data⟩ (by simp) rfl);clear hI hall HS0;unfold Reg.Yields
   rcases hc with hc | hc <;> (obtain ⟨c0,c1,c2,c3,f0,f1,f2,f3⟩ := Reg.cells4 hc;have hc' := hid hc;clear hc s6;go_simp;exact Reg.filled4 hc'.out _ _ _ _)
  trivial
 intro G w7 hI;obtain ⟨_,_,c7⟩ := hI.evm (i := 7) (d := 6) (by rfl) (by rfl) (by rfl);have b7 : w7.heap[G 7]? = some (.cells #[.int .u64 xW.a,.int .u64 xW.b,.int .u64 xW.c,.int .u64 xW.d] 29) := c7;have HX7 := hid (set_of_block (t := xW) b7);have HD7 := hid (heldS_below hI.base (heldS_drew HS0));have HB7 : Hid (Below (w.alloc setObj).heap.size (w.alloc setObj) w7) := hid (HB6.out.trans (HD7.out.2.2.mono HB6.out.size));clear hI c7 HS0 b7;simp [Reg.finalTmps,Reg.dstAt,Reg.valOf,meanTold];generalize G 7 = gm at *
 go_wp2_with fail
 refine (RB.out _).mono ?_;rintro e w8 ⟨rfl,hb8⟩;have HD8 := hid (heldS_below hb8 HD7.out);have HX8 : Hid (SetAt w8 gm 0 xW /\ gm < w8.heap.size) := hid ⟨HX7.out.1.below hb8 HX7.out.2,Nat.lt_of_lt_of_le HX7.out.2 hb8.size⟩;have HB8 := hid (HB7.out.trans (hb8.mono HB7.out.size));clear hb8
 go_wp2_with fail
 refine (OO.out w8).mono ?_;rintro e w9 ⟨rfl,hb9'⟩;have hb9 : Below w8.heap.size w8 w9 := (below1 _ _).trans (hb9'.mono (by simp));have HD9 := hid (heldS_below hb9 HD8.out);have HX9 : Hid (SetAt w9 gm 0 xW /\ gm < w9.heap.size) := hid ⟨HX8.out.1.below hb9 HX8.out.2,Nat.lt_of_lt_of_le HX8.out.2 hb9.size⟩;have HB9 := hid (HB8.out.trans (hb9.mono HB8.out.size));clear hb9 hb9'
 go_wp2_with fail
 refine (U2.out w9).mono ?_;rintro e w10 ⟨rfl,hb10'⟩;have hb10 : Below w9.heap.size w9 w10 := (below1 _ _).trans (hb10'.mono (by simp));have hb11 : Below w9.heap.size w9 (w10.alloc (.cells #[.int .u64 kW.a,.int .u64 kW.b,.int .u64 kW.c,.int .u64 kW.d] 29)) := hb10.trans ((below1 _ _).mono hb10.size);have HD11 := hid (heldS_below hb11 HD9.out);have HX11 : Hid (SetAt (w10.alloc (.cells #[.int .u64 kW.a,.int .u64 kW.b,.int .u64 kW.c,.int .u64 kW.d] 29)) gm 0 xW /\ gm < (w10.alloc (.cells #[.int .u64 kW.a,.int .u64 kW.b,.int .u64 kW.c,.int .u64 kW.d] 29)).heap.size) := hid ⟨HX9.out.1.below hb11 HX9.out.2,Nat.lt_of_lt_of_le HX9.out.2 hb11.size⟩;have HB11 := hid (HB9.out.trans (hb11.mono HB9.out.size));have HB10 := hid (HB9.out.trans (hb10.mono HB9.out.size));have HD10 := hid (heldS_below hb10 HD9.out);have HX10 : Hid (SetAt w10 gm 0 xW /\ gm < w10.heap.size) := hid ⟨HX9.out.1.below hb10 HX9.out.2,Nat.lt_of_lt_of_le HX9.out.2 hb10.size⟩;have HK11 := hid (set_of_block (t := kW) (heap_new w10 (.cells #[.int .u64 kW.a,.int .u64 kW.b,.int .u64 kW.c,.int .u64 kW.d] 29)));clear hb10 hb10' hb11;have NOT := hid (fun (t : W4) W => not_any t.a t.b t.c t.d W);obtain ⟨d0,d1,d2,d3⟩ := HD10.out.1;have hgdl := HD10.out.2.1;obtain ⟨x0,x1,x2,x3⟩ := HX10.out.1;have hgml := HX10.out.2
 by_cases h100 : b = 100
 ·have HF : Hid (meanR b = (dW,true)) := hid (by rw [HMR.out,if_pos h100]);have t100 : ((b : Int) == 100) = true := by simp;omega
  clear h100;obtain ⟨⟨q0,q1,q2,q3⟩,⟨f0,f1,f2,f3⟩,hsz⟩ := set_cells (kept_below HB10.out);have HBw := hid ((below1 w _).trans (HB10.out.mono (by simp)))
  go_wp2_with fail
  refine bodyPost_ret (v := meanAns (dW,true)) (by simp [results,Tryz.results262,go_sem,meanAns,hsz,q0,q1,q2,q3]) rfl ⟨by rw [HF.out],?_⟩;exact below_put_alloc (t := dW) HBw.out (jN _) _
 ·by_cases h119 : b = 119
  ·have HF : Hid (meanR b = (xW,true)) := hid (by rw [HMR.out,if_neg h100,if_pos h119]);have t100 : ((b : Int) == 100) = false := by simp;omega
   have t119 : ((b : Int) == 119) = true := by simp;omega
   clear h100 h119;obtain ⟨⟨q0,q1,q2,q3⟩,⟨f0,f1,f2,f3⟩,hsz⟩ := set_cells (kept_below HB10.out);have HBw := hid ((below1 w _).trans (HB10.out.mono (by simp)))
   go_wp2_with fail
   refine bodyPost_ret (v := meanAns (xW,true)) (by simp [results,Tryz.results262,go_sem,meanAns,hsz,q0,q1,q2,q3]) rfl ⟨by rw [HF.out],?_⟩;exact below_put_alloc (t := xW) HBw.out (jN _) _
  ·by_cases h115 : b = 115
   ·have HF : Hid (meanR b = (kW,true)) := hid (by rw [HMR.out,if_neg h100,if_neg h119,if_pos h115]);have t100 : ((b : Int) == 100) = false := by simp;omega
    have t119 : ((b : Int) == 119) = false := by simp;omega
    have t115 : ((b : Int) == 115) = true := by simp;omega
    clear h100 h119 h115;obtain ⟨⟨q0,q1,q2,q3⟩,⟨f0,f1,f2,f3⟩,hsz⟩ := set_cells (kept_below HB10.out);have HBw := hid ((below1 w _).trans (HB10.out.mono (by simp)))
    go_wp2_with fail
    refine bodyPost_ret (v := meanAns (kW,true)) (by simp [results,Tryz.results262,go_sem,meanAns,hsz,q0,q1,q2,q3]) rfl ⟨by rw [HF.out],?_⟩;exact below_put_alloc (t := kW) HBw.out (jN _) _
   ·by_cases h68 : b = 68
    ·have HF : Hid (meanR b = (notW dW,true)) := hid (by rw [HMR.out,if_neg h100,if_neg h119,if_neg h115,if_pos h68]);have t100 : ((b : Int) == 100) = false := by simp;omega
     have t119 : ((b : Int) == 119) = false := by simp;omega
     have t115 : ((b : Int) == 115) = false := by simp;omega
     have t68 : ((b : Int) == 68) = true := by simp;omega
     clear h100 h119 h115 h68
     go_wp2_with fail
     refine (NOT.out dW _).mono ?_;rintro e w12 ⟨rfl,hb12⟩;have HB12 := hid (HB11.out.trans (hb12.mono HB11.out.size));clear hb12;obtain ⟨⟨q0,q1,q2,q3⟩,⟨f0,f1,f2,f3⟩,hsz⟩ := set_cells (kept_below HB12.out);have HBw := hid ((below1 w _).trans (HB12.out.mono (by simp)))
     go_wp2_with fail
     refine bodyPost_ret (v := meanAns (notW dW,true)) (by simp [results,Tryz.results262,go_sem,meanAns,notW,q0,q1,q2,q3]) rfl ⟨by rw [HF.out],?_⟩;exact below_put (t := (notW dW)) HBw.out (jN _)
    ·by_cases h87 : b = 87
     ·have HF : Hid (meanR b = (notW xW,true)) := hid (by rw [HMR.out,if_neg h100,if_neg h119,if_neg h115,if_neg h68,if_pos h87]);have t100 : ((b : Int) == 100) = false := by simp;omega
      have t119 : ((b : Int) == 119) = false := by simp;omega
      have t115 : ((b : Int) == 115) = false := by simp;omega
      have t68 : ((b : Int) == 68) = false := by simp;omega
      have t87 : ((b : Int) == 87) = true := by simp;omega
      clear h100 h119 h115 h68 h87
      go_wp2_with fail
      refine (NOT.out xW _).mono ?_;rintro e w12 ⟨rfl,hb12⟩;have HB12 := hid (HB11.out.trans (hb12.mono HB11.out.size));clear hb12;obtain ⟨⟨q0,q1,q2,q3⟩,⟨f0,f1,f2,f3⟩,hsz⟩ := set_cells (kept_below HB12.out);have HBw := hid ((below1 w _).trans (HB12.out.mono (by simp)))
      go_wp2_with fail
      refine bodyPost_ret (v := meanAns (notW xW,true)) (by simp [results,Tryz.results262,go_sem,meanAns,notW,q0,q1,q2,q3]) rfl ⟨by rw [HF.out],?_⟩;exact below_put (t := (notW xW)) HBw.out (jN _)
     ·by_cases h83 : b = 83
      ·have HF : Hid (meanR b = (notW kW,true)) := hid (by rw [HMR.out,if_neg h100,if_neg h119,if_neg h115,if_neg h68,if_neg h87,if_pos h83]);have t100 : ((b : Int) == 100) = false := by simp;omega
       have t119 : ((b : Int) == 119) = false := by simp;omega
       have t115 : ((b : Int) == 115) = false := by simp;omega
       have t68 : ((b : Int) == 68) = false := by simp;omega
       have t87 : ((b : Int) == 87) = false := by simp;omega
       have t83 : ((b : Int) == 83) = true := by simp;omega
       clear h100 h119 h115 h68 h87 h83
       go_wp2_with fail
       refine (NOT.out kW _).mono ?_;rintro e w12 ⟨rfl,hb12⟩;have HB12 := hid (HB11.out.trans (hb12.mono HB11.out.size));clear hb12;obtain ⟨⟨q0,q1,q2,q3⟩,⟨f0,f1,f2,f3⟩,hsz⟩ := set_cells (kept_below HB12.out);have HBw := hid ((below1 w _).trans (HB12.out.mono (by simp)))
       go_wp2_with fail
       refine bodyPost_ret (v := meanAns (notW kW,true)) (by simp [results,Tryz.results262,go_sem,meanAns,notW,q0,q1,q2,q3]) rfl ⟨by rw [HF.out],?_⟩;exact below_put (t := (notW kW)) HBw.out (jN _)
      ·have HF : Hid (meanR b = (noW,false)) := hid (by rw [HMR.out,if_neg h100,if_neg h119,if_neg h115,if_neg h68,if_neg h87,if_neg h83]);have t100 : ((b : Int) == 100) = false := by simp;omega
       have t119 : ((b : Int) == 119) = false := by simp;omega
       have t115 : ((b : Int) == 115) = false := by simp;omega
       have t68 : ((b : Int) == 68) = false := by simp;omega
       have t87 : ((b : Int) == 87) = false := by simp;omega
       have t83 : ((b : Int) == 83) = false := by simp;omega
       clear h100 h119 h115 h68 h87 h83;obtain ⟨⟨q0,q1,q2,q3⟩,⟨f0,f1,f2,f3⟩,hsz⟩ := set_cells (kept_below HB10.out);have HBw := hid ((below1 w _).trans (HB10.out.mono (by simp)))
       go_wp2_with fail
       refine bodyPost_ret (v := meanAns (noW,false)) (by simp [results,Tryz.results262,go_sem,meanAns,noW,hsz,q0,q1,q2,q3]) rfl ⟨by rw [HF.out],?_⟩;exact below_put_alloc (t := noW) HBw.out (jN _) _
theorem meaning_any (b : Nat) (hb : b < 256) (w : World) :
  Calls Tryz.prog 262 #[.int .u8 (b : Int)] w fun e w' => e = .returned (meanAns (meanR b)) /\ Below w.heap.size w w' := by
 cases ht : themB b
 ·cases hl : letB b
  ·exact mean_rest b hb ht hl w
  ·have h : b = 110 \/ b = 116 \/ b = 114 \/ b = 102 \/ b = 118 := by unfold letB at hl;simpa using hl
   clear hl
   rcases h with rfl | rfl | rfl | rfl | rfl
   ·rw [show meanR 110 = (oneW 10,true) from rfl];exact mean_110 w
   ·rw [show meanR 116 = (oneW 9,true) from rfl];exact mean_116 w
   ·rw [show meanR 114 = (oneW 13,true) from rfl];exact mean_114 w
   ·rw [show meanR 102 = (oneW 12,true) from rfl];exact mean_102 w
   ·rw [show meanR 118 = (oneW 11,true) from rfl];exact mean_118 w
 ·rw [show meanR b = (oneW b,true) by unfold meanR;rw [ht];rfl];exact mean_them b hb ht w
end
end
section
section
open Go Go.RowKit
attribute [local go_sem ↓] Go.wp_at_zero Go.wp_at_succ
attribute [local go_sem] eq4
abbrev refS : ByteArray := ⟨#[49,50,51,52,53,54,55,56,57,98,66,65,122,90,71,81,69,107,112,80]⟩
def refB (b : Nat) : Bool := [49,50,51,52,53,54,55,56,57,98,66,65,122,90,71,81,69,107,112,80].contains b
theorem ref_idx (b : Nat) (hb : b < 256) : decide (0 <= firstIdx refS (b : Int).toNat.toUInt8) = refB b := by
 have hall : ∀ n : Fin 256,decide (0 <= firstIdx refS ((n.val : Nat) : Int).toNat.toUInt8) = refB n.val := by decide +kernel
 exact hall ⟨b,hb⟩
def escR (s : ByteArray) (k : Nat) : W4 × Int × Nat :=
 if s.size <= k + 1 then (noW,4,k + 1) else if refB (bAt s (k + 1)) then (noW,6,k) else if bAt s (k + 1) = 120 then pairR s (k + 1 + 1)
 else if (meanR (bAt s (k + 1))).2 then ((meanR (bAt s (k + 1))).1,0,k + 1 + 1) else (noW,4,k + 1)
theorem tescape_any (g k : Nat) (s : ByteArray) (hk : k < s.size) (hs : s.size <= 1099511627776) (w : World) (h : RdAt w g s k) :
  Calls Tryz.prog 243 #[.pointer (some ⟨g,0,none⟩)] w fun e w' => e = .returned (setAns (escR s k).1 (escR s k).2.1) /\ Rd w w' g s (escR s k).2.2 := by
 have HH := qhid h;have hlt := h.lt;have HA := qhid (rd_alloc h setObj);have ST := qhid (tstep_any g 1 1 s k (by omega) _ HA.out rfl);obtain ⟨q,hq⟩ : ∃ q,q = k + 1 := ⟨_,rfl⟩;have HESC : Hid (escR s k = if s.size <= q then (noW,4,q) else if refB (bAt s q) then (noW,6,k) else if bAt s q = 120 then pairR s (q + 1) else if (meanR (bAt s q)).2 then ((meanR (bAt s q)).1,0,q + 1) else (noW,4,q)) := qhid (by rw [hq];rfl);have HQ := qhid hq;have hqs : q <= s.size := by omega
 clear hq;have HE := qhid (fun W (hW : RdAt W g s q) => tended_any g s q W hW);obtain ⟨r0,r1,rz,rl⟩ := HA.out;unfold setObj at ST r0 r1 rz rl;clear h
 by_cases hend : s.size <= q
 ·have HF : Hid (escR s k = (noW,4,q)) := qhid (by rw [HESC.out,if_pos hend]);rw [jT hend] at HE
  go_enter Tryz.func243,Tryz.ntmps243
  go_wp2_with fail
  refine ST.out.mono ?_;rintro e w2 ⟨rfl,hw2⟩;have HR2 : Hid (Rd (w.alloc setObj) w2 g s q) := qhid ((Rd.refl HA.out).put (by rw [hw2,HQ.out];rfl));clear hw2 r0 r1 rz rl
  go_wp2_with fail
  refine (HE.out _ HR2.out.1).mono ?_;rintro e w3 ⟨rfl,n3,hw3⟩;have HR3 : Hid (Rd (w.alloc setObj) w3 g s q) := qhid (by rw [hw3];exact HR2.out.drewN n3);clear hw3;obtain ⟨⟨q0,q1,q2,q3⟩,⟨f0,f1,f2,f3⟩,_hsz⟩ := set_cells (kept_first HH.out HR3.out);have HRw : Hid (Rd w w3 g s q) := qhid ⟨HR3.out.1,only_first HR3.out.2⟩
  go_wp2_with fail
  refine bodyPost_ret (v := setAns noW 4) (by simp [results,Tryz.results243,go_sem,setAns,noW,q0,q1,q2,q3]) rfl (finS HF.out ?_);exact HRw.out.set (jN _) hlt noW
 ·rw [jF hend] at HE;have hin : q < s.size := by omega
  have hb : ((s[q]'hin).toNat) = bAt s q := (bAt_in hin).symm;have hbl := bAt_lt hin;have hri := ref_idx (bAt s q) hbl;obtain ⟨v,hv⟩ : ∃ v,firstIdx refS ((bAt s q : Nat) : Int).toNat.toUInt8 = v := ⟨_,rfl⟩;rw [hv] at hri;have IX := qhid (fun W => tidx_any refS (bAt s q) v hv W);rw [<- hb] at IX;clear hv
  cases hr : refB (bAt s q)
  ·rw [hr] at hri
   by_cases hx : bAt s q = 120
   ·have SK := qhid (fun W (hW : RdAt W g s q) => skip_yes g s q 120 (by omega) W hW hx hs);have PR := qhid (fun W (hW : RdAt W g s (q + 1)) => tpair_any g (q + 1) s hs W hW);have HF : Hid (escR s k = pairR s (q + 1)) := qhid (by rw [HESC.out,if_neg hend,hr,if_neg (by decide),if_pos hx]);obtain ⟨r,hrr⟩ : ∃ r,r = pairR s (q + 1) := ⟨_,rfl⟩;rw [<- hrr] at PR HF;clear hrr hx hr hb hbl;obtain ⟨t,c,j⟩ := r;have PR' : Hid (∀ W,RdAt W g s (q + 1) -> Calls Tryz.prog 261 #[.pointer (some ⟨g,0,none⟩)] W fun e w' => e = .returned (setAns t c) /\ Rd W w' g s j) := PR;clear PR
    go_enter Tryz.func243,Tryz.ntmps243
    go_wp2_with fail
    refine ST.out.mono ?_;rintro e w2 ⟨rfl,hw2⟩;have HR2 : Hid (Rd (w.alloc setObj) w2 g s q) := qhid ((Rd.refl HA.out).put (by rw [hw2,HQ.out];rfl));clear hw2 r0 r1 rz rl
    go_wp2_with fail
    refine (HE.out _ HR2.out.1).mono ?_;rintro e w3 ⟨rfl,n3,hw3⟩;have HR3 : Hid (Rd (w.alloc setObj) w3 g s q) := qhid (by rw [hw3];exact HR2.out.drewN n3);clear hw3;obtain ⟨y0,y1,yz,yl⟩ := HR3.out.1
    go_wp2_with fail
    go_quiet (fail)
    have HR4 : Hid (Rd (w.alloc setObj) (w3.drewN nq) g s q) := qhid (HR3.out.drewN nq);clear y0 y1 yz yl;generalize w3.drewN nq = w4 at *
    go_wp2_with fail
    refine (IX.out _).mono ?_;rintro e w5 ⟨rfl,hw5⟩;obtain rfl : w4 = w5 := hw5.symm
    go_wp2_with fail
    refine (SK.out _ HR4.out.1).mono ?_;rintro e w6 ⟨rfl,hr6⟩;have HR6 := qhid (HR4.out.trans hr6);clear hr6
    go_wp2_with fail
    refine (PR'.out _ HR6.out.1).mono ?_;rintro e w7 ⟨rfl,hr7⟩;have HR7 := qhid (HR6.out.trans hr7);clear hr7;unfold setAns;obtain ⟨⟨q0,q1,q2,q3⟩,⟨f0,f1,f2,f3⟩,_hsz⟩ := set_cells (kept_first HH.out HR7.out);have HRw : Hid (Rd w w7 g s j) := qhid ⟨HR7.out.1,only_first HR7.out.2⟩
    go_wp2_with fail
    refine bodyPost_ret (v := setAns t c) (by simp [results,Tryz.results243,go_sem,setAns,q0,q1,q2,q3]) rfl (finS HF.out ?_);exact HRw.out.set (jN _) hlt t
   ·have SK := qhid (fun W (hW : RdAt W g s q) => skip_no g s q 120 (by omega) W hW hx);have ME := qhid (fun W => meaning_any (bAt s q) hbl W);have HF0 : Hid (escR s k = if (meanR (bAt s q)).2 then ((meanR (bAt s q)).1,0,q + 1) else (noW,4,q)) := qhid (by rw [HESC.out,if_neg hend,hr,if_neg (by decide),if_neg hx]);rw [<- hb] at ME HF0;generalize meanR (s[q]'hin).toNat = r at *;clear hx hr hb hbl;obtain ⟨t,y⟩ := r;unfold meanAns at ME
    cases y
    ·have HF : Hid (escR s k = (noW,4,q)) := qhid HF0.out
     go_enter Tryz.func243,Tryz.ntmps243
     go_wp2_with fail
     refine ST.out.mono ?_;rintro e w2 ⟨rfl,hw2⟩;have HR2 : Hid (Rd (w.alloc setObj) w2 g s q) := qhid ((Rd.refl HA.out).put (by rw [hw2,HQ.out];rfl));clear hw2 r0 r1 rz rl
     go_wp2_with fail
     refine (HE.out _ HR2.out.1).mono ?_;rintro e w3 ⟨rfl,n3,hw3⟩;have HR3 : Hid (Rd (w.alloc setObj) w3 g s q) := qhid (by rw [hw3];exact HR2.out.drewN n3);clear hw3;obtain ⟨y0,y1,yz,yl⟩ := HR3.out.1
     go_wp2_with fail
     go_quiet (fail)
     have HR4 : Hid (Rd (w.alloc setObj) (w3.drewN nq) g s q) := qhid (HR3.out.drewN nq);clear y0 y1 yz yl;generalize w3.drewN nq = w4 at *
     go_wp2_with fail
     refine (IX.out _).mono ?_;rintro e w5 ⟨rfl,hw5⟩;obtain rfl : w4 = w5 := hw5.symm
     go_wp2_with fail
     refine (SK.out _ HR4.out.1).mono ?_;rintro e w6 ⟨rfl,n6,hw6⟩;have HR6 : Hid (Rd (w.alloc setObj) w6 g s q) := qhid (by rw [hw6];exact HR4.out.drewN n6);clear hw6
     go_wp2_with fail
     refine (ME.out _).mono ?_;rintro e w7 ⟨rfl,hb7⟩;have HR7 := qhid (HR6.out.below hb7);clear hb7;obtain ⟨⟨q0,q1,q2,q3⟩,⟨f0,f1,f2,f3⟩,hsz⟩ := set_cells (kept_first HH.out HR7.out);have HRw : Hid (Rd w w7 g s q) := qhid ⟨HR7.out.1,only_first HR7.out.2⟩
     go_wp2_with fail
     refine bodyPost_ret (v := setAns noW 4) (by simp [results,Tryz.results243,go_sem,setAns,noW,hsz,q0,q1,q2,q3]) rfl (finS HF.out ?_);exact (HRw.out.set (jN _) hlt noW).below (below1 _ _)
    ·have HF : Hid (escR s k = (t,0,q + 1)) := qhid HF0.out
     go_enter Tryz.func243,Tryz.ntmps243
     go_wp2_with fail
     refine ST.out.mono ?_;rintro e w2 ⟨rfl,hw2⟩;have HR2 : Hid (Rd (w.alloc setObj) w2 g s q) := qhid ((Rd.refl HA.out).put (by rw [hw2,HQ.out];rfl));clear hw2 r0 r1 rz rl
     go_wp2_with fail
     refine (HE.out _ HR2.out.1).mono ?_;rintro e w3 ⟨rfl,n3,hw3⟩;have HR3 : Hid (Rd (w.alloc setObj) w3 g s q) := qhid (by rw [hw3];exact HR2.out.drewN n3);clear hw3;obtain ⟨y0,y1,yz,yl⟩ := HR3.out.1
     go_wp2_with fail
     go_quiet (fail)
     have HR4 : Hid (Rd (w.alloc setObj) (w3.drewN nq) g s q) := qhid (HR3.out.drewN nq);clear y0 y1 yz yl;generalize w3.drewN nq = w4 at *
     go_wp2_with fail
     refine (IX.out _).mono ?_;rintro e w5 ⟨rfl,hw5⟩;obtain rfl : w4 = w5 := hw5.symm
     go_wp2_with fail
     refine (SK.out _ HR4.out.1).mono ?_;rintro e w6 ⟨rfl,n6,hw6⟩;have HR6 : Hid (Rd (w.alloc setObj) w6 g s q) := qhid (by rw [hw6];exact HR4.out.drewN n6);clear hw6
     go_wp2_with fail
     refine (ME.out _).mono ?_;rintro e w7 ⟨rfl,hb7⟩;have HR7 := qhid (HR6.out.below hb7);clear hb7;have ST2 := qhid (tstep_any g 1 1 s q (by omega) (w7.alloc (.cells #[.int .u64 t.a,.int .u64 t.b,.int .u64 t.c,.int .u64 t.d] 29)) (rd_alloc HR7.out.1 _) rfl)
     go_wp2_with fail
     refine ST2.out.mono ?_;rintro e w8 ⟨rfl,hw8⟩;have HR8 : Hid (Rd (w.alloc setObj) w8 g s (q + 1)) := qhid ((HR7.out.below (below1 w7 (.cells #[.int .u64 t.a,.int .u64 t.b,.int .u64 t.c,.int .u64 t.d] 29))).put (by rw [hw8];rfl));have h6 : w8.heap[w7.heap.size]? = some (.cells #[.int .u64 t.a,.int .u64 t.b,.int .u64 t.c,.int .u64 t.d] 29) := kept_first HR7.out.1 ((Rd.refl (rd_alloc HR7.out.1 _)).put (j := q + 1) (by rw [hw8];rfl));obtain ⟨⟨z0,z1,z2,z3⟩,hz⟩ := set_of_block h6;clear hw8 h6;obtain ⟨⟨q0,q1,q2,q3⟩,⟨f0,f1,f2,f3⟩,_hsz⟩ := set_cells (kept_first HH.out HR8.out);have HRw : Hid (Rd w w8 g s (q + 1)) := qhid ⟨HR8.out.1,only_first HR8.out.2⟩
     go_wp2_with fail
     refine bodyPost_ret (v := setAns t 0) (by simp [results,Tryz.results243,go_sem,setAns,q0,q1,q2,q3]) rfl (finS HF.out ?_);exact HRw.out.set (jN _) hlt t
  ·rw [hr] at hri;have HF : Hid (escR s k = (noW,6,k)) := qhid (by rw [HESC.out,if_neg hend,hr,if_pos rfl]);clear hr hb hbl
   go_enter Tryz.func243,Tryz.ntmps243
   go_wp2_with fail
   refine ST.out.mono ?_;rintro e w2 ⟨rfl,hw2⟩;have HR2 : Hid (Rd (w.alloc setObj) w2 g s q) := qhid ((Rd.refl HA.out).put (by rw [hw2,HQ.out];rfl));clear hw2 r0 r1 rz rl
   go_wp2_with fail
   refine (HE.out _ HR2.out.1).mono ?_;rintro e w3 ⟨rfl,n3,hw3⟩;have HR3 : Hid (Rd (w.alloc setObj) w3 g s q) := qhid (by rw [hw3];exact HR2.out.drewN n3);clear hw3;obtain ⟨y0,y1,yz,yl⟩ := HR3.out.1
   go_wp2_with fail
   go_quiet (fail)
   have HR4 : Hid (Rd (w.alloc setObj) (w3.drewN nq) g s q) := qhid (HR3.out.drewN nq);clear y0 y1 yz yl;generalize w3.drewN nq = w4 at *
   go_wp2_with fail
   refine (IX.out _).mono ?_;rintro e w5 ⟨rfl,hw5⟩;obtain rfl : w4 = w5 := hw5.symm;have TB := qhid (tback_any g k 6 s q w4 HR4.out.1)
   go_wp2_with fail
   refine TB.out.mono ?_;rintro e w6 ⟨rfl,hw6⟩;have HR6 : Hid (Rd (w.alloc setObj) w6 g s k) := qhid (HR4.out.put hw6);clear hw6;obtain ⟨⟨q0,q1,q2,q3⟩,⟨f0,f1,f2,f3⟩,_hsz⟩ := set_cells (kept_first HH.out HR6.out);have HRw : Hid (Rd w w6 g s k) := qhid ⟨HR6.out.1,only_first HR6.out.2⟩
   go_wp2_with fail
   refine bodyPost_ret (v := setAns noW 6) (by simp [results,Tryz.results243,go_sem,setAns,noW,q0,q1,q2,q3]) rfl (finS HF.out ?_);exact HRw.out.set (jN _) hlt noW
open Go Go.RowKit
attribute [local go_sem ↓] Go.wp_at_zero Go.wp_at_succ
attribute [local go_sem] eq4
def partR (s : ByteArray) (k : Nat) : W4 × Int × Nat :=
 if s.size <= k then (noW,4,k) else if bAt s k = 92 then escR s k else if bAt s k = 91 \/ bAt s k = 93 \/ bAt s k = 94 \/ bAt s k = 45 then (noW,4,k) else (oneW (bAt s k),0,k + 1)
theorem tpart_any (g k : Nat) (s : ByteArray) (hs : s.size <= 1099511627776) (w : World) (h : RdAt w g s k) :
  Calls Tryz.prog 265 #[.pointer (some ⟨g,0,none⟩)] w fun e w' => e = .returned (setAns (partR s k).1 (partR s k).2.1) /\ Rd w w' g s (partR s k).2.2 := by
 have HH := qhid h;have hlt := h.lt;have HA := qhid (rd_alloc h setObj);have HE := qhid (tended_any g s k _ HA.out);unfold setObj at HE;clear h
 by_cases hend : s.size <= k
 ·have HF : Hid (partR s k = (noW,4,k)) := qhid (by unfold partR;rw [if_pos hend]);rw [jT hend] at HE
  go_enter Tryz.func265,Tryz.ntmps265
  go_wp2_with fail
  refine HE.out.mono ?_;rintro e w3 ⟨rfl,n3,hw3⟩;have HR3 : Hid (Rd (w.alloc setObj) w3 g s k) := qhid (by rw [hw3];exact (Rd.refl HA.out).drewN n3);clear hw3;obtain ⟨⟨q0,q1,q2,q3⟩,⟨f0,f1,f2,f3⟩,_hsz⟩ := set_cells (kept_first HH.out HR3.out);have HRw : Hid (Rd w w3 g s k) := qhid ⟨HR3.out.1,only_first HR3.out.2⟩
  go_wp2_with fail
  refine bodyPost_ret (v := setAns noW 4) (by simp [results,Tryz.results265,go_sem,setAns,noW,q0,q1,q2,q3]) rfl (finS HF.out ?_);exact HRw.out.set (jN _) hlt noW
 ·rw [jF hend] at HE;have hin : k < s.size := by omega
  have hb : ((s[k]'hin).toNat) = bAt s k := (bAt_in hin).symm
  by_cases h92 : bAt s k = 92
  ·have HF0 : Hid (partR s k = escR s k) := qhid (by unfold partR;rw [if_neg hend,if_pos h92]);have ES := qhid (fun W (hW : RdAt W g s k) => tescape_any g k s hin hs W hW);have g1 : (((s[k]'hin).toNat : Int) == 92) = true := by rw [hb,h92];rfl
   obtain ⟨r,hrr⟩ : ∃ r,r = escR s k := ⟨_,rfl⟩;rw [<- hrr] at ES HF0;clear hrr h92 hb;obtain ⟨t,c,j⟩ := r;have HF : Hid (partR s k = (t,c,j)) := HF0;have ES' : Hid (∀ W,RdAt W g s k -> Calls Tryz.prog 243 #[.pointer (some ⟨g,0,none⟩)] W fun e w' => e = .returned (setAns t c) /\ Rd W w' g s j) := ES;clear ES HF0
   go_enter Tryz.func265,Tryz.ntmps265
   go_wp2_with fail
   refine HE.out.mono ?_;rintro e w3 ⟨rfl,n3,hw3⟩;have HR3 : Hid (Rd (w.alloc setObj) w3 g s k) := qhid (by rw [hw3];exact (Rd.refl HA.out).drewN n3);clear hw3;obtain ⟨y0,y1,yz,yl⟩ := HR3.out.1
   go_wp2_with fail
   go_quiet (fail)
   have HR4 : Hid (Rd (w.alloc setObj) (w3.drewN nq) g s k) := qhid (HR3.out.drewN nq);clear y0 y1 yz yl;generalize w3.drewN nq = w4 at *
   go_wp2_with fail
   refine (ES'.out _ HR4.out.1).mono ?_;rintro e w5 ⟨rfl,hr5⟩;have HR5 := qhid (HR4.out.trans hr5);clear hr5;unfold setAns;obtain ⟨⟨q0,q1,q2,q3⟩,⟨f0,f1,f2,f3⟩,_hsz⟩ := set_cells (kept_first HH.out HR5.out);have HRw : Hid (Rd w w5 g s j) := qhid ⟨HR5.out.1,only_first HR5.out.2⟩
   go_wp2_with fail
   refine bodyPost_ret (v := setAns t c) (by simp [results,Tryz.results265,go_sem,setAns,q0,q1,q2,q3]) rfl (finS HF.out ?_);exact HRw.out.set (jN _) hlt t
  ·by_cases hsp : bAt s k = 91 \/ bAt s k = 93 \/ bAt s k = 94 \/ bAt s k = 45
   ·have HF : Hid (partR s k = (noW,4,k)) := qhid (by unfold partR;rw [if_neg hend,if_neg h92,if_pos hsp])
    rcases hsp with hx | hx | hx | hx
    ·have g92 : (((s[k]'hin).toNat : Int) == 92) = false := by rw [hb];simp;omega
     have g91 : (((s[k]'hin).toNat : Int) == 91) = true := by rw [hb,hx];rfl
     clear hx h92 hb
     go_enter Tryz.func265,Tryz.ntmps265
     go_wp2_with fail
     refine HE.out.mono ?_;rintro e w3 ⟨rfl,n3,hw3⟩;have HR3 : Hid (Rd (w.alloc setObj) w3 g s k) := qhid (by rw [hw3];exact (Rd.refl HA.out).drewN n3);clear hw3;obtain ⟨y0,y1,yz,yl⟩ := HR3.out.1
     go_wp2_with fail
     go_quiet (fail)
     have HR4 : Hid (Rd (w.alloc setObj) (w3.drewN nq) g s k) := qhid (HR3.out.drewN nq);clear y0 y1 yz yl;generalize w3.drewN nq = w4 at *;obtain ⟨⟨q0,q1,q2,q3⟩,⟨f0,f1,f2,f3⟩,_hsz⟩ := set_cells (kept_first HH.out HR4.out);have HRw : Hid (Rd w w4 g s k) := qhid ⟨HR4.out.1,only_first HR4.out.2⟩
     go_wp2_with fail
     refine bodyPost_ret (v := setAns noW 4) (by simp [results,Tryz.results265,go_sem,setAns,noW,q0,q1,q2,q3]) rfl (finS HF.out ?_);exact HRw.out.set (jN _) hlt noW
    ·have g92 : (((s[k]'hin).toNat : Int) == 92) = false := by rw [hb];simp;omega
     have g91 : (((s[k]'hin).toNat : Int) == 91) = false := by rw [hb];simp;omega
     have g93 : (((s[k]'hin).toNat : Int) == 93) = true := by rw [hb,hx];rfl
     clear hx h92 hb
     go_enter Tryz.func265,Tryz.ntmps265
     go_wp2_with fail
     refine HE.out.mono ?_;rintro e w3 ⟨rfl,n3,hw3⟩;have HR3 : Hid (Rd (w.alloc setObj) w3 g s k) := qhid (by rw [hw3];exact (Rd.refl HA.out).drewN n3);clear hw3;obtain ⟨y0,y1,yz,yl⟩ := HR3.out.1
     go_wp2_with fail
     go_quiet (fail)
     have HR4 : Hid (Rd (w.alloc setObj) (w3.drewN nq) g s k) := qhid (HR3.out.drewN nq);clear y0 y1 yz yl;generalize w3.drewN nq = w4 at *;obtain ⟨⟨q0,q1,q2,q3⟩,⟨f0,f1,f2,f3⟩,_hsz⟩ := set_cells (kept_first HH.out HR4.out);have HRw : Hid (Rd w w4 g s k) := qhid ⟨HR4.out.1,only_first HR4.out.2⟩
     go_wp2_with fail
     refine bodyPost_ret (v := setAns noW 4) (by simp [results,Tryz.results265,go_sem,setAns,noW,q0,q1,q2,q3]) rfl (finS HF.out ?_);exact HRw.out.set (jN _) hlt noW
    ·have g92 : (((s[k]'hin).toNat : Int) == 92) = false := by rw [hb];simp;omega
     have g91 : (((s[k]'hin).toNat : Int) == 91) = false := by rw [hb];simp;omega
     have g93 : (((s[k]'hin).toNat : Int) == 93) = false := by rw [hb];simp;omega
     have g94 : (((s[k]'hin).toNat : Int) == 94) = true := by rw [hb,hx];rfl
     clear hx h92 hb
     go_enter Tryz.func265,Tryz.ntmps265
     go_wp2_with fail
     refine HE.out.mono ?_;rintro e w3 ⟨rfl,n3,hw3⟩;have HR3 : Hid (Rd (w.alloc setObj) w3 g s k) := qhid (by rw [hw3];exact (Rd.refl HA.out).drewN n3);clear hw3;obtain ⟨y0,y1,yz,yl⟩ := HR3.out.1
     go_wp2_with fail
     go_quiet (fail)
     have HR4 : Hid (Rd (w.alloc setObj) (w3.drewN nq) g s k) := qhid (HR3.out.drewN nq);clear y0 y1 yz yl;generalize w3.drewN nq = w4 at *;obtain ⟨⟨q0,q1,q2,q3⟩,⟨f0,f1,f2,f3⟩,_hsz⟩ := set_cells (kept_first HH.out HR4.out);have HRw : Hid (Rd w w4 g s k) := qhid ⟨HR4.out.1,only_first HR4.out.2⟩
     go_wp2_with fail
     refine bodyPost_ret (v := setAns noW 4) (by simp [results,Tryz.results265,go_sem,setAns,noW,q0,q1,q2,q3]) rfl (finS HF.out ?_);exact HRw.out.set (jN _) hlt noW
    ·have g92 : (((s[k]'hin).toNat : Int) == 92) = false := by rw [hb];simp;omega
     have g91 : (((s[k]'hin).toNat : Int) == 91) = false := by rw [hb];simp;omega
     have g93 : (((s[k]'hin).toNat : Int) == 93) = false := by rw [hb];simp;omega
     have g94 : (((s[k]'hin).toNat : Int) == 94) = false := by rw [hb];simp;omega
     have g45 : (((s[k]'hin).toNat : Int) == 45) = true := by rw [hb,hx];rfl
     clear hx h92 hb
     go_enter Tryz.func265,Tryz.ntmps265
     go_wp2_with fail
     refine HE.out.mono ?_;rintro e w3 ⟨rfl,n3,hw3⟩;have HR3 : Hid (Rd (w.alloc setObj) w3 g s k) := qhid (by rw [hw3];exact (Rd.refl HA.out).drewN n3);clear hw3;obtain ⟨y0,y1,yz,yl⟩ := HR3.out.1
     go_wp2_with fail
     go_quiet (fail)
     have HR4 : Hid (Rd (w.alloc setObj) (w3.drewN nq) g s k) := qhid (HR3.out.drewN nq);clear y0 y1 yz yl;generalize w3.drewN nq = w4 at *;obtain ⟨⟨q0,q1,q2,q3⟩,⟨f0,f1,f2,f3⟩,_hsz⟩ := set_cells (kept_first HH.out HR4.out);have HRw : Hid (Rd w w4 g s k) := qhid ⟨HR4.out.1,only_first HR4.out.2⟩
     go_wp2_with fail
     refine bodyPost_ret (v := setAns noW 4) (by simp [results,Tryz.results265,go_sem,setAns,noW,q0,q1,q2,q3]) rfl (finS HF.out ?_);exact HRw.out.set (jN _) hlt noW
   ·have HF : Hid (partR s k = (oneW (bAt s k),0,k + 1)) := qhid (by unfold partR;rw [if_neg hend,if_neg h92,if_neg hsp]);have IT := qhid (fun W (hW : RdAt W g s k) => titself_any g k s hin hs W hW);have g92 : (((s[k]'hin).toNat : Int) == 92) = false := by rw [hb];simp;omega
    have g91 : (((s[k]'hin).toNat : Int) == 91) = false := by rw [hb];simp;omega
    have g93 : (((s[k]'hin).toNat : Int) == 93) = false := by rw [hb];simp;omega
    have g94 : (((s[k]'hin).toNat : Int) == 94) = false := by rw [hb];simp;omega
    have g45 : (((s[k]'hin).toNat : Int) == 45) = false := by rw [hb];simp;omega
    generalize oneW (bAt s k) = t at *;clear hsp h92 hb
    go_enter Tryz.func265,Tryz.ntmps265
    go_wp2_with fail
    refine HE.out.mono ?_;rintro e w3 ⟨rfl,n3,hw3⟩;have HR3 : Hid (Rd (w.alloc setObj) w3 g s k) := qhid (by rw [hw3];exact (Rd.refl HA.out).drewN n3);clear hw3;obtain ⟨y0,y1,yz,yl⟩ := HR3.out.1
    go_wp2_with fail
    go_quiet (fail)
    have HR4 : Hid (Rd (w.alloc setObj) (w3.drewN nq) g s k) := qhid (HR3.out.drewN nq);clear y0 y1 yz yl;generalize w3.drewN nq = w4 at *
    go_wp2_with fail
    refine (IT.out _ HR4.out.1).mono ?_;rintro e w5 ⟨rfl,hr5⟩;have HR5 := qhid (HR4.out.trans hr5);clear hr5;unfold setAns;obtain ⟨⟨q0,q1,q2,q3⟩,⟨f0,f1,f2,f3⟩,_hsz⟩ := set_cells (kept_first HH.out HR5.out);have HRw : Hid (Rd w w5 g s (k + 1)) := qhid ⟨HR5.out.1,only_first HR5.out.2⟩
    go_wp2_with fail
    refine bodyPost_ret (v := setAns t 0) (by simp [results,Tryz.results265,go_sem,setAns,q0,q1,q2,q3]) rfl (finS HF.out ?_);exact HRw.out.set (jN _) hlt t
end
end
section
section
open Go Go.RowKit
def ones (t : W4) : List Nat := (List.range 256).filter t.mem
def onlyW (t : W4) : Option Nat := match ones t with
 | [n] => some n
 | _ => none
theorem ones_len (t : W4) : (lst (memb t.a t.b t.c t.d) 256).length = (ones t).length := by
 unfold lst ones;rw [List.length_map];rfl
theorem onlyW_some {t : W4} {n : Nat} (h : onlyW t = some n) : ones t = [n] := by
 unfold onlyW at h
 split at h
 ·next m hm => rw [hm];injection h with h;rw [h]
 ·cases h
theorem onlyW_iff {t : W4} {n : Nat} : onlyW t = some n ↔ ones t = [n] := by
 constructor
 ·exact onlyW_some
 ·intro h;unfold onlyW;rw [h]
theorem only_mem {t : W4} {n : Nat} (h : onlyW t = some n) : n < 256 /\ t.mem n = true /\ ∀ m,m < 256 -> t.mem m = true -> m = n := by
 have h1 := onlyW_some h;have hn : n ∈ ones t := by rw [h1];simp
 unfold ones at hn;rw [List.mem_filter,List.mem_range] at hn;refine ⟨hn.1,hn.2,fun m hm hmem => ?_⟩;have : m ∈ ones t := by unfold ones;rw [List.mem_filter,List.mem_range];exact ⟨hm,hmem⟩
 rw [h1] at this;simpa using this
theorem only_none {t : W4} (h : onlyW t = none) : (ones t).length ≠ 1 := by
 intro h1;obtain ⟨n,hn⟩ := List.length_eq_one_iff.1 h1;rw [onlyW_iff.2 hn] at h
 cases h
theorem rngW_none {a b : Nat} (hb : b < 256) (h : b < a) : rngW a b = noW := by
 have hf : (rngW a b).fit := ⟨an_fit _ _,an_fit _ _,an_fit _ _,an_fit _ _⟩;refine W4.ext' hf noW_fit fun n hn => ?_
 rw [noW_mem]
 show memb (rgw a b 0) (rgw a b 1) (rgw a b 2) (rgw a b 3) n = false
 rw [memb_rgw a b n hb hn];exact jF (by omega)
theorem rngW_some {a b : Nat} (hb : b < 256) (h : a <= b) : rngW a b ≠ noW := by
 intro e
 have h1 : (rngW a b).mem a = true := by
  show memb (rgw a b 0) (rgw a b 1) (rgw a b 2) (rgw a b 3) a = true
  rw [memb_rgw a b a hb (by omega)];exact jT (by omega)
 rw [e,noW_mem] at h1
 cases h1
def toR (s : ByteArray) (k a j : Nat) : W4 × Int × Nat :=
 if (partR s j).2.1 ≠ 0 then (noW,(partR s j).2.1,(partR s j).2.2) else match onlyW (partR s j).1 with
 | none => (noW,4,j)
 | some b => if b < a then (noW,5,k) else (rngW a b,0,(partR s j).2.2)
def itemR (s : ByteArray) (k : Nat) : W4 × Int × Nat :=
 if (partR s k).2.1 ≠ 0 \/ bAt s (partR s k).2.2 ≠ 45 then partR s k else match onlyW (partR s k).1 with
 | none => (noW,4,(partR s k).2.2)
 | some a => toR s k a ((partR s k).2.2 + 1)
def clsR (s : ByteArray) : Nat -> W4 -> Int -> Nat -> W4 × Int × Nat
 | 0,_,_,i => (noW,4,i)
 | n + 1,t,e,i => if e ≠ 0 then (noW,e,i) else if bAt s i = 93 then (t,0,i + 1) else clsR s n (uni2 t (itemR s i).1) (itemR s i).2.1 (itemR s i).2.2
def clsFrom (s : ByteArray) (i : Nat) : W4 × Int × Nat := clsR s (s.size + 2) (itemR s i).1 (itemR s i).2.1 (itemR s i).2.2
def classR (s : ByteArray) (k : Nat) : W4 × Int × Nat :=
 if bAt s (k + 1) = 94 then (if (clsFrom s (k + 2)).2.1 ≠ 0 then (noW,(clsFrom s (k + 2)).2.1,(clsFrom s (k + 2)).2.2) else (notW (clsFrom s (k + 2)).1,0,(clsFrom s (k + 2)).2.2))
 else clsFrom s (k + 1)
def setR (s : ByteArray) (k : Nat) : W4 × Int × Nat :=
 if bAt s k = 91 then classR s k else if bAt s k = 92 then escR s k else if bAt s k = 46 then (notW (oneW 10),0,k + 1)
 else if bAt s k = 94 \/ bAt s k = 36 then (noW,6,k) else if bAt s k = 93 \/ bAt s k = 125 then (noW,4,k) else (oneW (bAt s k),0,k + 1)
def tokenR (s : ByteArray) (k : Nat) : TokM × Int × Nat :=
 if bAt s k = 124 then (⟨4,noW,0,0,false⟩,0,k + 1) else if bAt s k = 40 then openR s k else if bAt s k = 41 then (⟨3,noW,0,0,false⟩,0,k + 1)
 else if bAt s k = 42 \/ bAt s k = 43 \/ bAt s k = 63 then signR s k else if bAt s k = 123 then bracesR s k
 else (⟨0,(setR s k).1,0,0,false⟩,(setR s k).2.1,(setR s k).2.2)
def scanR (s : ByteArray) : Nat -> Nat -> List (TokM × Nat × Nat) × Int × Nat
 | 0,k => ([],4,k)
 | n + 1,k => if s.size <= k then ([],0,k) else if (tokenR s k).2.1 ≠ 0 then ([],(tokenR s k).2.1,(tokenR s k).2.2)
  else if (scanR s n (tokenR s k).2.2).2.1 ≠ 0 then ([],(scanR s n (tokenR s k).2.2).2.1,(scanR s n (tokenR s k).2.2).2.2)
  else (((tokenR s k).1,k,(tokenR s k).2.2) :: (scanR s n (tokenR s k).2.2).1,0,(scanR s n (tokenR s k).2.2).2.2)
def scanAll (s : ByteArray) : List (TokM × Nat × Nat) × Int × Nat := scanR s (s.size + 1) 0
theorem oneW_fit (b : Nat) : (oneW b).fit := ⟨ofw_fit _ _ _,ofw_fit _ _ _,ofw_fit _ _ _,ofw_fit _ _ _⟩
theorem notW_fit (t : W4) : (notW t).fit := ⟨nt_fit _,nt_fit _,nt_fit _,nt_fit _⟩
theorem rngW_fit (a b : Nat) : (rngW a b).fit := ⟨an_fit _ _,an_fit _ _,an_fit _ _,an_fit _ _⟩
theorem uni2_fit (s t : W4) : (uni2 s t).fit := ⟨orr_fit _ _,orr_fit _ _,orr_fit _ _,orr_fit _ _⟩
theorem uni3_fit (s t u : W4) : (uni3 s t u).fit := ⟨orr_fit _ _,orr_fit _ _,orr_fit _ _,orr_fit _ _⟩
structure SetOK (s : ByteArray) (k : Nat) (r : W4 × Int × Nat) : Prop where
 fit : r.1.fit
 err : r.2.1 = 0 \/ r.2.1 = 4 \/ r.2.1 = 5 \/ r.2.1 = 6
 le : r.2.2 <= s.size
 on : r.2.1 = 0 -> k < r.2.2
 no : r.2.1 ≠ 0 -> r.1 = noW
theorem SetOK.bad {s : ByteArray} {k j : Nat} {e : Int} (he : e = 4 \/ e = 5 \/ e = 6) (hj : j <= s.size) : SetOK s k (noW,e,j) :=
 ⟨noW_fit,.inr he,hj,fun h => by have h' : e = 0 := h;rcases he with rfl | rfl | rfl <;> exact absurd h' (by decide),fun _ => rfl⟩
theorem SetOK.good {s : ByteArray} {k j : Nat} {t : W4} (ht : t.fit) (hj : j <= s.size) (hk : k < j) : SetOK s k (t,0,j) := ⟨ht,.inl rfl,hj,fun _ => hk,fun h => absurd rfl h⟩
theorem SetOK.up {s : ByteArray} {k j : Nat} {r : W4 × Int × Nat} (h : SetOK s j r) (hk : k <= j) : SetOK s k r := ⟨h.fit,h.err,h.le,fun e => Nat.lt_of_le_of_lt hk (h.on e),h.no⟩
theorem hex_in {s : ByteArray} {j : Nat} (h : (hexR (bAt s j)).2 = true) : j < s.size := by
 by_cases hj : j < s.size
 ·exact hj
 ·rw [bAt_end (by omega)] at h;exact absurd h (by decide)
theorem pairR_set {s : ByteArray} {k j : Nat} (hk : k < j) (hj : j <= s.size) : SetOK s k (pairR s j) := by
 unfold pairR
 split
 ·exact .bad (.inl rfl) hj
 ·next h0 =>
  have h0' := hex_in (by simpa using h0)
  split
  ·exact .bad (.inl rfl) h0'
  ·next h1 =>
   have h1' := hex_in (by simpa using h1);exact .good (oneW_fit _) h1' (by omega)
theorem digW_fit : digW.fit := ⟨an_fit _ _,an_fit _ _,an_fit _ _,an_fit _ _⟩
theorem meanR_fit (b : Nat) : (meanR b).1.fit := by
 unfold meanR
 split
 ·exact oneW_fit _
 ·split
  ·exact oneW_fit _
  ·split
   ·exact oneW_fit _
   ·split
    ·exact oneW_fit _
    ·split
     ·exact oneW_fit _
     ·split
      ·exact oneW_fit _
      ·split
       ·exact digW_fit
       ·split
        ·exact uni3_fit _ _ _
        ·split
         ·exact uni2_fit _ _
         ·split
          ·exact notW_fit _
          ·split
           ·exact notW_fit _
           ·split
            ·exact notW_fit _
            ·exact noW_fit
theorem escR_set {s : ByteArray} {k : Nat} (hk : k < s.size) : SetOK s k (escR s k) := by
 unfold escR
 split
 ·exact .bad (.inl rfl) hk
 ·split
  ·exact .bad (.inr (.inr rfl)) (by omega)
  ·split
   ·exact pairR_set (by omega) (by omega)
   ·split
    ·exact .good (meanR_fit _) (by omega) (by omega)
    ·exact .bad (.inl rfl) hk
theorem partR_set {s : ByteArray} {k : Nat} (hk : k <= s.size) : SetOK s k (partR s k) := by
 unfold partR
 split
 ·exact .bad (.inl rfl) hk
 ·split
  ·exact escR_set (by omega)
  ·split
   ·exact .bad (.inl rfl) hk
   ·exact .good (oneW_fit _) (by omega) (by omega)
theorem toR_set {s : ByteArray} {k a j : Nat} (hk : k < j) (hj : j <= s.size) : SetOK s k (toR s k a j) := by
 have hp := partR_set hj;unfold toR
 split
 ·next h => exact .bad (hp.err.resolve_left h) hp.le
 ·next h =>
  have he : (partR s j).2.1 = 0 := by simpa using h
  have := hp.on he
  split
  ·exact .bad (.inl rfl) hj
  ·split
   ·exact .bad (.inr (.inl rfl)) (by omega)
   ·exact .good (rngW_fit _ _) hp.le (by omega)
theorem itemR_set {s : ByteArray} {k : Nat} (hk : k <= s.size) : SetOK s k (itemR s k) := by
 have hp := partR_set hk;unfold itemR
 split
 ·exact hp
 ·next h =>
  have he : (partR s k).2.1 = 0 := by
   by_cases h0 : (partR s k).2.1 = 0
   ·exact h0
   ·exact absurd (.inl h0) h
  have hb : bAt s (partR s k).2.2 = 45 := by
   by_cases h0 : bAt s (partR s k).2.2 = 45
   ·exact h0
   ·exact absurd (.inr h0) h
  have hi := in_of_bAt hb (by omega);have := hp.on he
  split
  ·exact .bad (.inl rfl) hp.le
  ·exact toR_set (by omega) hi
theorem clsR_set {s : ByteArray} : ∀ (n : Nat) (t : W4) (e : Int) (k i : Nat),t.fit -> (e = 0 \/ e = 4 \/ e = 5 \/ e = 6) -> i <= s.size -> k < i + 1 -> SetOK s k (clsR s n t e i) := by
 intro n
 induction n with
 | zero => intro t e k i _ _ hi _;exact .bad (.inl rfl) hi
 | succ n ih =>
  intro t e k i ht he hi hk;unfold clsR
  split
  ·next h => exact .bad (he.resolve_left h) hi
  ·split
   ·next h93 => exact .good ht (in_of_bAt h93 (by omega)) hk
   ·have hit := itemR_set hi
    rcases hit.err with h | h
    ·exact ih _ _ _ _ (uni2_fit _ _) hit.err hit.le (by have := hit.on h;omega)
    ·have : clsR s n (uni2 t (itemR s i).1) (itemR s i).2.1 (itemR s i).2.2 = (noW,(itemR s i).2.1,(itemR s i).2.2) \/ clsR s n (uni2 t (itemR s i).1) (itemR s i).2.1 (itemR s i).2.2 = (noW,4,(itemR s i).2.2) := by
      cases n with
      | zero => exact .inr rfl
      | succ n => refine .inl ?_;rw [clsR,if_pos (by rcases h with h | h | h <;> rw [h] <;> decide)]
     rcases this with e | e <;> rw [e]
     ·exact .bad h hit.le
     ·exact .bad (.inl rfl) hit.le
theorem clsFrom_set {s : ByteArray} {k : Nat} (hk : k <= s.size) : SetOK s k (clsFrom s k) := by
 have hit := itemR_set hk
 rcases hit.err with h | h
 ·exact clsR_set _ _ _ _ _ hit.fit hit.err hit.le (by have := hit.on h;omega)
 ·unfold clsFrom;rw [clsR,if_pos (by rcases h with h | h | h <;> rw [h] <;> decide)];exact .bad h hit.le
theorem classR_set {s : ByteArray} {k : Nat} (hk : k < s.size) : SetOK s k (classR s k) := by
 unfold classR
 split
 ·next h =>
  have hi := in_of_bAt h (by omega);have hc : SetOK s k (clsFrom s (k + 2)) := (clsFrom_set hi).up (by omega)
  split
  ·next h0 => exact .bad (hc.err.resolve_left h0) hc.le
  ·next h0 => exact .good (notW_fit _) hc.le (hc.on (by simpa using h0))
 ·exact (clsFrom_set hk).up (by omega)
theorem setR_set {s : ByteArray} {k : Nat} (hk : k < s.size) : SetOK s k (setR s k) := by
 unfold setR
 split
 ·exact classR_set hk
 ·split
  ·exact escR_set hk
  ·split
   ·exact .good (notW_fit _) hk (by omega)
   ·split
    ·exact .bad (.inr (.inr rfl)) (by omega)
    ·split
     ·exact .bad (.inl rfl) (by omega)
     ·exact .good (oneW_fit _) hk (by omega)
open Go Go.RowKit
structure TkOK (s : ByteArray) (k : Nat) (r : TokM × Int × Nat) : Prop where
 fit : r.1.set.fit
 err : r.2.1 = 0 \/ r.2.1 = 4 \/ r.2.1 = 5 \/ r.2.1 = 6
 le : r.2.2 <= s.size
 on : r.2.1 = 0 -> k < r.2.2
theorem TkOK.bad {s : ByteArray} {k j : Nat} {e : Int} (he : e = 4 \/ e = 5 \/ e = 6) (hj : j <= s.size) : TkOK s k (noTok,e,j) :=
 ⟨noW_fit,.inr he,hj,fun h => by have h' : e = 0 := h;rcases he with rfl | rfl | rfl <;> exact absurd h' (by decide)⟩
theorem TkOK.good {s : ByteArray} {k j : Nat} {t : TokM} (ht : t.set.fit) (hj : j <= s.size) (hk : k < j) : TkOK s k (t,0,j) := ⟨ht,.inl rfl,hj,fun _ => hk⟩
theorem countR_tok {s : ByteArray} {k j : Nat} (lo hi : Int) (hk : k < j) (hj : j <= s.size) : TkOK s k (countR s lo hi j) := by
 unfold countR
 split
 ·next h =>
  have := in_of_bAt h (by omega)
  split
  ·exact .bad (.inr (.inr rfl)) (by omega)
  ·exact .good noW_fit (by omega) (by omega)
 ·split
  ·exact .bad (.inr (.inr rfl)) hj
  ·exact .good noW_fit hj hk
theorem openR_tok {s : ByteArray} {k : Nat} (hk : k < s.size) : TkOK s k (openR s k) := by
 unfold openR
 split
 ·split
  ·next h => exact .good noW_fit (in_of_bAt h (by omega)) (by omega)
  ·exact .bad (.inr (.inr rfl)) (by omega)
 ·exact .good noW_fit hk (by omega)
theorem signR_tok {s : ByteArray} {k : Nat} (hk : k < s.size) : TkOK s k (signR s k) := by
 unfold signR
 split
 ·exact countR_tok _ _ (by omega) hk
 ·split
  ·exact countR_tok _ _ (by omega) hk
  ·exact countR_tok _ _ (by omega) hk
theorem numR_le {s : ByteArray} {a : Nat} (ha : a <= s.size) : a <= (numR s a).2.2 /\ (numR s a).2.2 <= s.size := by
 have h := dall_size ha;unfold numR
 split
 ·exact ⟨jN _,ha⟩
 ·split
  ·exact ⟨jN _,ha⟩
  ·exact ⟨Nat.le_add_right _ _,h⟩
theorem numR_err (s : ByteArray) (a : Nat) : (numR s a).2.1 = 0 \/ (numR s a).2.1 = 4 \/ (numR s a).2.1 = 5 := by
 unfold numR
 split
 ·exact .inr (.inl rfl)
 ·split
  ·exact .inr (.inr rfl)
  ·exact .inl rfl
theorem mostR_le {s : ByteArray} {a : Nat} (lo : Int) (ha : a <= s.size) : a <= (mostR s lo a).2.2 /\ (mostR s lo a).2.2 <= s.size := by
 unfold mostR
 split
 ·exact ⟨jN _,ha⟩
 ·split
  ·exact ⟨jN _,ha⟩
  ·exact numR_le ha
theorem shutR_tok {s : ByteArray} {k j : Nat} (lo hi : Int) (hk : k < j + 1) (hj : j <= s.size) : TkOK s k (shutR s lo hi j) := by
 unfold shutR
 split
 ·next h => exact countR_tok _ _ hk (in_of_bAt h (by omega))
 ·exact .bad (.inl rfl) hj
theorem err45 {c : Int} (h : c = 0 \/ c = 4 \/ c = 5) (h0 : c ≠ 0) : c = 4 \/ c = 5 \/ c = 6 := by rcases h with h | h | h <;> omega
theorem bracesR_tok {s : ByteArray} {k : Nat} (hk : k < s.size) : TkOK s k (bracesR s k) := by
 have h1 := numR_le (s := s) (a := k + 1) hk;unfold bracesR
 split
 ·next h => exact .bad (err45 (numR_err _ _) h) h1.2
 ·split
  ·next h44 =>
   have h2 := mostR_le (s := s) (numR s (k + 1)).1 (a := (numR s (k + 1)).2.2 + 1) (in_of_bAt h44 (by omega))
   split
   ·next h => exact .bad (err45 (mostR_err _ _ _) h) h2.2
   ·exact shutR_tok _ _ (by omega) h2.2
  ·exact shutR_tok _ _ (by omega) h1.2
theorem tokenR_tok {s : ByteArray} {k : Nat} (hk : k < s.size) : TkOK s k (tokenR s k) := by
 unfold tokenR
 split
 ·exact .good noW_fit hk (by omega)
 ·split
  ·exact openR_tok hk
  ·split
   ·exact .good noW_fit hk (by omega)
   ·split
    ·exact signR_tok hk
    ·split
     ·exact bracesR_tok hk
     ·have h := setR_set hk;exact ⟨h.fit,h.err,h.le,h.on⟩
theorem scanR_more {s : ByteArray} : ∀ (n m k : Nat),k <= s.size -> s.size < n + k -> s.size < m + k -> scanR s n k = scanR s m k := by
 intro n
 induction n with
 | zero => intro m k h0 hn hm;omega
 | succ n ih =>
  intro m k h0 hn hm
  cases m with
  | zero => omega
  | succ m =>
   by_cases hk : s.size <= k
   ·rw [scanR,if_pos hk,scanR,if_pos hk]
   ·have ht := tokenR_tok (s := s) (k := k) (by omega)
    by_cases he : (tokenR s k).2.1 ≠ 0
    ·rw [scanR,if_neg hk,if_pos he,scanR,if_neg hk,if_pos he]
    ·have hon := ht.on (by simpa using he);have e := ih m (tokenR s k).2.2 ht.le (by omega) (by omega);rw [scanR,if_neg hk,if_neg he,scanR,if_neg hk,if_neg he,e]
def scanK (s : ByteArray) (k : Nat) : List (TokM × Nat × Nat) × Int × Nat := scanR s (s.size + 1) k
theorem scanK_end {s : ByteArray} {k : Nat} (hk : s.size <= k) : scanK s k = ([],0,k) := by unfold scanK;rw [scanR,if_pos hk]
theorem scanK_bad {s : ByteArray} {k : Nat} (hk : k < s.size) (he : (tokenR s k).2.1 ≠ 0) : scanK s k = ([],(tokenR s k).2.1,(tokenR s k).2.2) := by
 unfold scanK;rw [scanR,if_neg (by omega),if_pos he]
theorem scanK_on {s : ByteArray} {k : Nat} (hk : k < s.size) (he : (tokenR s k).2.1 = 0) : scanK s k =
  if (scanK s (tokenR s k).2.2).2.1 ≠ 0 then ([],(scanK s (tokenR s k).2.2).2.1,(scanK s (tokenR s k).2.2).2.2)
  else (((tokenR s k).1,k,(tokenR s k).2.2) :: (scanK s (tokenR s k).2.2).1,0,(scanK s (tokenR s k).2.2).2.2) := by
 have hon := (tokenR_tok hk).on he;have e : scanR s s.size (tokenR s k).2.2 = scanK s (tokenR s k).2.2 := scanR_more _ _ _ (tokenR_tok hk).le (by omega) (by omega);rw [<- e];unfold scanK;rw [scanR,if_neg (by omega),if_neg (by rw [he];simp)]
def ScanAt (s : ByteArray) (l : List (TokM × Nat × Nat)) (k : Nat) : Prop :=
 scanAll s = if (scanK s k).2.1 ≠ 0 then ([],(scanK s k).2.1,(scanK s k).2.2) else (l ++ (scanK s k).1,0,(scanK s k).2.2)
theorem scanK_sort (s : ByteArray) (k : Nat) (h : (scanK s k).2.1 ≠ 0) : (scanK s k).1 = [] := by
 unfold scanK at h ⊢;rw [scanR] at h ⊢
 split
 ·rfl
 ·split
  ·rfl
  ·split
   ·rfl
   ·next h1 h2 h3 => rw [if_neg h1,if_neg h2,if_neg h3] at h;exact absurd rfl h
theorem ScanAt.start (s : ByteArray) : ScanAt s [] 0 := by
 show scanK s 0 = _
 by_cases h : (scanK s 0).2.1 ≠ 0
 ·rw [if_pos h];have := scanK_sort s 0 h;exact Prod.ext this rfl
 ·rw [if_neg h];exact Prod.ext rfl (Prod.ext (by simpa using h) rfl)
theorem ScanAt.bad {s : ByteArray} {l : List (TokM × Nat × Nat)} {k : Nat} (h : ScanAt s l k) (hk : k < s.size) (he : (tokenR s k).2.1 ≠ 0) : scanAll s = ([],(tokenR s k).2.1,(tokenR s k).2.2) := by
 unfold ScanAt at h;rw [scanK_bad hk he,if_pos he] at h;exact h
theorem ScanAt.done {s : ByteArray} {l : List (TokM × Nat × Nat)} {k : Nat} (h : ScanAt s l k) (hk : s.size <= k) : scanAll s = (l,0,k) := by
 unfold ScanAt at h;rw [scanK_end hk,if_neg (by simp),List.append_nil] at h;exact h
theorem ScanAt.step {s : ByteArray} {l : List (TokM × Nat × Nat)} {k : Nat} (h : ScanAt s l k) (hk : k < s.size) (he : (tokenR s k).2.1 = 0) : ScanAt s (l ++ [((tokenR s k).1,k,(tokenR s k).2.2)]) (tokenR s k).2.2 := by
 unfold ScanAt at h ⊢;rw [h,scanK_on hk he]
 by_cases h1 : (scanK s (tokenR s k).2.2).2.1 ≠ 0
 ·rw [if_pos h1,if_pos h1,if_pos h1]
 ·rw [if_neg h1,if_neg h1,if_neg (by simp),List.append_assoc];rfl
end
end
section
section
open Go Go.RowKit
theorem bits_len (n x : Nat) : Pop.bitsum n x = ((List.range n).filter fun i => x.testBit i).length := by
 induction n generalizing x with
 | zero => simp [Pop.bitsum]
 | succ n ih =>
  rw [List.range_succ_eq_map,List.filter_cons]
  have h : ((List.map Nat.succ (List.range n)).filter fun i => x.testBit i).length = ((List.range n).filter fun i => (x / 2).testBit i).length := by
   rw [List.filter_map,List.length_map];congr 1;apply List.filter_congr;intro i _;simp [Nat.testBit_succ]
  simp only [Pop.bitsum];rw [ih]
  by_cases hb : x % 2 = 1
  ·have : x.testBit 0 = true := by simp [hb]
   rw [if_pos this,List.length_cons,h];omega
  ·have : x.testBit 0 = false := by simp;omega
   rw [if_neg (by simp [this]),h];omega
theorem range_part (f : Nat -> Bool) (q : Nat) : ((List.range (64 * (q + 1))).filter f).length = ((List.range (64 * q)).filter f).length + ((List.range 64).filter fun i => f (64 * q + i)).length := by
 rw [show 64 * (q + 1) = 64 * q + 64 by omega,List.range_add,List.filter_append,List.length_append];congr 1;rw [List.filter_map,List.length_map];rfl
theorem pw_part {a : Int} (fa : Fit a) (f : Nat -> Bool) (q : Nat) (h : ∀ i,i < 64 -> f (64 * q + i) = (V a).getLsbD i) : (((List.range 64).filter fun i => f (64 * q + i)).length : Int) = pw a := by
 unfold pw;rw [bits_len];congr 2;apply List.filter_congr;intro i hi;rw [h i (List.mem_range.1 hi),V_testBit fa]
theorem pw_lst {a b c d : Int} (fa : Fit a) (fb : Fit b) (fc : Fit c) (fd : Fit d) : pw a + pw b + pw c + pw d = ((lst (memb a b c d) 256).length : Int) := by
 unfold lst;rw [List.length_map];have e0 := range_part (memb a b c d) 0;have e1 := range_part (memb a b c d) 1;have e2 := range_part (memb a b c d) 2;have e3 := range_part (memb a b c d) 3;have p0 := pw_part fa (memb a b c d) 0 (fun i hi => by rw [at_word _ _ _ _ 0 i hi];rfl);have p1 := pw_part fb (memb a b c d) 1 (fun i hi => by rw [at_word _ _ _ _ 1 i hi];rfl);have p2 := pw_part fc (memb a b c d) 2 (fun i hi => by rw [at_word _ _ _ _ 2 i hi];rfl);have p3 := pw_part fd (memb a b c d) 3 (fun i hi => by rw [at_word _ _ _ _ 3 i hi];rfl);have z : ((List.range (64 * 0)).filter (memb a b c d)).length = 0 := by simp
 rw [show 64 * (3 + 1) = 256 from rfl] at e3;simp only [Nat.reduceAdd] at e0 e1 e2 e3;omega
open Go Go.RowKit
attribute [local go_sem ↓] Go.wp_at_zero Go.wp_at_succ
attribute [local go_sem] eq4
abbrev setOb (t : W4) : Obj := .cells #[.int .u64 t.a,.int .u64 t.b,.int .u64 t.c,.int .u64 t.d] 29
abbrev setVal (t : W4) : Value := .agg #[.int .u64 t.a,.int .u64 t.b,.int .u64 t.c,.int .u64 t.d]
theorem Rd.kept {w w' : World} {g k b : Nat} {s : ByteArray} {o : Obj} (hr : Rd w w' g s k) (h : w.heap[b]? = some o) (hne : b ≠ g) : w'.heap[b]? = some o := by
 rw [hr.2.block b (jS h) (by intro e;exact hne (Option.some.inj e))];exact h
theorem below_kept {w w' : World} {b : Nat} {o : Obj} (hb : Below w.heap.size w w') (h : w.heap[b]? = some o) : w'.heap[b]? = some o := by
 rw [hb.block b (jS h)];exact h
theorem Tab.rd {w w' : World} {g k : Nat} {s : ByteArray} (h : Tab w) (hr : Rd w w' g s k) (hne : 1 ≠ g) : Tab w' :=
 fun j hj => hr.2.cell (h j hj) (by intro e;exact hne (Option.some.inj e))
theorem errS {c : Int} (h : c = 0 \/ c = 4 \/ c = 5 \/ c = 6) : c = 0 \/ (c ≠ 0 /\ ((c : Int) == 0) = false /\ ((c : Int) != 0) = true) := by
 rcases h with rfl | rfl | rfl | rfl
 ·exact .inl rfl
 ·exact .inr ⟨by decide,by decide,by decide⟩
 ·exact .inr ⟨by decide,by decide,by decide⟩
 ·exact .inr ⟨by decide,by decide,by decide⟩
theorem only_len {t : W4} {a : Nat} (h : onlyW t = some a) : (ones t).length = 1 := by rw [onlyW_some h];rfl
structure OwnSet (w : World) (b : Nat) (t : W4) : Prop where
 at_ : w.cell? ⟨b,0,none⟩ = some (.int .u64 t.a) /\ w.cell? ⟨b,1,none⟩ = some (.int .u64 t.b) /\ w.cell? ⟨b,2,none⟩ = some (.int .u64 t.c) /\ w.cell? ⟨b,3,none⟩ = some (.int .u64 t.d)
 free : w.frozen? ⟨b,0,none⟩ = false /\ w.frozen? ⟨b,1,none⟩ = false /\ w.frozen? ⟨b,2,none⟩ = false /\ w.frozen? ⟨b,3,none⟩ = false
 lt : b < w.heap.size
theorem OwnSet.of {w : World} {b : Nat} {t : W4} (h : w.heap[b]? = some (setOb t)) : OwnSet w b t :=
 ⟨⟨jC h 0,jC h 1,jC h 2,jC h 3⟩,⟨jU h 0,jU h 1,jU h 2,jU h 3⟩,jS h⟩
theorem OwnSet.same {w w' : World} {b : Nat} {t : W4} (h : OwnSet w b t) (e : w'.heap[b]? = w.heap[b]?) (hs : w.heap.size <= w'.heap.size) : OwnSet w' b t := by
 have c : ∀ o,w'.cell? ⟨b,o,none⟩ = w.cell? ⟨b,o,none⟩ := fun o => World.cell?_of_block (w := w) (a := ⟨b,o,none⟩) e
 have f : ∀ o,w'.frozen? ⟨b,o,none⟩ = w.frozen? ⟨b,o,none⟩ := fun o => World.frozen?_of_block (w := w) (a := ⟨b,o,none⟩) e
 exact ⟨⟨(c 0).trans h.at_.1,(c 1).trans h.at_.2.1,(c 2).trans h.at_.2.2.1,(c 3).trans h.at_.2.2.2⟩,⟨(f 0).trans h.free.1,(f 1).trans h.free.2.1,(f 2).trans h.free.2.2.1,(f 3).trans h.free.2.2.2⟩,Nat.lt_of_lt_of_le h.lt hs⟩
theorem OwnSet.below {w w' : World} {b : Nat} {t : W4} (h : OwnSet w b t) (hb : Below w.heap.size w w') : OwnSet w' b t := h.same (hb.block b h.lt) hb.size
theorem OwnSet.rd {w w' : World} {b g k : Nat} {s : ByteArray} {t : W4} (h : OwnSet w b t) (hr : Rd w w' g s k) (hne : b ≠ g) : OwnSet w' b t :=
 h.same (hr.2.block b h.lt (by intro e;exact hne (Option.some.inj e))) hr.2.size
theorem OwnSet.drewN {w : World} {b : Nat} {t : W4} (h : OwnSet w b t) (n : Nat) : OwnSet (w.drewN n) b t := ⟨h.at_,h.free,h.lt⟩
theorem OwnSet.other {w : World} {b b' : Nat} {t t' : W4} (h : OwnSet w b t) (hne : b ≠ b') : OwnSet (setPut w b' t') b t := by
 refine h.same ?_ (by simp [setPut,World.setCell]);unfold setPut;rw [Below.heap_setCell _ _ _ _ (by simpa using hne),Below.heap_setCell _ _ _ _ (by simpa using hne),Below.heap_setCell _ _ _ _ (by simpa using hne),Below.heap_setCell _ _ _ _ (by simpa using hne)]
theorem OwnSet.put {w : World} {b : Nat} {t : W4} (h : OwnSet w b t) (t' : W4) : OwnSet (setPut w b t') b t' := by
 obtain ⟨⟨z0,z1,z2,z3⟩,⟨f0,f1,f2,f3⟩,lt⟩ := h;refine ⟨⟨?_,?_,?_,?_⟩,⟨?_,?_,?_,?_⟩,by simpa [setPut,World.setCell] using lt⟩ <;> simp [setPut,go_sem, *]
theorem tcnt_any (t : W4) (ht : t.fit) (w : World) :
  Calls Tryz.prog 128 #[setVal t] w fun e w' => e = .returned (.int .i64 ((ones t).length : Int)) /\ Below w.heap.size w w' := by
 refine (count_any t.a t.b t.c t.d w ht.1 ht.2.1 ht.2.2.1 ht.2.2.2).mono fun e w' ⟨he,hb⟩ => ⟨?_,hb⟩
 rw [he,pw_lst ht.1 ht.2.1 ht.2.2.1 ht.2.2.2,ones_len]
theorem tfirst_any (t : W4) (ht : t.fit) (a : Nat) (ha : onlyW t = some a) (w : World) (hT : Tab w) :
  Calls Tryz.prog 109 #[setVal t] w fun e w' => e = .returned (.tuple #[.int .u8 (a : Int),.bool true]) /\ Below w.heap.size w w' := by
 refine (first_any t.a t.b t.c t.d w ht.1 ht.2.1 ht.2.2.1 ht.2.2.2 hT).mono fun e w' ⟨v,he,hv,hb⟩ => ⟨?_,hb⟩
 obtain ⟨h1,h2,h3⟩ := only_mem ha
 rcases hv with ⟨hno,_⟩ | ⟨n,hn,hm,_,hv⟩
 ·have := hno a h1;rw [show memb t.a t.b t.c t.d a = true from h2] at this
  cases this
 ·rw [he,hv,h3 n hn hm]
theorem tbetween_any (t u : W4) (ht : t.fit) (hu : u.fit) (a b : Nat) (ha : onlyW t = some a) (hb : onlyW u = some b) (w : World) (hT : Tab w) :
  Calls Tryz.prog 266 #[setVal t,setVal u] w fun e w' => e = .returned (setVal (rngW a b)) /\ Below w.heap.size w w' := by
 have F1 := qhid (fun W (hW : Tab W) => tfirst_any t ht a ha W hW);have F2 := qhid (fun W (hW : Tab W) => tfirst_any u hu b hb W hW);have RG : Hid (∀ W,Calls Tryz.prog 216 #[.int .u8 (a : Int),.int .u8 (b : Int)] W fun e w' => e = .returned (setVal (rngW a b)) /\ Below W.heap.size W w') := qhid (fun W => range_any a b (only_mem ha).1 (only_mem hb).1 W);have HT := qhid hT;generalize rngW a b = r at *;clear ha hb hT ht hu
 go_enter Tryz.func266,Tryz.ntmps266
 go_wp2_with fail
 refine (F1.out _ ((HT.out.alloc _).alloc _ |>.alloc _)).mono ?_;rintro e w1 ⟨rfl,hb1⟩;have HB1 := qhid (Below.trans (below3 _ _ _ _) (hb1.mono (by simp;omega)));have HT1 : Hid (Tab w1) := qhid ((((HT.out.alloc _).alloc _).alloc _).up hb1)
 have hK1 : Hid (w1.heap[w.heap.size + 1]? = some (setOb u) /\ w1.heap[w.heap.size + 1 + 1]? = some setObj) := qhid ⟨below_kept hb1 (by
  rw [Below.heap_alloc _ _ _ (by simp)];have h := heap_new (w.alloc (setOb t)) (setOb u)
  rwa [World.size_alloc] at h),below_kept hb1 (by
  have h := heap_new ((w.alloc (setOb t)).alloc (setOb u)) setObj
  rwa [World.size_alloc,World.size_alloc] at h)⟩
 clear hb1;obtain ⟨⟨z0,z1,z2,z3⟩,hz⟩ := set_of_block hK1.out.1
 go_wp2_with fail
 refine (F2.out _ HT1.out).mono ?_;rintro e w2 ⟨rfl,hb2⟩;have HB2 := qhid (HB1.out.trans (hb2.mono HB1.out.size));have hK2 := qhid (below_kept hb2 hK1.out.2);clear hb2 z0 z1 z2 z3 hz hK1 HT1
 go_wp2_with fail
 refine (RG.out _).mono ?_;rintro e w3 ⟨rfl,hb3⟩;have HB3 := qhid (HB2.out.trans (hb3.mono HB2.out.size));obtain ⟨⟨q0,q1,q2,q3⟩,⟨f0,f1,f2,f3⟩,_hsz⟩ := set_cells (below_kept hb3 hK2.out);clear hb3 hK2
 go_wp2_with fail
 refine bodyPost_ret (v := setVal r) (by simp [results,Tryz.results266,go_sem,q0,q1,q2,q3]) rfl ⟨rfl,?_⟩;exact below_set4 HB3.out (by omega) _ _ _ _
end
end
end Go.Proofs.YtnmalggmbeipaaaGreatDoor
