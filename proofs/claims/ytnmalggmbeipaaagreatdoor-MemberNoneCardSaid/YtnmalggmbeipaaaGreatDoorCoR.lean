/- A part of the proof. -/
import Derived.Test.YtnmalggmbeipaaaGreatDoorCoF
import Derived.Test.YtnmalggmbeipaaaGreatDoorNatA
import Derived.Laws.CopyOwn
import Derived.Laws.MakeOwn
set_option maxRecDepth 100000
set_option maxHeartbeats 16000000
namespace Go.Proofs.YtnmalggmbeipaaaGreatDoor
section
open Go Go.RowKit Go.Shelf
attribute [local go_sem ↓] Go.wp_at_zero Go.wp_at_succ
theorem bitsmul_one (y : Nat) (hy : y <= 1000000) (w : World) : Calls Tryz.prog 160 #[.int .u64 1,.int .u64 (y : Int)] w fun e w' => e = .returned (.tuple #[.int .u64 0,.int .u64 (y : Int)]) /\ w' = w := by
 have M := qhid (mul64_any 1 y (by omega) (by omega) w);rw [Nat.one_mul,Nat.div_eq_of_lt (by omega),Nat.mod_eq_of_lt (by omega)] at M
 go_enter Tryz.func160,Tryz.ntmps160
 go_wp2_with fail
 refine M.out.mono ?_;rintro e w' ⟨rfl,hw⟩;obtain rfl : w = w' := hw.symm;clear M
 go_wp2_with fail
 go_ret2
 exact ⟨rfl,rfl⟩
theorem Tryz.infoNdQ : (Tryz.prog.info? 45).map (fun i => (i.zero,i.size,i.bytes)) = some (some (.pointer none),1,8) := by kernel_rfl
theorem Tryz.sizeNdP : (Tryz.prog.info? 45).map (·.size) = some 1 := by kernel_rfl
theorem mk_nodes (n : Nat) (hn : n <= 1000000) (w : World) : (Instr.makeSlice 182 (.int .i64 (n : Int)) (.int .i64 (n : Int))).run Tryz.prog w = .ok (.slice (some ⟨w.heap.size,0,none⟩) n n) (w.alloc (.cells (List.replicate n (.pointer none)).toArray 45)) := by
 obtain ⟨i0,hi,hz0,hz1,hz2⟩ := info_parts Tryz.infoNdQ;have h := run_make (P := Tryz.prog) w 182 45 i0 _ Tryz.underlying182 hi hz0 .i64 .i64 (n : Int) (n : Int) (by omega) (by omega) (by rw [hz2];omega) (by omega)
 have e : madeCells (Value.pointer none).cells (n * 1) = (List.replicate n (Value.pointer none)).toArray := by
  apply Array.toList_inj.1;rw [Nat.mul_one]
  show (madeCells #[.pointer none] n).toList = _
  rw [toList_madeCells_one]
 rw [Nat.mul_one] at e;rw [Int.toNat_natCast,hz1,Nat.mul_one,e] at h;exact h
theorem splice_rep (k m n : Nat) (u z : Value) (h : k + m <= n) : splice (List.replicate k u ++ List.replicate (n - k) z) k (List.replicate m u) = List.replicate (k + m) u ++ List.replicate (n - (k + m)) z := by
 unfold splice;rw [List.take_left' (by simp),List.length_replicate,List.drop_append,List.length_replicate,List.drop_of_length_le (by simp),List.nil_append,List.drop_replicate,<- List.append_assoc,List.replicate_append_replicate];congr 2;omega
theorem rep_get {m j : Nat} {u v : Value} (h : (List.replicate m u)[j]? = some v) : j < m /\ v = u := by
 rw [List.getElem?_replicate] at h
 split at h
 ·exact ⟨by assumption,(Option.some.inj h).symm⟩
 ·cases h
theorem rep_cell {w : World} {M k n : Nat} {u z : Value} {t : TypeId} (h : w.heap[M]? = some (.cells (List.replicate k u ++ List.replicate (n - k) z).toArray t (0,0))) (j : Nat) (hj : j < k) : w.cell? ⟨M,j,none⟩ = some u := by
 have := jC h j;rw [this];simp [List.getElem?_append,hj]
theorem rep_src {w : World} {M k n m : Nat} {u z : Value} {t : TypeId} (h : w.heap[M]? = some (.cells (List.replicate k u ++ List.replicate (n - k) z).toArray t (0,0))) (hm : m <= k) : ∀ j v,(List.replicate m u)[j]? = some v -> w.cell? ((⟨M,0,none⟩ : Addr).add j) = some v := by
 intro j v hj;obtain ⟨h1,rfl⟩ := rep_get hj;have e : (⟨M,0,none⟩ : Addr).add j = ⟨M,j,none⟩ := by unfold Addr.add;split <;> simp_all
 rw [e];exact rep_cell h j (by omega)
theorem rep_fit {k n m : Nat} {u z : Value} (h : k + m <= n) : k + (List.replicate m u).length <= (List.replicate k u ++ List.replicate (n - k) z).length := by
 simp;omega
theorem rep_one {m : Nat} {u : Value} (h : u.oneCell' = true) : ∀ v ∈ List.replicate m u,v.oneCell' = true := fun v hv => by rw [(List.mem_replicate.1 hv).2];exact h
theorem rep_min {k n m : Nat} {u : Value} (h : m = min k (n - k)) : (List.replicate m u).length = Nat.min k (n - k) := by rw [List.length_replicate,h]
theorem crepeat_any (c q cap n : Nat) (w : World) (hn : n <= 1000) (hc : w.cell? ⟨c,0,none⟩ = some (.pointer (some ⟨q,0,none⟩))) (hcl : c < w.heap.size) :
  Calls Tryz.prog 200 #[.slice (some ⟨c,0,none⟩) 1 cap,.int .i64 (n : Int)] w fun e w' => e = .returned (.slice (some ⟨w.heap.size,0,none⟩) n n) /\ Below w.heap.size w w' /\ w.heap.size < w'.heap.size /\ ∀ j,j < n -> w'.cell? ⟨w.heap.size,j,none⟩ = some (.pointer (some ⟨q,0,none⟩)) := by
 have BM := qhid (bitsmul_one n (by omega) w);have hmk := mk_nodes n (by omega) w;obtain ⟨u,hu⟩ : ∃ u : Value,u = .pointer (some ⟨q,0,none⟩) := ⟨_,rfl⟩;rw [<- hu] at hc ⊢;have HU1 : Hid (u.oneCell' = true) := qhid (by rw [hu];rfl);obtain ⟨w1,hw1⟩ : ∃ X,X = w.alloc (.cells (List.replicate n (.pointer none)).toArray 45) := ⟨_,rfl⟩;rw [<- hw1] at hmk;have HM1 : Hid (w1.heap[w.heap.size]? = some (.cells (List.replicate n (.pointer none)).toArray 45 (0,0))) := qhid (by rw [hw1];exact heap_new w _);have HB1 : Hid (Below w.heap.size w w1) := qhid (by rw [hw1];exact below1 w _);have HC1 : Hid (w1.cell? ⟨c,0,none⟩ = some u) := qhid ((HB1.out.cell (p := ⟨c,0,none⟩) hcl).trans hc);have d1 : decide ((n : Int) < 0) = false := jF (by omega);have d2 : decide ((9223372036854775807 : Int) < (n : Int)) = false := jF (by omega);have hm1 : Hid (min 1 n = if n = 0 then 0 else 1) := qhid (by split <;> omega);clear hw1 hu hc
 go_enter Tryz.func200,Tryz.ntmps200
 go_wp2_with fail
 refine BM.out.mono ?_;rintro e wx ⟨rfl,hwx⟩;obtain rfl : w = wx := hwx.symm;clear BM;have HMB : Hid (n <= 1000) := qhid hn
 go_wp2_with ((with_reducible show wpList _ _ _ _ _ _);(refine wpList_copy_splice rfl (.tmp 31) (.tmp 32) 182 182 rfl 45 Tryz.underlying182 Tryz.sizeNdP (some ⟨w.heap.size,0,none⟩) (some ⟨c,0,none⟩) n n 1 cap rfl rfl w.heap.size 0 (List.replicate n (.pointer none)) 45 HM1.out (List.replicate (min 1 n) u) (List.length_replicate ..) (fun _ => ⟨rfl,_,rfl,fun j v hj => by obtain ⟨h1,rfl⟩ := rep_get hj;obtain rfl : j = 0 := (by omega);exact HC1.out⟩) (by rw [List.length_replicate,List.length_replicate,Nat.zero_add];exact Nat.min_le_right _ _) (fun v hv => by rw [(List.mem_replicate.1 hv).2];exact HU1.out) w.heap.size w HB1.out (jN _) ?_;intro w2 hm2 hb2))
 have HM2 : Hid (w2.heap[w.heap.size]? = some (.cells (List.replicate (min 1 n) u ++ List.replicate (n - min 1 n) (Value.pointer none)).toArray 45 (0,0))) := qhid (by
  have h := hm2.out;have e := splice_rep 0 (min 1 n) n u (Value.pointer none) (by omega);rw [List.replicate_zero,List.nil_append,Nat.sub_zero,Nat.zero_add] at e;rw [e] at h
  exact h)
 have HB2 := qhid hb2;clear hm2 hb2 HM1 HB1 HC1;have HL2 : Hid (min 1 n <= n /\ (0 < n -> 1 <= min 1 n)) := qhid ⟨Nat.min_le_right _ _,fun h => by omega⟩;generalize min 1 n = k0 at *;clear hm1 hmk
 go_loopw [8] (fun kv wr => ∃ k : Nat,k <= n /\ kv = .int .i64 (k : Int) /\ Hid (0 < n -> 1 <= k) /\ Hid (wr.heap[w.heap.size]? = some (.cells (List.replicate k u ++ List.replicate (n - k) (Value.pointer none)).toArray 45 (0,0))) /\ Hid (Below w.heap.size w wr)) (fun kv _ => n - (intOf kv).toNat)
 case atStart => exact ⟨k0,HL2.out.1,rfl,qhid HL2.out.2,HM2,HB2⟩
 case round =>
  obtain ⟨k,hk,rfl,HK,HM,HB⟩ := hrel
  by_cases hlt : k < n
  ·have hk1 := HK.out (by omega);obtain ⟨m,hm⟩ : ∃ m,m = min k (n - k) := ⟨_,rfl⟩;have hm1 : 1 <= m := by omega
   have hm2 : k + m <= n := by omega
   have HMM := qhid hm;have HS := qhid (splice_rep k m n u (Value.pointer none) hm2);have hne : ¬ n = k := by omega
   have HD : Hid (wr.drew.heap[w.heap.size]? = some (.cells (List.replicate k u ++ List.replicate (n - k) (Value.pointer none)).toArray 45 (0,0))) := qhid HM.out;have HBD : Hid (Below w.heap.size w wr.drew) := qhid (HB.out.drew);have HL1 := qhid (rep_min (u := u) hm);have HSR := qhid (rep_src HD.out (show m <= k by omega));have HFI := qhid (rep_fit (u := u) (z := Value.pointer none) hm2);have HON := qhid (rep_one (m := m) HU1.out);clear hm hk1
   go_wp2_with fail
   go_region_law (first | (refine step_copy_splice rfl (.tmp 41) (.tmp 44) 182 182 rfl 45 Tryz.underlying182 Tryz.sizeNdP (some ⟨w.heap.size,k,none⟩) (some ⟨w.heap.size,0,none⟩) (n - k) (n - k) k n (by simp [Act.eval,Act.put]) (by simp [Act.eval,Act.put]) w.heap.size k _ 45 HD.out (List.replicate m u) HL1.out (fun _ => ⟨rfl,_,rfl,HSR.out⟩) HFI.out HON.out w.heap.size w HBD.out (jN _) ?_;intro w2 hx2 hb2) | fail)
   all_goals
    have hwr : IntKind.i64.wrap ((k : Int) + (m : Int)) = ((k + m : Nat) : Int) := by rw [IntKind.wrap_i64];omega
    have HX2 := qhid hx2.out;have HB2' := qhid hb2;rw [HS.out] at HX2;rw [hwr];clear hwr hx2 hb2;simp only [Act.put]
    go_simp
    go_roundw
    case rel => (repeat apply Exists.intro);refine ⟨?_,rfl⟩;exact ⟨k + m,hm2,by go_num,qhid (fun _ => by omega),HX2,HB2'⟩
    case measure => simp [intOf];omega
  ·obtain rfl : k = n := by omega
   go_wp2_with fail
   go_ret
   exact ⟨rfl,HB.out,jS HM.out,fun j hj => rep_cell HM.out j hj⟩
end
end Go.Proofs.YtnmalggmbeipaaaGreatDoor
