/- Contracts of token: the class, and the escape, that begins at a place. -/
import Derived.Test.YtcicdiooifjcbaaDoorTokS
namespace Go.Proofs.YtcicdiooifjcbaaDoor
open Go Go.RowKit
attribute [local go_sem ↓] Go.wp_at_zero Go.wp_at_succ
attribute [local go_sem] eq4
/-- What is answered of a set that begins at a place. -/
def begAns (t : W4) (j : Int) (c : Int) : Value := .tuple #[.agg #[.int .u64 t.a, .int .u64 t.b, .int .u64 t.c, .int .u64 t.d], .int .i64 j, .int .i64 c]
/-- The block of a reader. -/
abbrev rdOb (k : Int) (s : ByteArray) : Obj := .cells #[.int .i64 k, .string s] 47
set_option maxRecDepth 100000 in
set_option maxHeartbeats 2000000 in
theorem begun_neg (s : ByteArray) (z : Int) (m : Nat) (f : Value) (hz : z < 0) (w : World) :
    Calls Tryd.prog 15 #[.string s, .int .i64 z, .int .u8 (m : Int), f] w fun e w' => e = .returned (begAns noW 0 2) ∧ Below w.heap.size w w' := by
  have d : decide (z < 0) = true := decide_eq_true hz
  go_enter Tryd.func15, Tryd.ntmps15
  go_wp2_with fail
  refine bodyPost_ret (v := begAns noW 0 2) (by simp [results, Tryd.results15, go_sem, begAns, noW]) rfl ⟨rfl, ?_⟩
  exact below2 _ _ _
set_option maxRecDepth 100000 in
set_option maxHeartbeats 2000000 in
theorem begun_no (s : ByteArray) (k m : Nat) (f : Value) (hm : m < 256) (hk : bAt s k ≠ m) (w : World) :
    Calls Tryd.prog 15 #[.string s, .int .i64 (k : Int), .int .u8 (m : Int), f] w fun e w' => e = .returned (begAns noW 0 2) ∧ Below w.heap.size w w' := by
  have d : decide ((k : Int) < 0) = false := decide_eq_false (by omega)
  have SE := qhid (fun W g (hW : RdAt W g s k) => sees_any g s k m hm W hW)
  rw [decide_eq_false hk] at SE
  have HR : Hid (RdAt ((w.alloc setObj).alloc (rdOb k s)) (w.alloc setObj).heap.size s k) := qhid ⟨Joins.cell_of_block (heap_new _ _) 0, Joins.cell_of_block (heap_new _ _) 1, Joins.unfrozen_of_block (heap_new _ _) 0, by simp⟩
  rw [World.size_alloc] at HR
  go_enter Tryd.func15, Tryd.ntmps15
  go_wp2_with fail
  refine (SE.out _ _ HR.out).mono ?_
  rintro e w3 ⟨rfl, n3, hw3⟩
  have HB3 : Hid (Below w.heap.size w w3) := qhid (by rw [hw3]; have h := below2 w setObj (rdOb k s); exact ⟨h.os, h.tape, h.output, h.size, h.block⟩)
  obtain ⟨⟨q0, q1, q2, q3⟩, ⟨f0, f1, f2, f3⟩, _hsz⟩ : (w3.cell? ⟨w.heap.size, 0, none⟩ = some (.int .u64 0) ∧ w3.cell? ⟨w.heap.size, 1, none⟩ = some (.int .u64 0) ∧ w3.cell? ⟨w.heap.size, 2, none⟩ = some (.int .u64 0) ∧ w3.cell? ⟨w.heap.size, 3, none⟩ = some (.int .u64 0)) ∧
      (w3.frozen? ⟨w.heap.size, 0, none⟩ = false ∧ w3.frozen? ⟨w.heap.size, 1, none⟩ = false ∧ w3.frozen? ⟨w.heap.size, 2, none⟩ = false ∧ w3.frozen? ⟨w.heap.size, 3, none⟩ = false) ∧ w.heap.size < w3.heap.size := set_cells (by rw [hw3]; show ((w.alloc setObj).alloc (rdOb k s)).heap[w.heap.size]? = _; exact below_kept (below1 (w.alloc setObj) (rdOb k s)) (heap_new w setObj))
  clear hw3
  go_wp2_with fail
  refine bodyPost_ret (v := begAns noW 0 2) (by simp [results, Tryd.results15, go_sem, begAns, noW, q0, q1, q2, q3]) rfl ⟨rfl, ?_⟩
  exact below_set4 HB3.out (Nat.le_refl _) _ _ _ _
set_option maxRecDepth 100000 in
set_option maxHeartbeats 4000000 in
theorem begun_yes (s : ByteArray) (k m F : Nat) (t : W4) (c : Int) (j : Nat) (hm : m < 256) (hk : bAt s k = m) (w : World) (hT : Tab w)
    (hcf : ∀ args W, (callFunc F args).run Tryd.prog W = .ok (.enter F args) W)
    (hF : ∀ W, RdAt W (w.heap.size + 1) s k → Tab W → Calls Tryd.prog F #[.pointer (some ⟨w.heap.size + 1, 0, none⟩)] W fun e w' => e = .returned (setAns t c) ∧ Rd W w' (w.heap.size + 1) s j) :
    Calls Tryd.prog 15 #[.string s, .int .i64 (k : Int), .int .u8 (m : Int), .func (.func F) #[] #[]] w fun e w' => e = .returned (begAns t (j : Int) c) ∧ Below w.heap.size w w' := by
  have d : decide ((k : Int) < 0) = false := decide_eq_false (by omega)
  have HF := qhid hF
  have SE := qhid (fun W g (hW : RdAt W g s k) => sees_any g s k m hm W hW)
  rw [decide_eq_true hk] at SE
  have HR : Hid (RdAt ((w.alloc setObj).alloc (rdOb k s)) (w.alloc setObj).heap.size s k) := qhid ⟨Joins.cell_of_block (heap_new _ _) 0, Joins.cell_of_block (heap_new _ _) 1, Joins.unfrozen_of_block (heap_new _ _) 0, by simp⟩
  rw [World.size_alloc] at HR
  have HT := qhid ((hT.alloc setObj).alloc (rdOb k s))
  clear hF hT
  go_enter Tryd.func15, Tryd.ntmps15
  go_wp2_with fail
  refine (SE.out _ _ HR.out).mono ?_
  rintro e w3 ⟨rfl, n3, hw3⟩
  have HB3 : Hid (Below w.heap.size w w3) := qhid (by rw [hw3]; have h := below2 w setObj (rdOb k s); exact ⟨h.os, h.tape, h.output, h.size, h.block⟩)
  have HK3 : Hid (w3.heap[w.heap.size]? = some setObj) := qhid (by rw [hw3]; show ((w.alloc setObj).alloc (rdOb k s)).heap[w.heap.size]? = _; exact below_kept (below1 (w.alloc setObj) (rdOb k s)) (heap_new w setObj))
  have HR3 : Hid (RdAt w3 (w.heap.size + 1) s k) := qhid (by rw [hw3]; exact only_rd HR.out n3)
  have HT3 : Hid (Tab w3) := qhid (by rw [hw3]; exact HT.out.drewN n3)
  clear hw3 HR HT SE
  go_wp2_with fail
  refine (HF.out _ HR3.out HT3.out).mono ?_
  rintro e w4 ⟨rfl, hr4⟩
  have HK4 := qhid (hr4.kept HK3.out (by omega))
  have HR4 := qhid hr4.1
  have HB4 : Hid (Below w.heap.size w w4) := qhid (HB3.out.grown hr4.2 HB3.out.size (fun b hb => by injection hb with hb; omega))
  clear hr4 HK3 HR3 HB3 HT3 HF
  unfold setAns
  obtain ⟨⟨q0, q1, q2, q3⟩, ⟨f0, f1, f2, f3⟩, hsz⟩ := set_cells HK4.out
  obtain ⟨y0, y1, yz, yl⟩ := HR4.out
  have n1 : ¬ w4.heap.size = w.heap.size := by omega
  have n2 : ¬ w.heap.size = w4.heap.size := by omega
  have n3 : ¬ w4.heap.size = w.heap.size + 1 := by omega
  have n4 : ¬ w.heap.size + 1 = w4.heap.size := by omega
  go_wp2_with fail
  go_region
  go_wp2_with fail
  refine bodyPost_ret (v := begAns t (j : Int) c) (by simp [results, Tryd.results15, go_sem, begAns, hsz, q0, q1, q2, q3]) rfl ⟨rfl, ?_⟩
  exact ((below_set4 HB4.out (Nat.le_refl _) _ _ _ _).alloc (below_set4 HB4.out (Nat.le_refl _) _ _ _ _).size _).drew
theorem cf_class (args : Array Value) (W : World) : (callFunc 16 args).run Tryd.prog W = .ok (.enter 16 args) W := by
  simp [callFunc, Tryd.func16, mark, Sem.run]; rfl
set_option maxHeartbeats 1000000 in
theorem tClassAt_no (s : ByteArray) (z : Int) (hz : z < 0 ∨ ∃ k : Nat, z = k ∧ bAt s k ≠ 91) (w : World) :
    Calls Tryd.prog 8 #[.string s, .int .i64 z] w fun e w' => e = .returned (begAns noW 0 2) ∧ Below w.heap.size w w' := by
  have BG : Hid (∀ f W, Calls Tryd.prog 15 #[.string s, .int .i64 z, .int .u8 91, f] W fun e w' => e = .returned (.tuple #[.agg #[.int .u64 0, .int .u64 0, .int .u64 0, .int .u64 0], .int .i64 0, .int .i64 2]) ∧ Below W.heap.size W w') := qhid (fun f W => by
    rcases hz with hz | ⟨k, rfl, hk⟩
    · exact begun_neg s z 91 f hz W
    · exact begun_no s k 91 f (by omega) hk W)
  clear hz
  go_enter Tryd.func8, Tryd.ntmps8
  go_wp2_with fail
  refine (BG.out _ (w.alloc setObj)).mono ?_
  rintro e w3 ⟨rfl, hb3⟩
  obtain ⟨⟨q0, q1, q2, q3⟩, ⟨f0, f1, f2, f3⟩, _hsz⟩ := set_cells (kept_below hb3)
  have HB3 := qhid ((below1 w setObj).trans (hb3.mono (by simp)))
  clear hb3
  go_wp2_with fail
  refine bodyPost_ret (v := begAns noW 0 2) (by simp [results, Tryd.results8, go_sem, begAns, noW, q0, q1, q2, q3]) rfl ⟨rfl, ?_⟩
  exact below_set4 HB3.out (Nat.le_refl _) _ _ _ _
set_option maxHeartbeats 1000000 in
theorem tClassAt_yes (s : ByteArray) (k : Nat) (hm : bAt s k = 91) (hs : s.size ≤ 1099511627776) (w : World) (hT : Tab w) :
    Calls Tryd.prog 8 #[.string s, .int .i64 (k : Int)] w fun e w' => e = .returned (begAns (classR s k).1 ((classR s k).2.2 : Int) (classR s k).2.1) ∧ Below w.heap.size w w' := by
  have hk := in_of_bAt hm (by omega)
  have BG := qhid (fun (w : World) (hTw : Tab w) => begun_yes s k 91 16 (classR s k).1 (classR s k).2.1 (classR s k).2.2 (by omega) hm w hTw cf_class (fun W hW hTW => by
    have hne : 1 ≠ w.heap.size + 1 := by have := hTw.lt; omega
    exact tclass_any (w.heap.size + 1) k s hk hs W hW hTW hne))
  have HT := qhid (hT.alloc setObj)
  clear hT hm hk
  generalize (classR s k).1 = t at *
  generalize (classR s k).2.1 = c at *
  generalize (classR s k).2.2 = j at *
  have BG : Hid (∀ W, Tab W → Calls Tryd.prog 15 #[.string s, .int .i64 (k : Int), .int .u8 91, .func (.func 16) #[] #[]] W fun e w' => e = .returned (.tuple #[.agg #[.int .u64 t.a, .int .u64 t.b, .int .u64 t.c, .int .u64 t.d], .int .i64 (j : Int), .int .i64 c]) ∧ Below W.heap.size W w') := BG
  go_enter Tryd.func8, Tryd.ntmps8
  go_wp2_with fail
  refine (BG.out (w.alloc setObj) HT.out).mono ?_
  rintro e w3 ⟨rfl, hb3⟩
  obtain ⟨⟨q0, q1, q2, q3⟩, ⟨f0, f1, f2, f3⟩, _hsz⟩ := set_cells (kept_below hb3)
  have HB3 := qhid ((below1 w setObj).trans (hb3.mono (by simp)))
  clear hb3
  go_wp2_with fail
  refine bodyPost_ret (v := begAns t (j : Int) c) (by simp [results, Tryd.results8, go_sem, begAns, q0, q1, q2, q3]) rfl ⟨rfl, ?_⟩
  exact below_set4 HB3.out (Nat.le_refl _) _ _ _ _
theorem cf_escape (args : Array Value) (W : World) : (callFunc 17 args).run Tryd.prog W = .ok (.enter 17 args) W := by
  simp [callFunc, Tryd.func17, mark, Sem.run]; rfl
set_option maxHeartbeats 1000000 in
theorem tEscapeAt_no (s : ByteArray) (z : Int) (hz : z < 0 ∨ ∃ k : Nat, z = k ∧ bAt s k ≠ 92) (w : World) :
    Calls Tryd.prog 9 #[.string s, .int .i64 z] w fun e w' => e = .returned (begAns noW 0 2) ∧ Below w.heap.size w w' := by
  have BG : Hid (∀ f W, Calls Tryd.prog 15 #[.string s, .int .i64 z, .int .u8 92, f] W fun e w' => e = .returned (.tuple #[.agg #[.int .u64 0, .int .u64 0, .int .u64 0, .int .u64 0], .int .i64 0, .int .i64 2]) ∧ Below W.heap.size W w') := qhid (fun f W => by
    rcases hz with hz | ⟨k, rfl, hk⟩
    · exact begun_neg s z 92 f hz W
    · exact begun_no s k 92 f (by omega) hk W)
  clear hz
  go_enter Tryd.func9, Tryd.ntmps9
  go_wp2_with fail
  refine (BG.out _ (w.alloc setObj)).mono ?_
  rintro e w3 ⟨rfl, hb3⟩
  obtain ⟨⟨q0, q1, q2, q3⟩, ⟨f0, f1, f2, f3⟩, _hsz⟩ := set_cells (kept_below hb3)
  have HB3 := qhid ((below1 w setObj).trans (hb3.mono (by simp)))
  clear hb3
  go_wp2_with fail
  refine bodyPost_ret (v := begAns noW 0 2) (by simp [results, Tryd.results9, go_sem, begAns, noW, q0, q1, q2, q3]) rfl ⟨rfl, ?_⟩
  exact below_set4 HB3.out (Nat.le_refl _) _ _ _ _
set_option maxHeartbeats 1000000 in
theorem tEscapeAt_yes (s : ByteArray) (k : Nat) (hm : bAt s k = 92) (hs : s.size ≤ 1099511627776) (w : World) (hT : Tab w) :
    Calls Tryd.prog 9 #[.string s, .int .i64 (k : Int)] w fun e w' => e = .returned (begAns (escR s k).1 ((escR s k).2.2 : Int) (escR s k).2.1) ∧ Below w.heap.size w w' := by
  have hk := in_of_bAt hm (by omega)
  have BG := qhid (fun (w : World) (hTw : Tab w) => begun_yes s k 92 17 (escR s k).1 (escR s k).2.1 (escR s k).2.2 (by omega) hm w hTw cf_escape (fun W hW hTW => by
    have hne : 1 ≠ w.heap.size + 1 := by have := hTw.lt; omega
    exact tescape_any (w.heap.size + 1) k s hk hs W hW))
  have HT := qhid (hT.alloc setObj)
  clear hT hm hk
  generalize (escR s k).1 = t at *
  generalize (escR s k).2.1 = c at *
  generalize (escR s k).2.2 = j at *
  have BG : Hid (∀ W, Tab W → Calls Tryd.prog 15 #[.string s, .int .i64 (k : Int), .int .u8 92, .func (.func 17) #[] #[]] W fun e w' => e = .returned (.tuple #[.agg #[.int .u64 t.a, .int .u64 t.b, .int .u64 t.c, .int .u64 t.d], .int .i64 (j : Int), .int .i64 c]) ∧ Below W.heap.size W w') := BG
  go_enter Tryd.func9, Tryd.ntmps9
  go_wp2_with fail
  refine (BG.out (w.alloc setObj) HT.out).mono ?_
  rintro e w3 ⟨rfl, hb3⟩
  obtain ⟨⟨q0, q1, q2, q3⟩, ⟨f0, f1, f2, f3⟩, _hsz⟩ := set_cells (kept_below hb3)
  have HB3 := qhid ((below1 w setObj).trans (hb3.mono (by simp)))
  clear hb3
  go_wp2_with fail
  refine bodyPost_ret (v := begAns t (j : Int) c) (by simp [results, Tryd.results9, go_sem, begAns, q0, q1, q2, q3]) rfl ⟨rfl, ?_⟩
  exact below_set4 HB3.out (Nat.le_refl _) _ _ _ _
end Go.Proofs.YtcicdiooifjcbaaDoor
