/- Contracts of token's reader: a token. -/
import Derived.Test.YtcicdiooifjcbaaDoorTokU
namespace Go.Proofs.YtcicdiooifjcbaaDoor
open Go Go.RowKit
attribute [local go_sem ↓] Go.wp_at_zero Go.wp_at_succ
attribute [local go_sem] eq4
/-- A token is taken by its rule. -/
theorem ttokRule_any (g k : Nat) (s : ByteArray) (hk : k < s.size) (hs : s.size ≤ 1099511627776) (w : World) (h : RdAt w g s k) (hT : Tab w) (hne : 1 ≠ g) :
    Calls Tryd.prog (tokFn (bAt s k)) #[.pointer (some ⟨g, 0, none⟩)] w fun e w' => e = .returned (tokAns (tokenR s k).1 (tokenR s k).2.1) ∧ Rd w w' g s (tokenR s k).2.2 := by
  unfold tokFn tokenR
  split
  · exact tbar_any g k s hk hs w h
  · split
    · exact topen_any g k s hk hs w h
    · split
      · exact tclose_any g k s hk hs w h
      · split
        · exact tsign_any g k s hk hs w h
        · split
          · exact tbraces_any g k s hk hs w h
          · exact tset_any g k s hk hs w h hT hne
/-- A token with its place is laid into its block, cell by cell. -/
abbrev tokPutAt (w : World) (b : Nat) (t : TokM) (i j : Int) : World :=
  (((((((((w.setCell ⟨b, 0, none⟩ (.int .i64 t.kind)).setCell ⟨b, 1, none⟩ (.int .i64 i)).setCell ⟨b, 2, none⟩ (.int .i64 j)).setCell ⟨b, 3, none⟩ (.int .u64 t.set.a)).setCell ⟨b, 4, none⟩ (.int .u64 t.set.b)).setCell ⟨b, 5, none⟩ (.int .u64 t.set.c)).setCell ⟨b, 6, none⟩ (.int .u64 t.set.d)).setCell ⟨b, 7, none⟩ (.int .i64 t.lo)).setCell ⟨b, 8, none⟩ (.int .i64 t.hi)).setCell ⟨b, 9, none⟩ (.bool t.lazy)
theorem Rd.tokAt {w w' : World} {g j b : Nat} {s : ByteArray} (h : Rd w w' g s j) (hb : w.heap.size ≤ b) (hg : g < w.heap.size) (t : TokM) (x y : Int) : Rd w (tokPutAt w' b t x y) g s j :=
  (((((((((h.store hb hg _).store hb hg _).store hb hg _).store hb hg _).store hb hg _).store hb hg _).store hb hg _).store hb hg _).store hb hg _).store hb hg _
set_option maxRecDepth 100000 in
set_option maxHeartbeats 4000000 in
theorem ttoken_any (g k : Nat) (s : ByteArray) (hk : k < s.size) (hs : s.size ≤ 1099511627776) (w : World) (h : RdAt w g s k) (hT : Tab w) (hne : 1 ≠ g) :
    Calls Tryd.prog 13 #[.pointer (some ⟨g, 0, none⟩)] w fun e w' => e = .returned (.tuple #[(tokenR s k).1.val (k : Int) ((tokenR s k).2.2 : Int), .int .i64 (tokenR s k).2.1]) ∧ Rd w w' g s (tokenR s k).2.2 := by
  have HH := qhid h
  have hlt := h.lt
  have HT := qhid (hT.alloc tokObj)
  have HA := qhid (rd_alloc h tokObj)
  have hb : ((s[k]'hk).toNat) = bAt s k := (bAt_in hk).symm
  have TBY := qhid (fun W => ttokenBy_any (bAt s k) W)
  have RULE := qhid (fun W (hW : RdAt W g s k) (hTW : Tab W) => ttokRule_any g k s hk hs W hW hTW hne)
  have hcf := tokFn_cf (bAt s k)
  rw [← hb] at TBY RULE hcf
  generalize tokFn (s[k]'hk).toNat = F at *
  have hjle := (tokenR_tok hk).le
  obtain ⟨r, hr⟩ : ∃ r, r = tokenR s k := ⟨_, rfl⟩
  rw [← hr] at RULE hjle ⊢
  clear hr h hT hb
  obtain ⟨t, c, j⟩ := r
  have RULE : Hid (∀ W, RdAt W g s k → Tab W → Calls Tryd.prog F #[.pointer (some ⟨g, 0, none⟩)] W fun e w' => e = .returned (.tuple #[.agg #[.int .i64 t.kind, .int .i64 0, .int .i64 0, .int .u64 t.set.a, .int .u64 t.set.b, .int .u64 t.set.c, .int .u64 t.set.d, .int .i64 t.lo, .int .i64 t.hi, .bool t.lazy], .int .i64 c]) ∧ Rd W w' g s j) := RULE
  unfold Fun at TBY
  obtain ⟨r0, r1, rz, rl⟩ := HA.out
  unfold tokObj at r0 r1 rz rl
  go_enter Tryd.func13, Tryd.ntmps13
  go_wp2_with fail
  refine (TBY.out _).mono ?_
  rintro e w1 ⟨rfl, hw1⟩
  obtain ⟨W, hW⟩ : ∃ W, W = w.alloc tokObj := ⟨_, rfl⟩
  have hW1 : w1 = W := by rw [hw1, hW]; rfl
  rw [← hW] at HA HT
  have HWW := qhid hW
  clear hw1 r0 r1 rz rl
  subst hW1
  clear hW
  go_wp2_with fail
  refine (RULE.out _ HA.out HT.out).mono ?_
  rintro e w3 ⟨rfl, hr3⟩
  have H3 : Hid (Rd (w.alloc tokObj) w3 g s j) := qhid (by rw [← HWW.out]; exact hr3)
  clear hr3
  obtain ⟨⟨q0, q1, q2, q3, q4, q5, q6, q7, q8, q9⟩, ⟨f0, f1, f2, f3, f4, f5, f6, f7, f8, f9⟩, _hsz⟩ := tok_cells (kept_first HH.out H3.out)
  obtain ⟨y0, y1, yz, yl⟩ := H3.out.1
  have hHW := H3.out.2.size
  rw [World.size_alloc] at hHW
  have n1 : ¬ w3.heap.size = w.heap.size := by omega
  have n2 : ¬ w.heap.size = w3.heap.size := by omega
  have n3 : ¬ w3.heap.size = g := by omega
  have n4 : ¬ g = w3.heap.size := by omega
  have HRw : Hid (Rd w w3 g s j) := qhid ⟨H3.out.1, only_first H3.out.2⟩
  clear RULE TBY HA HT hcf
  go_wp2_with fail
  go_region
  go_wp2_with fail
  refine bodyPost_ret (v := .tuple #[t.val (k : Int) (j : Int), .int .i64 c]) (by simp [results, Tryd.results13, go_sem, TokM.val, _hsz, q0, q1, q2, q3, q4, q5, q6, q7, q8, q9]) rfl ⟨rfl, ?_⟩
  exact ((HRw.out.tokAt (Nat.le_refl _) hlt t (k : Int) (j : Int)).below (below1 _ _)).drewN 1
end Go.Proofs.YtcicdiooifjcbaaDoor
