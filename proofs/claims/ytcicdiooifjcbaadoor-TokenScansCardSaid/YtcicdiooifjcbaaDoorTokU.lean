/- Contracts of token's reader: a token that is a set. -/
import Derived.Test.YtcicdiooifjcbaaDoorTokT
namespace Go.Proofs.YtcicdiooifjcbaaDoor
open Go Go.RowKit
attribute [local go_sem ↓] Go.wp_at_zero Go.wp_at_succ
attribute [local go_sem] eq4
theorem Tab.allocd {w : World} (h : Tab w) (o : Obj) (n : Nat) : Tab ((w.alloc o).drewN n) := (h.alloc o).drewN n
set_option maxRecDepth 100000 in
set_option maxHeartbeats 20000000 in
theorem tset_any (g k : Nat) (s : ByteArray) (hk : k < s.size) (hs : s.size ≤ 1099511627776) (w : World) (h : RdAt w g s k) (hT : Tab w) (hne : 1 ≠ g) :
    Calls Tryd.prog 42 #[.pointer (some ⟨g, 0, none⟩)] w fun e w' => e = .returned (tokAns ⟨0, (setR s k).1, 0, 0, false⟩ (setR s k).2.1) ∧ Rd w w' g s (setR s k).2.2 := by
  have HH := qhid h
  have hlt := h.lt
  have HT := qhid (hT.alloc tokObj)
  have HA := qhid (rd_alloc h tokObj)
  have hb : ((s[k]'hk).toNat) = bAt s k := (bAt_in hk).symm
  have SB := qhid (fun W => tsetBy_any (bAt s k) W)
  have RULE := qhid (fun W (hW : RdAt W g s k) (hTW : Tab W) => tsetRule_any g k s hk hs W hW hTW hne)
  have hcf := setFn_cf (bAt s k)
  rw [← hb] at SB RULE hcf
  generalize setFn (s[k]'hk).toNat = F at *
  obtain ⟨r, hr⟩ : ∃ r, r = setR s k := ⟨_, rfl⟩
  rw [← hr] at RULE ⊢
  clear hr h hT hb
  obtain ⟨t, c, j⟩ := r
  have RULE : Hid (∀ W, RdAt W g s k → Tab W → Calls Tryd.prog F #[.pointer (some ⟨g, 0, none⟩)] W fun e w' => e = .returned (.tuple #[.agg #[.int .u64 t.a, .int .u64 t.b, .int .u64 t.c, .int .u64 t.d], .int .i64 c]) ∧ Rd W w' g s j) := RULE
  unfold Fun at SB
  go_enter Tryd.func42, Tryd.ntmps42
  go_wp2_with fail
  obtain ⟨W, hW⟩ : ∃ W, W = w.alloc tokObj := ⟨_, rfl⟩
  have HW := qhid hW
  rw [← hW] at HA HT
  change Code.wp _ _ _ _ (w.alloc tokObj)
  rw [← hW]
  clear hW
  obtain ⟨r0, r1, rz, rl⟩ := HA.out
  have R1 := qhid (only_rd HA.out 1)
  have R2 := qhid (only_rd (rd_alloc HA.out (setOb noW)) 1)
  have T1 := qhid (HT.out.drewN 1)
  have T2 := qhid (HT.out.allocd (setOb noW) 1)
  have hng : W.heap.size ≠ g := by omega
  have OB : Hid (OwnSet ((W.alloc (setOb noW)).drewN 1) W.heap.size noW) := qhid ((OwnSet.of (heap_new W (setOb noW))).drewN 1)
  go_region_with (first
    | (go_at_call 55; refine (SB.out _).mono ?_; rintro e w' ⟨rfl, rfl⟩)
    | (refine (RULE.out _ (by first | exact R1.out | exact R2.out) (by first | exact T1.out | exact T2.out)).mono ?_; rintro e w2 ⟨rfl, hr2⟩; first | (have hOB := OB.out.rd hr2 hng; obtain ⟨⟨u0, u1, u2, u3⟩, ⟨v0, v1, v2, v3⟩, hu⟩ := hOB) | skip))
  all_goals
    first
    | (have hfin : OwnSet (w2.alloc (setOb t)) w2.heap.size t ∧ Rd W (w2.alloc (setOb t)) g s j := ⟨OwnSet.of (heap_new w2 (setOb t)), (((Rd.refl HA.out).drewN 1).trans hr2).below (below1 w2 _)⟩
       change Exit.then _ _ _ _ (w2.alloc (setOb t))
       generalize w2.alloc (setOb t) = W5 at *
       generalize w2.heap.size = b5 at *)
    | (have hB := ((Rd.refl HA.out).below (below1 W (setOb noW))).drewN 1 |>.trans hr2
       have hfin : OwnSet (setPut w2 W.heap.size t) W.heap.size t ∧ Rd W (setPut w2 W.heap.size t) g s j := ⟨OwnSet.put (t := noW) (OB.out.rd hr2 hng) t, hB.set (Nat.le_refl _) rl t⟩
       clear hB u0 u1 u2 u3 v0 v1 v2 v3 hu
       change Exit.then _ _ _ _ (setPut w2 W.heap.size t)
       generalize setPut w2 W.heap.size t = W5 at *
       clear OB
       generalize W.heap.size = b5 at *)
    obtain ⟨⟨⟨z0, z1, z2, z3⟩, _, hz⟩, hR5⟩ := hfin
    have H5 : Hid (Rd (w.alloc tokObj) W5 g s j) := qhid (by rw [← HW.out]; exact hR5)
    obtain ⟨⟨q0, q1, q2, q3, q4, q5, q6, q7, q8, q9⟩, ⟨f0, f1, f2, f3, f4, f5, f6, f7, f8, f9⟩, _hsz⟩ := tok_cells (kept_first HH.out H5.out)
    have HRw : Hid (Rd w W5 g s j) := qhid ⟨H5.out.1, only_first H5.out.2⟩
    clear hR5 hr2 r0 r1 rz rl R1 R2 T1 T2 RULE SB HT HA hcf
    go_wp2_with fail
    refine bodyPost_ret (v := tokAns ⟨0, t, 0, 0, false⟩ c) (by simp [results, Tryd.results42, go_sem, tokAns, TokM.val, q0, q1, q2, q3, q4, q5, q6, q7, q8, q9]) rfl ⟨rfl, ?_⟩
    exact HRw.out.tok (Nat.le_refl _) hlt ⟨0, t, 0, 0, false⟩
end Go.Proofs.YtcicdiooifjcbaaDoor
