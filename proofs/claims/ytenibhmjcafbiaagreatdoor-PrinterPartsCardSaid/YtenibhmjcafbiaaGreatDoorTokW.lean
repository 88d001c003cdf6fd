/- Contracts of token's reader: by which rule a set, or a token, is taken. Contracts of token's reader: a token that is a set. Contracts of token's reader: a token. Contracts of token: a pattern's tokens. -/
import Derived.Test.YtenibhmjcafbiaaGreatDoorTokS
import Derived.Test.YtenibhmjcafbiaaGreatDoorOwn
namespace Go.Proofs.YtenibhmjcafbiaaGreatDoor
section
open Go Go.RowKit
attribute [local go_sem ↓] Go.wp_at_zero Go.wp_at_succ
attribute [local go_sem] eq4
/-- How a set is taken that begins with a byte. -/
def setFn (b : Nat) : Nat :=
  if b = 91 then 116 else if b = 92 then 117 else if b = 46 then 118 else if b = 94 ∨ b = 36 then 119 else if b = 93 ∨ b = 125 then 120 else 121
theorem setFn_cf (b : Nat) (args : Array Value) (W : World) : (callFunc (setFn b) args).run Tryz.prog W = .ok (.enter (setFn b) args) W := by
  unfold setFn
  repeat' split
  all_goals first | (simp [callFunc, Tryz.func116, mark, Sem.run]; done) | (simp [callFunc, Tryz.func117, mark, Sem.run]; done) | (simp [callFunc, Tryz.func118, mark, Sem.run]; done) | (simp [callFunc, Tryz.func119, mark, Sem.run]; done) | (simp [callFunc, Tryz.func120, mark, Sem.run]; done) | (simp [callFunc, Tryz.func121, mark, Sem.run]; done) | (simp [callFunc, Tryz.func116, mark, Sem.run]; rfl) | (simp [callFunc, Tryz.func117, mark, Sem.run]; rfl) | (simp [callFunc, Tryz.func118, mark, Sem.run]; rfl) | (simp [callFunc, Tryz.func119, mark, Sem.run]; rfl) | (simp [callFunc, Tryz.func120, mark, Sem.run]; rfl) | (simp [callFunc, Tryz.func121, mark, Sem.run]; rfl)
set_option maxHeartbeats 1000000 in
theorem tsetBy_any (b : Nat) (w : World) :
    Calls Tryz.prog 104 #[.int .u8 (b : Int)] w fun e w' => e = .returned (Fun (setFn b) #[]) ∧ w' = w := by
  by_cases h91 : b = 91
  · have HF : setFn b = 116 := by subst h91; decide
    rw [HF]
    have g91 : (((b : Nat) : Int) == 91) = true := by simp; omega
    clear HF h91
    go_enter Tryz.func104, Tryz.ntmps104
    go_wp2
    go_ret
    exact ⟨rfl, rfl⟩
  · skip
    by_cases h92 : b = 92
    · have HF : setFn b = 117 := by subst h92; decide
      rw [HF]
      have g91 : (((b : Nat) : Int) == 91) = false := by simp; omega
      have g92 : (((b : Nat) : Int) == 92) = true := by simp; omega
      clear HF h91 h92
      go_enter Tryz.func104, Tryz.ntmps104
      go_wp2
      go_ret
      exact ⟨rfl, rfl⟩
    · skip
      by_cases h46 : b = 46
      · have HF : setFn b = 118 := by subst h46; decide
        rw [HF]
        have g91 : (((b : Nat) : Int) == 91) = false := by simp; omega
        have g92 : (((b : Nat) : Int) == 92) = false := by simp; omega
        have g46 : (((b : Nat) : Int) == 46) = true := by simp; omega
        clear HF h91 h92 h46
        go_enter Tryz.func104, Tryz.ntmps104
        go_wp2
        go_ret
        exact ⟨rfl, rfl⟩
      · skip
        by_cases h94 : b = 94
        · have HF : setFn b = 119 := by subst h94; decide
          rw [HF]
          have g91 : (((b : Nat) : Int) == 91) = false := by simp; omega
          have g92 : (((b : Nat) : Int) == 92) = false := by simp; omega
          have g46 : (((b : Nat) : Int) == 46) = false := by simp; omega
          have g94 : (((b : Nat) : Int) == 94) = true := by simp; omega
          clear HF h91 h92 h46 h94
          go_enter Tryz.func104, Tryz.ntmps104
          go_wp2
          go_ret
          exact ⟨rfl, rfl⟩
        · skip
          by_cases h36 : b = 36
          · have HF : setFn b = 119 := by subst h36; decide
            rw [HF]
            have g91 : (((b : Nat) : Int) == 91) = false := by simp; omega
            have g92 : (((b : Nat) : Int) == 92) = false := by simp; omega
            have g46 : (((b : Nat) : Int) == 46) = false := by simp; omega
            have g94 : (((b : Nat) : Int) == 94) = false := by simp; omega
            have g36 : (((b : Nat) : Int) == 36) = true := by simp; omega
            clear HF h91 h92 h46 h94 h36
            go_enter Tryz.func104, Tryz.ntmps104
            go_wp2
            go_ret
            exact ⟨rfl, rfl⟩
          · skip
            by_cases h93 : b = 93
            · have HF : setFn b = 120 := by subst h93; decide
              rw [HF]
              have g91 : (((b : Nat) : Int) == 91) = false := by simp; omega
              have g92 : (((b : Nat) : Int) == 92) = false := by simp; omega
              have g46 : (((b : Nat) : Int) == 46) = false := by simp; omega
              have g94 : (((b : Nat) : Int) == 94) = false := by simp; omega
              have g36 : (((b : Nat) : Int) == 36) = false := by simp; omega
              have g93 : (((b : Nat) : Int) == 93) = true := by simp; omega
              clear HF h91 h92 h46 h94 h36 h93
              go_enter Tryz.func104, Tryz.ntmps104
              go_wp2
              go_ret
              exact ⟨rfl, rfl⟩
            · skip
              by_cases h125 : b = 125
              · have HF : setFn b = 120 := by subst h125; decide
                rw [HF]
                have g91 : (((b : Nat) : Int) == 91) = false := by simp; omega
                have g92 : (((b : Nat) : Int) == 92) = false := by simp; omega
                have g46 : (((b : Nat) : Int) == 46) = false := by simp; omega
                have g94 : (((b : Nat) : Int) == 94) = false := by simp; omega
                have g36 : (((b : Nat) : Int) == 36) = false := by simp; omega
                have g93 : (((b : Nat) : Int) == 93) = false := by simp; omega
                have g125 : (((b : Nat) : Int) == 125) = true := by simp; omega
                clear HF h91 h92 h46 h94 h36 h93 h125
                go_enter Tryz.func104, Tryz.ntmps104
                go_wp2
                go_ret
                exact ⟨rfl, rfl⟩
              · skip
                have HF : setFn b = 121 := by unfold setFn; simp [h91, h92, h46, h94, h36, h93, h125]
                rw [HF]
                have g91 : (((b : Nat) : Int) == 91) = false := by simp; omega
                have g92 : (((b : Nat) : Int) == 92) = false := by simp; omega
                have g46 : (((b : Nat) : Int) == 46) = false := by simp; omega
                have g94 : (((b : Nat) : Int) == 94) = false := by simp; omega
                have g36 : (((b : Nat) : Int) == 36) = false := by simp; omega
                have g93 : (((b : Nat) : Int) == 93) = false := by simp; omega
                have g125 : (((b : Nat) : Int) == 125) = false := by simp; omega
                clear HF h91 h92 h46 h94 h36 h93 h125
                go_enter Tryz.func104, Tryz.ntmps104
                go_wp2
                go_ret
                exact ⟨rfl, rfl⟩
/-- How a token is taken that begins with a byte. -/
def tokFn (b : Nat) : Nat :=
  if b = 124 then 75 else if b = 40 then 76 else if b = 41 then 77 else if b = 42 ∨ b = 43 ∨ b = 63 then 78 else if b = 123 then 79 else 80
theorem tokFn_cf (b : Nat) (args : Array Value) (W : World) : (callFunc (tokFn b) args).run Tryz.prog W = .ok (.enter (tokFn b) args) W := by
  unfold tokFn
  repeat' split
  all_goals first | (simp [callFunc, Tryz.func75, mark, Sem.run]; done) | (simp [callFunc, Tryz.func76, mark, Sem.run]; done) | (simp [callFunc, Tryz.func77, mark, Sem.run]; done) | (simp [callFunc, Tryz.func78, mark, Sem.run]; done) | (simp [callFunc, Tryz.func79, mark, Sem.run]; done) | (simp [callFunc, Tryz.func80, mark, Sem.run]; done) | (simp [callFunc, Tryz.func75, mark, Sem.run]; rfl) | (simp [callFunc, Tryz.func76, mark, Sem.run]; rfl) | (simp [callFunc, Tryz.func77, mark, Sem.run]; rfl) | (simp [callFunc, Tryz.func78, mark, Sem.run]; rfl) | (simp [callFunc, Tryz.func79, mark, Sem.run]; rfl) | (simp [callFunc, Tryz.func80, mark, Sem.run]; rfl)
set_option maxHeartbeats 1000000 in
theorem ttokenBy_any (b : Nat) (w : World) :
    Calls Tryz.prog 60 #[.int .u8 (b : Int)] w fun e w' => e = .returned (Fun (tokFn b) #[]) ∧ w' = w := by
  by_cases h124 : b = 124
  · have HF : tokFn b = 75 := by subst h124; decide
    rw [HF]
    have g124 : (((b : Nat) : Int) == 124) = true := by simp; omega
    clear HF h124
    go_enter Tryz.func60, Tryz.ntmps60
    go_wp2
    go_ret
    exact ⟨rfl, rfl⟩
  · skip
    by_cases h40 : b = 40
    · have HF : tokFn b = 76 := by subst h40; decide
      rw [HF]
      have g124 : (((b : Nat) : Int) == 124) = false := by simp; omega
      have g40 : (((b : Nat) : Int) == 40) = true := by simp; omega
      clear HF h124 h40
      go_enter Tryz.func60, Tryz.ntmps60
      go_wp2
      go_ret
      exact ⟨rfl, rfl⟩
    · skip
      by_cases h41 : b = 41
      · have HF : tokFn b = 77 := by subst h41; decide
        rw [HF]
        have g124 : (((b : Nat) : Int) == 124) = false := by simp; omega
        have g40 : (((b : Nat) : Int) == 40) = false := by simp; omega
        have g41 : (((b : Nat) : Int) == 41) = true := by simp; omega
        clear HF h124 h40 h41
        go_enter Tryz.func60, Tryz.ntmps60
        go_wp2
        go_ret
        exact ⟨rfl, rfl⟩
      · skip
        by_cases h42 : b = 42
        · have HF : tokFn b = 78 := by subst h42; decide
          rw [HF]
          have g124 : (((b : Nat) : Int) == 124) = false := by simp; omega
          have g40 : (((b : Nat) : Int) == 40) = false := by simp; omega
          have g41 : (((b : Nat) : Int) == 41) = false := by simp; omega
          have g42 : (((b : Nat) : Int) == 42) = true := by simp; omega
          clear HF h124 h40 h41 h42
          go_enter Tryz.func60, Tryz.ntmps60
          go_wp2
          go_ret
          exact ⟨rfl, rfl⟩
        · skip
          by_cases h43 : b = 43
          · have HF : tokFn b = 78 := by subst h43; decide
            rw [HF]
            have g124 : (((b : Nat) : Int) == 124) = false := by simp; omega
            have g40 : (((b : Nat) : Int) == 40) = false := by simp; omega
            have g41 : (((b : Nat) : Int) == 41) = false := by simp; omega
            have g42 : (((b : Nat) : Int) == 42) = false := by simp; omega
            have g43 : (((b : Nat) : Int) == 43) = true := by simp; omega
            clear HF h124 h40 h41 h42 h43
            go_enter Tryz.func60, Tryz.ntmps60
            go_wp2
            go_ret
            exact ⟨rfl, rfl⟩
          · skip
            by_cases h63 : b = 63
            · have HF : tokFn b = 78 := by subst h63; decide
              rw [HF]
              have g124 : (((b : Nat) : Int) == 124) = false := by simp; omega
              have g40 : (((b : Nat) : Int) == 40) = false := by simp; omega
              have g41 : (((b : Nat) : Int) == 41) = false := by simp; omega
              have g42 : (((b : Nat) : Int) == 42) = false := by simp; omega
              have g43 : (((b : Nat) : Int) == 43) = false := by simp; omega
              have g63 : (((b : Nat) : Int) == 63) = true := by simp; omega
              clear HF h124 h40 h41 h42 h43 h63
              go_enter Tryz.func60, Tryz.ntmps60
              go_wp2
              go_ret
              exact ⟨rfl, rfl⟩
            · skip
              by_cases h123 : b = 123
              · have HF : tokFn b = 79 := by subst h123; decide
                rw [HF]
                have g124 : (((b : Nat) : Int) == 124) = false := by simp; omega
                have g40 : (((b : Nat) : Int) == 40) = false := by simp; omega
                have g41 : (((b : Nat) : Int) == 41) = false := by simp; omega
                have g42 : (((b : Nat) : Int) == 42) = false := by simp; omega
                have g43 : (((b : Nat) : Int) == 43) = false := by simp; omega
                have g63 : (((b : Nat) : Int) == 63) = false := by simp; omega
                have g123 : (((b : Nat) : Int) == 123) = true := by simp; omega
                clear HF h124 h40 h41 h42 h43 h63 h123
                go_enter Tryz.func60, Tryz.ntmps60
                go_wp2
                go_ret
                exact ⟨rfl, rfl⟩
              · skip
                have HF : tokFn b = 80 := by unfold tokFn; simp [h124, h40, h41, h42, h43, h63, h123]
                rw [HF]
                have g124 : (((b : Nat) : Int) == 124) = false := by simp; omega
                have g40 : (((b : Nat) : Int) == 40) = false := by simp; omega
                have g41 : (((b : Nat) : Int) == 41) = false := by simp; omega
                have g42 : (((b : Nat) : Int) == 42) = false := by simp; omega
                have g43 : (((b : Nat) : Int) == 43) = false := by simp; omega
                have g63 : (((b : Nat) : Int) == 63) = false := by simp; omega
                have g123 : (((b : Nat) : Int) == 123) = false := by simp; omega
                clear HF h124 h40 h41 h42 h43 h63 h123
                go_enter Tryz.func60, Tryz.ntmps60
                go_wp2
                go_ret
                exact ⟨rfl, rfl⟩
/-- A set is taken by its rule. -/
theorem tsetRule_any (g k : Nat) (s : ByteArray) (hk : k < s.size) (hs : s.size ≤ 1099511627776) (w : World) (h : RdAt w g s k) (hT : Tab w) (hne : 0 ≠ g) :
    Calls Tryz.prog (setFn (bAt s k)) #[.pointer (some ⟨g, 0, none⟩)] w fun e w' => e = .returned (setAns (setR s k).1 (setR s k).2.1) ∧ Rd w w' g s (setR s k).2.2 := by
  unfold setFn setR
  split
  · exact tclass_any g k s hk hs w h hT hne
  · split
    · exact tescape_any g k s hk hs w h
    · split
      · exact tpoint_any g k s hk hs w h
      · split
        · exact tedge_any g k s w h
        · split
          · exact tstray_any g k s w h
          · exact titself_any g k s hk hs w h
end
section
open Go Go.RowKit
attribute [local go_sem ↓] Go.wp_at_zero Go.wp_at_succ
attribute [local go_sem] eq4
theorem Tab.allocd {w : World} (h : Tab w) (o : Obj) (n : Nat) : Tab ((w.alloc o).drewN n) := (h.alloc o).drewN n
set_option maxRecDepth 100000 in
set_option maxHeartbeats 20000000 in
theorem tset_any (g k : Nat) (s : ByteArray) (hk : k < s.size) (hs : s.size ≤ 1099511627776) (w : World) (h : RdAt w g s k) (hT : Tab w) (hne : 0 ≠ g) :
    Calls Tryz.prog 80 #[.pointer (some ⟨g, 0, none⟩)] w fun e w' => e = .returned (tokAns ⟨0, (setR s k).1, 0, 0, false⟩ (setR s k).2.1) ∧ Rd w w' g s (setR s k).2.2 := by
  have HH := qhid h
  have hlt := h.lt
  have HT := qhid (hT.alloc tokObj)
  have HA := qhid (rd_alloc h tokObj)
  have hb : ((s[k]'hk).toNat) = bAt s k := (bAt_in hk).symm
  have SB := qhid (fun W => tsetBy_any (bAt s k) W)
  have RULE := qhid (fun W (hW : RdAt W g s k) (hTW : Tab W) => tsetRule_any g k s hk hs W hW hTW hne)
  have hcf := setFn_cf (bAt s k)
  rw [← hb] at SB RULE hcf
  generalize setFn (s[k]'hk).toNat = F at *
  obtain ⟨r, hr⟩ : ∃ r, r = setR s k := ⟨_, rfl⟩
  rw [← hr] at RULE ⊢
  clear hr h hT hb
  obtain ⟨t, c, j⟩ := r
  have RULE : Hid (∀ W, RdAt W g s k → Tab W → Calls Tryz.prog F #[.pointer (some ⟨g, 0, none⟩)] W fun e w' => e = .returned (.tuple #[.agg #[.int .u64 t.a, .int .u64 t.b, .int .u64 t.c, .int .u64 t.d], .int .i64 c]) ∧ Rd W w' g s j) := RULE
  unfold Fun at SB
  go_enter Tryz.func80, Tryz.ntmps80
  go_wp2_with fail
  obtain ⟨W, hW⟩ : ∃ W, W = w.alloc tokObj := ⟨_, rfl⟩
  have HW := qhid hW
  rw [← hW] at HA HT
  change Code.wp _ _ _ _ (w.alloc tokObj)
  rw [← hW]
  clear hW
  obtain ⟨r0, r1, rz, rl⟩ := HA.out
  have R1 := qhid (only_rd HA.out 1)
  have R2 := qhid (only_rd (rd_alloc HA.out (setOb noW)) 1)
  have T1 := qhid (HT.out.drewN 1)
  have T2 := qhid (HT.out.allocd (setOb noW) 1)
  have hng : W.heap.size ≠ g := by omega
  have OB : Hid (OwnSet ((W.alloc (setOb noW)).drewN 1) W.heap.size noW) := qhid ((OwnSet.of (heap_new W (setOb noW))).drewN 1)
  go_region_with (first
    | (go_at_call 104; refine (SB.out _).mono ?_; rintro e w' ⟨rfl, rfl⟩)
    | (refine (RULE.out _ (by first | exact R1.out | exact R2.out) (by first | exact T1.out | exact T2.out)).mono ?_; rintro e w2 ⟨rfl, hr2⟩; first | (have hOB := OB.out.rd hr2 hng; obtain ⟨⟨u0, u1, u2, u3⟩, ⟨v0, v1, v2, v3⟩, hu⟩ := hOB) | skip))
  all_goals
    first
    | (have hfin : OwnSet (w2.alloc (setOb t)) w2.heap.size t ∧ Rd W (w2.alloc (setOb t)) g s j := ⟨OwnSet.of (heap_new w2 (setOb t)), (((Rd.refl HA.out).drewN 1).trans hr2).below (below1 w2 _)⟩
       change Exit.then _ _ _ _ (w2.alloc (setOb t))
       generalize w2.alloc (setOb t) = W5 at *
       generalize w2.heap.size = b5 at *)
    | (have hB := ((Rd.refl HA.out).below (below1 W (setOb noW))).drewN 1 |>.trans hr2
       have hfin : OwnSet (setPut w2 W.heap.size t) W.heap.size t ∧ Rd W (setPut w2 W.heap.size t) g s j := ⟨OwnSet.put (t := noW) (OB.out.rd hr2 hng) t, hB.set (Nat.le_refl _) rl t⟩
       clear hB u0 u1 u2 u3 v0 v1 v2 v3 hu
       change Exit.then _ _ _ _ (setPut w2 W.heap.size t)
       generalize setPut w2 W.heap.size t = W5 at *
       clear OB
       generalize W.heap.size = b5 at *)
    obtain ⟨⟨⟨z0, z1, z2, z3⟩, _, hz⟩, hR5⟩ := hfin
    have H5 : Hid (Rd (w.alloc tokObj) W5 g s j) := qhid (by rw [← HW.out]; exact hR5)
    obtain ⟨⟨q0, q1, q2, q3, q4, q5, q6, q7, q8, q9⟩, ⟨f0, f1, f2, f3, f4, f5, f6, f7, f8, f9⟩, _hsz⟩ := tok_cells (kept_first HH.out H5.out)
    have HRw : Hid (Rd w W5 g s j) := qhid ⟨H5.out.1, only_first H5.out.2⟩
    clear hR5 hr2 r0 r1 rz rl R1 R2 T1 T2 RULE SB HT HA hcf
    go_wp2_with fail
    refine bodyPost_ret (v := tokAns ⟨0, t, 0, 0, false⟩ c) (by simp [results, Tryz.results80, go_sem, tokAns, TokM.val, q0, q1, q2, q3, q4, q5, q6, q7, q8, q9]) rfl ⟨rfl, ?_⟩
    exact HRw.out.tok (Nat.le_refl _) hlt ⟨0, t, 0, 0, false⟩
end
section
open Go Go.RowKit
attribute [local go_sem ↓] Go.wp_at_zero Go.wp_at_succ
attribute [local go_sem] eq4
/-- A token is taken by its rule. -/
theorem ttokRule_any (g k : Nat) (s : ByteArray) (hk : k < s.size) (hs : s.size ≤ 1099511627776) (w : World) (h : RdAt w g s k) (hT : Tab w) (hne : 0 ≠ g) :
    Calls Tryz.prog (tokFn (bAt s k)) #[.pointer (some ⟨g, 0, none⟩)] w fun e w' => e = .returned (tokAns (tokenR s k).1 (tokenR s k).2.1) ∧ Rd w w' g s (tokenR s k).2.2 := by
  unfold tokFn tokenR
  split
  · exact tbar_any g k s hk hs w h
  · split
    · exact topen_any g k s hk hs w h
    · split
      · exact tclose_any g k s hk hs w h
      · split
        · exact tsign_any g k s hk hs w h
        · split
          · exact tbraces_any g k s hk hs w h
          · exact tset_any g k s hk hs w h hT hne
/-- A token with its place is laid into its block, cell by cell. -/
abbrev tokPutAt (w : World) (b : Nat) (t : TokM) (i j : Int) : World :=
  (((((((((w.setCell ⟨b, 0, none⟩ (.int .i64 t.kind)).setCell ⟨b, 1, none⟩ (.int .i64 i)).setCell ⟨b, 2, none⟩ (.int .i64 j)).setCell ⟨b, 3, none⟩ (.int .u64 t.set.a)).setCell ⟨b, 4, none⟩ (.int .u64 t.set.b)).setCell ⟨b, 5, none⟩ (.int .u64 t.set.c)).setCell ⟨b, 6, none⟩ (.int .u64 t.set.d)).setCell ⟨b, 7, none⟩ (.int .i64 t.lo)).setCell ⟨b, 8, none⟩ (.int .i64 t.hi)).setCell ⟨b, 9, none⟩ (.bool t.lazy)
theorem Rd.tokAt {w w' : World} {g j b : Nat} {s : ByteArray} (h : Rd w w' g s j) (hb : w.heap.size ≤ b) (hg : g < w.heap.size) (t : TokM) (x y : Int) : Rd w (tokPutAt w' b t x y) g s j :=
  (((((((((h.store hb hg _).store hb hg _).store hb hg _).store hb hg _).store hb hg _).store hb hg _).store hb hg _).store hb hg _).store hb hg _).store hb hg _
set_option maxRecDepth 100000 in
set_option maxHeartbeats 4000000 in
theorem ttoken_any (g k : Nat) (s : ByteArray) (hk : k < s.size) (hs : s.size ≤ 1099511627776) (w : World) (h : RdAt w g s k) (hT : Tab w) (hne : 0 ≠ g) :
    Calls Tryz.prog 44 #[.pointer (some ⟨g, 0, none⟩)] w fun e w' => e = .returned (.tuple #[(tokenR s k).1.val (k : Int) ((tokenR s k).2.2 : Int), .int .i64 (tokenR s k).2.1]) ∧ Rd w w' g s (tokenR s k).2.2 := by
  have HH := qhid h
  have hlt := h.lt
  have HT := qhid (hT.alloc tokObj)
  have HA := qhid (rd_alloc h tokObj)
  have hb : ((s[k]'hk).toNat) = bAt s k := (bAt_in hk).symm
  have TBY := qhid (fun W => ttokenBy_any (bAt s k) W)
  have RULE := qhid (fun W (hW : RdAt W g s k) (hTW : Tab W) => ttokRule_any g k s hk hs W hW hTW hne)
  have hcf := tokFn_cf (bAt s k)
  rw [← hb] at TBY RULE hcf
  generalize tokFn (s[k]'hk).toNat = F at *
  have hjle := (tokenR_tok hk).le
  obtain ⟨r, hr⟩ : ∃ r, r = tokenR s k := ⟨_, rfl⟩
  rw [← hr] at RULE hjle ⊢
  clear hr h hT hb
  obtain ⟨t, c, j⟩ := r
  have RULE : Hid (∀ W, RdAt W g s k → Tab W → Calls Tryz.prog F #[.pointer (some ⟨g, 0, none⟩)] W fun e w' => e = .returned (.tuple #[.agg #[.int .i64 t.kind, .int .i64 0, .int .i64 0, .int .u64 t.set.a, .int .u64 t.set.b, .int .u64 t.set.c, .int .u64 t.set.d, .int .i64 t.lo, .int .i64 t.hi, .bool t.lazy], .int .i64 c]) ∧ Rd W w' g s j) := RULE
  unfold Fun at TBY
  obtain ⟨r0, r1, rz, rl⟩ := HA.out
  unfold tokObj at r0 r1 rz rl
  go_enter Tryz.func44, Tryz.ntmps44
  go_wp2_with fail
  refine (TBY.out _).mono ?_
  rintro e w1 ⟨rfl, hw1⟩
  obtain ⟨W, hW⟩ : ∃ W, W = w.alloc tokObj := ⟨_, rfl⟩
  have hW1 : w1 = W := by rw [hw1, hW]; rfl
  rw [← hW] at HA HT
  have HWW := qhid hW
  clear hw1 r0 r1 rz rl
  subst hW1
  clear hW
  go_wp2_with fail
  refine (RULE.out _ HA.out HT.out).mono ?_
  rintro e w3 ⟨rfl, hr3⟩
  have H3 : Hid (Rd (w.alloc tokObj) w3 g s j) := qhid (by rw [← HWW.out]; exact hr3)
  clear hr3
  obtain ⟨⟨q0, q1, q2, q3, q4, q5, q6, q7, q8, q9⟩, ⟨f0, f1, f2, f3, f4, f5, f6, f7, f8, f9⟩, _hsz⟩ := tok_cells (kept_first HH.out H3.out)
  obtain ⟨y0, y1, yz, yl⟩ := H3.out.1
  have hHW := H3.out.2.size
  rw [World.size_alloc] at hHW
  have n1 : ¬ w3.heap.size = w.heap.size := by omega
  have n2 : ¬ w.heap.size = w3.heap.size := by omega
  have n3 : ¬ w3.heap.size = g := by omega
  have n4 : ¬ g = w3.heap.size := by omega
  have HRw : Hid (Rd w w3 g s j) := qhid ⟨H3.out.1, only_first H3.out.2⟩
  clear RULE TBY HA HT hcf
  go_wp2_with fail
  go_region
  go_wp2_with fail
  refine bodyPost_ret (v := .tuple #[t.val (k : Int) (j : Int), .int .i64 c]) (by simp [results, Tryz.results44, go_sem, TokM.val, _hsz, q0, q1, q2, q3, q4, q5, q6, q7, q8, q9]) rfl ⟨rfl, ?_⟩
  exact ((HRw.out.tokAt (Nat.le_refl _) hlt t (k : Int) (j : Int)).below (below1 _ _)).drewN 1
end
section
open Go Go.RowKit
attribute [local go_sem ↓] Go.wp_at_zero Go.wp_at_succ
attribute [local go_sem] eq4
/-- A token's cells. -/
def tcells (x : TokM × Nat × Nat) : List Value := [.int .i64 x.1.kind, .int .i64 (x.2.1 : Int), .int .i64 (x.2.2 : Int), .int .u64 x.1.set.a, .int .u64 x.1.set.b, .int .u64 x.1.set.c, .int .u64 x.1.set.d, .int .i64 x.1.lo, .int .i64 x.1.hi, .bool x.1.lazy]
def flatT (l : List (TokM × Nat × Nat)) : List Value := l.flatMap tcells
theorem flatT_snoc (l : List (TokM × Nat × Nat)) (x : TokM × Nat × Nat) : flatT (l ++ [x]) = flatT l ++ tcells x := by
  unfold flatT; rw [List.flatMap_append]; simp
theorem Tryz.infoTok : (Tryz.prog.info? 90).map (fun i => (i.zero, i.size, i.bytes)) = some (some (.agg #[.int .i64 0, .int .i64 0, .int .i64 0, .int .u64 0, .int .u64 0, .int .u64 0, .int .u64 0, .int .i64 0, .int .i64 0, .bool false]), 10, 80) := by kernel_rfl
theorem ten_cells (x : TokM × Nat × Nat) : ∀ u ∈ tcells x, u.oneCell' = true := by
  intro u hu
  simp only [tcells, List.mem_cons, List.not_mem_nil, or_false] at hu
  rcases hu with rfl | rfl | rfl | rfl | rfl | rfl | rfl | rfl | rfl | rfl <;> rfl
theorem cell_ten_at (w : World) (ty : TypeId) (t : TokM) (i k g : Nat) (hg : g = w.heap.size) : ∀ j u, (tcells (t, i, k))[j]? = some u → (w.alloc (.cells #[.int .i64 t.kind, .int .i64 (i : Int), .int .i64 (k : Int), .int .u64 t.set.a, .int .u64 t.set.b, .int .u64 t.set.c, .int .u64 t.set.d, .int .i64 t.lo, .int .i64 t.hi, .bool t.lazy] ty)).cell? ((⟨g, 0, none⟩ : Addr).add j) = some u := by
  subst hg
  intro j u hj
  have h := heap_new w (.cells #[.int .i64 t.kind, .int .i64 (i : Int), .int .i64 (k : Int), .int .u64 t.set.a, .int .u64 t.set.b, .int .u64 t.set.c, .int .u64 t.set.d, .int .i64 t.lo, .int .i64 t.hi, .bool t.lazy] ty)
  have hc := Joins.cell_of_block h j
  have e : ((⟨w.heap.size, 0, none⟩ : Addr).add j) = ⟨w.heap.size, j, none⟩ := by simp [Addr.add]; intro h; exact h.symm
  rw [e, hc, ← hj]
  simp [tcells]
/-- Tokens in a slice of the call's own, which may grow. -/
def TokGrow (B : Nat) (l : List (TokM × Nat × Nat)) (v : Value) (w : World) : Prop := w.ownsRow B 90 10 v l.length (flatT l)
theorem TokGrow.start (B : Nat) (w : World) : TokGrow B [] (.slice none 0 0) w := ⟨rfl, .inl ⟨rfl, rfl⟩⟩
theorem TokGrow.below {B : Nat} {l : List (TokM × Nat × Nat)} {v : Value} {w w1 : World} (h : TokGrow B l v w) (hb : Below w.heap.size w w1) : TokGrow B l v w1 := ownsBelow h hb
theorem TokGrow.rd {B : Nat} {l : List (TokM × Nat × Nat)} {v : Value} {w w1 : World} {g k : Nat} {s : ByteArray} (h : TokGrow B l v w) (hr : Rd w w1 g s k) (hg : g < B) : TokGrow B l v w1 :=
  ownsKeep h hr.2 (by intro b hb e; have := (ownsLt h hb).1; injection e with e; omega)
theorem rd_grown {w w1 : World} {row : Option Nat} {g k : Nat} {s : ByteArray} (h : RdAt w g s k) (hg : w.grownBy w1 row) (hne : row ≠ some g) : RdAt w1 g s k :=
  ⟨hg.cell h.c0 (fun e => hne e.symm), hg.cell h.c1 (fun e => hne e.symm), (World.frozen?_of_block (w := w) (a := ⟨g, 0, none⟩) (hg.block g h.lt (fun e => hne e.symm))).trans h.fz, Nat.lt_of_lt_of_le h.lt hg.size⟩
/-- What Scan tells beside the tokens: how many they are, or where it can't go on. -/
def scanN (r : List (TokM × Nat × Nat) × Int × Nat) : Int := if r.2.1 = 0 then (r.1.length : Int) else (r.2.2 : Int)
theorem fin3 {r : List (TokM × Nat × Nat) × Int × Nat} {l : List (TokM × Nat × Nat)} {c : Int} {j : Nat} {n : Int} {v : Value} {w w' : World} (h : r = (l, c, j)) (hn : scanN (l, c, j) = n) (hg : TokGrow (w.heap.size + 1) l v w') (hb : Below w.heap.size w w') :
    ∃ u, Ending.returned (.tuple #[v, .int .i64 n, .int .i64 c]) = .returned (.tuple #[u, .int .i64 (scanN r), .int .i64 r.2.1]) ∧ TokGrow (w.heap.size + 1) r.1 u w' ∧ Below w.heap.size w w' := by
  subst h; subst hn; exact ⟨v, rfl, hg, hb⟩
set_option maxRecDepth 100000 in
set_option maxHeartbeats 4000000 in
theorem tscan_any (s : ByteArray) (hs : s.size ≤ 1048576) (w : World) (hT : Tab w) :
    Calls Tryz.prog 21 #[.string s] w fun e w' => ∃ v, e = .returned (.tuple #[v, .int .i64 (scanN (scanAll s)), .int .i64 (scanAll s).2.1]) ∧ TokGrow (w.heap.size + 1) (scanAll s).1 v w' ∧ Below w.heap.size w w' := by
  have HT := qhid hT
  have hne : 0 ≠ w.heap.size := by have := hT.lt; omega
  have EN := qhid (fun k W (hW : RdAt W w.heap.size s k) => tended_any w.heap.size s k W hW)
  have TK := qhid (fun k (hk : k < s.size) W (hW : RdAt W w.heap.size s k) (hTW : Tab W) => ttoken_any w.heap.size k s hk (by omega) W hW hTW hne)
  have dlen : decide ((1048576 : Int) < (s.size : Int)) = false := decide_eq_false (by omega)
  obtain ⟨i0, hif, hy0, hy1, hy2⟩ := info_parts Tryz.infoTok
  clear hT hne
  go_enter Tryz.func21, Tryz.ntmps21
  go_wp2_with fail
  go_loopg [5] s.size (fun n v wr => ∃ (k : Nat) (l : List (TokM × Nat × Nat)), k + n = s.size ∧ Hid (ScanAt s l k) ∧ l.length ≤ k ∧ Hid (RdAt wr w.heap.size s k) ∧ Hid (TokGrow (w.heap.size + 1) l v wr) ∧ Hid (Below w.heap.size w wr))
  case atStart =>
    refine ⟨0, [], by omega, qhid (ScanAt.start s), by simp, qhid ⟨?_, ?_, ?_, by simp⟩, qhid (TokGrow.start _ _), qhid (below1 _ _)⟩
    · exact Joins.cell_of_block (heap_new w _) 0
    · exact Joins.cell_of_block (heap_new w _) 1
    · exact Joins.unfrozen_of_block (heap_new w _) 0
  case round =>
    obtain ⟨k, l, hkn, HSA, hll, HR, HG, HB⟩ := hrel
    have ENk := qhid (EN.out k _ HR.out)
    by_cases hk : k < s.size
    · rw [decide_eq_false (by omega : ¬ s.size ≤ k)] at ENk
      have TKk := qhid (TK.out k hk)
      have hjle := (tokenR_tok hk).le
      have hjon := (tokenR_tok hk).on
      have HST := qhid (fun he => HSA.out.step hk he)
      have HBD := qhid (fun he => HSA.out.bad hk he)
      have herr := (tokenR_tok hk).err
      obtain ⟨r, hr⟩ : ∃ r, r = tokenR s k := ⟨_, rfl⟩
      rw [← hr] at TKk hjle hjon HST HBD herr
      clear hr
      obtain ⟨t, c, j⟩ := r
      have TKk : Hid (∀ W, RdAt W w.heap.size s k → Tab W → Calls Tryz.prog 44 #[.pointer (some ⟨w.heap.size, 0, none⟩)] W fun e w' => e = .returned (.tuple #[.agg #[.int .i64 t.kind, .int .i64 (k : Int), .int .i64 (j : Int), .int .u64 t.set.a, .int .u64 t.set.b, .int .u64 t.set.c, .int .u64 t.set.d, .int .i64 t.lo, .int .i64 t.hi, .bool t.lazy], .int .i64 c]) ∧ Rd W w' w.heap.size s j) := TKk
      go_wp2_with fail
      refine ENk.out.mono ?_
      rintro e w1 ⟨rfl, n1, hw1⟩
      have HR1 : Hid (RdAt w1 w.heap.size s k) := qhid (by rw [hw1]; exact only_rd HR.out n1)
      have HG1 : Hid (TokGrow (w.heap.size + 1) l _ w1) := qhid (by rw [hw1]; exact HG.out)
      have HB1 : Hid (Below w.heap.size w w1) := qhid (by rw [hw1]; exact ⟨HB.out.os, HB.out.tape, HB.out.output, HB.out.size, HB.out.block⟩)
      have HT1 : Hid (Tab w1) := qhid (HT.out.below HB1.out HT.out.lt)
      clear hw1 HR HG HB ENk
      go_wp2_with fail
      refine (TKk.out _ HR1.out HT1.out).mono ?_
      rintro e w2 ⟨rfl, hr2⟩
      have HR2 := qhid hr2.1
      have HG2 := qhid (HG1.out.rd hr2 (by omega))
      have HB2 := qhid (HB1.out.grown hr2.2 HB1.out.size (fun b hb => by injection hb with hb; omega))
      have hsz2 := HB2.out.size
      have hlt2 := HR2.out.lt
      clear hr2 HR1 HG1 HB1 HT1 TKk
      rcases errS herr with rfl | ⟨hc0, hc1, hc2⟩
      · have HS2 := qhid (HST.out rfl)
        have hjk : k < j := hjon rfl
        clear HST HBD herr hjon HSA
        go_wp2_with (at_builtin; go_must (refine wpList_append_own_at _ rfl (.tmp 26) (.tmp 28) 48 rfl (w.heap.size + 1) 90 i0 (.agg #[.int .i64 0, .int .i64 0, .int .i64 0, .int .u64 0, .int .u64 0, .int .u64 0, .int .u64 0, .int .i64 0, .int .i64 0, .bool false]) 10 80 Tryz.underlying48 hif hy0 hy1 hy2 rfl (by decide) _ l.length (flatT l) rfl (ownsAlloc (ownsAlloc HG2.out _) _) ⟨_, 0, none⟩ 1 1 (tcells (t, k, j)) rfl rfl (cell_ten_at _ _ t k j _ (by simp)) (ten_cells (t, k, j)) (by unfold maxLen; omega) (by omega) (by simp; omega) ?_; intro v4 w4 ho hg4 _ _))
        have hro : ∀ b, Value.ownBlock _ = some b → w.heap.size + 1 ≤ b := fun b hb => (ownsLt HG2.out hb).1
        have HR4 := qhid (rd_grown (rd_alloc (rd_alloc HR2.out _) _) hg4 (fun e => by have := hro _ e; omega))
        have HG4 : Hid (TokGrow (w.heap.size + 1) (l ++ [(t, k, j)]) v4 w4) := qhid (by unfold TokGrow; rw [List.length_append, flatT_snoc]; exact ho)
        have HB4 := qhid (((HB2.out.alloc hsz2 _).alloc (by simp; omega) _).grown hg4 (by simp; omega) (fun b hb => by have := hro _ hb; omega))
        clear ho hg4 hro
        go_wp2_with fail
        go_roundg (s.size - j)
        case measure => omega
        case rel => exact ⟨j, l ++ [(t, k, j)], by omega, HS2, by simp; omega, HR4, HG4, HB4⟩
      · have HSC := qhid (HBD.out hc0)
        clear HST HBD herr hjon HSA HT EN TK
        obtain ⟨y0, y1, yz, yl⟩ := HR2.out
        go_wp2_with fail
        go_region
        go_wp2_with fail
        refine bodyPost_ret (v := .tuple #[.slice none 0 0, .int .i64 (j : Int), .int .i64 c]) (by simp [results, Tryz.results21, go_sem]) rfl (fin3 HSC.out (by unfold scanN; rw [if_neg hc0]) (TokGrow.start _ _) ((HB2.out.alloc hsz2 _).drew))
    · have hke : s.size ≤ k := by omega
      rw [decide_eq_true hke] at ENk
      have HSC := qhid (HSA.out.done hke)
      clear HSA TK HT EN
      go_wp2_with fail
      refine ENk.out.mono ?_
      rintro e w1 ⟨rfl, n1, hw1⟩
      have HG1 : Hid (TokGrow (w.heap.size + 1) l _ w1) := qhid (by rw [hw1]; exact HG.out)
      have HB1 : Hid (Below w.heap.size w w1) := qhid (by rw [hw1]; exact ⟨HB.out.os, HB.out.tape, HB.out.output, HB.out.size, HB.out.block⟩)
      clear hw1
      obtain ⟨p4, cap4, rfl⟩ := own_slice HG1.out
      go_wp2_with fail
      refine bodyPost_ret (v := .tuple #[.slice p4 l.length cap4, .int .i64 (l.length : Int), .int .i64 0]) (by simp [results, Tryz.results21, go_sem]) rfl (fin3 HSC.out rfl HG1.out HB1.out)
end
end Go.Proofs.YtenibhmjcafbiaaGreatDoor
