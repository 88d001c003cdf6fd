/- Contracts of token's reader: by which rule a set, or a token, is taken. -/
import Derived.Test.YtcicdiooifjcbaaDoorTokS
namespace Go.Proofs.YtcicdiooifjcbaaDoor
open Go Go.RowKit
attribute [local go_sem ↓] Go.wp_at_zero Go.wp_at_succ
attribute [local go_sem] eq4
/-- How a set is taken that begins with a byte. -/
def setFn (b : Nat) : Nat :=
  if b = 91 then 16 else if b = 92 then 17 else if b = 46 then 64 else if b = 94 ∨ b = 36 then 65 else if b = 93 ∨ b = 125 then 66 else 56
theorem setFn_cf (b : Nat) (args : Array Value) (W : World) : (callFunc (setFn b) args).run Tryd.prog W = .ok (.enter (setFn b) args) W := by
  unfold setFn
  repeat' split
  all_goals first | (simp [callFunc, Tryd.func16, mark, Sem.run]; done) | (simp [callFunc, Tryd.func17, mark, Sem.run]; done) | (simp [callFunc, Tryd.func64, mark, Sem.run]; done) | (simp [callFunc, Tryd.func65, mark, Sem.run]; done) | (simp [callFunc, Tryd.func66, mark, Sem.run]; done) | (simp [callFunc, Tryd.func56, mark, Sem.run]; done) | (simp [callFunc, Tryd.func16, mark, Sem.run]; rfl) | (simp [callFunc, Tryd.func17, mark, Sem.run]; rfl) | (simp [callFunc, Tryd.func64, mark, Sem.run]; rfl) | (simp [callFunc, Tryd.func65, mark, Sem.run]; rfl) | (simp [callFunc, Tryd.func66, mark, Sem.run]; rfl) | (simp [callFunc, Tryd.func56, mark, Sem.run]; rfl)
set_option maxHeartbeats 1000000 in
theorem tsetBy_any (b : Nat) (w : World) :
    Calls Tryd.prog 55 #[.int .u8 (b : Int)] w fun e w' => e = .returned (Fun (setFn b) #[]) ∧ w' = w := by
  by_cases h91 : b = 91
  · have HF : setFn b = 16 := by subst h91; decide
    rw [HF]
    have g91 : (((b : Nat) : Int) == 91) = true := by simp; omega
    clear HF h91
    go_enter Tryd.func55, Tryd.ntmps55
    go_wp2
    go_ret
    exact ⟨rfl, rfl⟩
  · skip
    by_cases h92 : b = 92
    · have HF : setFn b = 17 := by subst h92; decide
      rw [HF]
      have g91 : (((b : Nat) : Int) == 91) = false := by simp; omega
      have g92 : (((b : Nat) : Int) == 92) = true := by simp; omega
      clear HF h91 h92
      go_enter Tryd.func55, Tryd.ntmps55
      go_wp2
      go_ret
      exact ⟨rfl, rfl⟩
    · skip
      by_cases h46 : b = 46
      · have HF : setFn b = 64 := by subst h46; decide
        rw [HF]
        have g91 : (((b : Nat) : Int) == 91) = false := by simp; omega
        have g92 : (((b : Nat) : Int) == 92) = false := by simp; omega
        have g46 : (((b : Nat) : Int) == 46) = true := by simp; omega
        clear HF h91 h92 h46
        go_enter Tryd.func55, Tryd.ntmps55
        go_wp2
        go_ret
        exact ⟨rfl, rfl⟩
      · skip
        by_cases h94 : b = 94
        · have HF : setFn b = 65 := by subst h94; decide
          rw [HF]
          have g91 : (((b : Nat) : Int) == 91) = false := by simp; omega
          have g92 : (((b : Nat) : Int) == 92) = false := by simp; omega
          have g46 : (((b : Nat) : Int) == 46) = false := by simp; omega
          have g94 : (((b : Nat) : Int) == 94) = true := by simp; omega
          clear HF h91 h92 h46 h94
          go_enter Tryd.func55, Tryd.ntmps55
          go_wp2
          go_ret
          exact ⟨rfl, rfl⟩
        · skip
          by_cases h36 : b = 36
          · have HF : setFn b = 65 := by subst h36; decide
            rw [HF]
            have g91 : (((b : Nat) : Int) == 91) = false := by simp; omega
            have g92 : (((b : Nat) : Int) == 92) = false := by simp; omega
            have g46 : (((b : Nat) : Int) == 46) = false := by simp; omega
            have g94 : (((b : Nat) : Int) == 94) = false := by simp; omega
            have g36 : (((b : Nat) : Int) == 36) = true := by simp; omega
            clear HF h91 h92 h46 h94 h36
            go_enter Tryd.func55, Tryd.ntmps55
            go_wp2
            go_ret
            exact ⟨rfl, rfl⟩
          · skip
            by_cases h93 : b = 93
            · have HF : setFn b = 66 := by subst h93; decide
              rw [HF]
              have g91 : (((b : Nat) : Int) == 91) = false := by simp; omega
              have g92 : (((b : Nat) : Int) == 92) = false := by simp; omega
              have g46 : (((b : Nat) : Int) == 46) = false := by simp; omega
              have g94 : (((b : Nat) : Int) == 94) = false := by simp; omega
              have g36 : (((b : Nat) : Int) == 36) = false := by simp; omega
              have g93 : (((b : Nat) : Int) == 93) = true := by simp; omega
              clear HF h91 h92 h46 h94 h36 h93
              go_enter Tryd.func55, Tryd.ntmps55
              go_wp2
              go_ret
              exact ⟨rfl, rfl⟩
            · skip
              by_cases h125 : b = 125
              · have HF : setFn b = 66 := by subst h125; decide
                rw [HF]
                have g91 : (((b : Nat) : Int) == 91) = false := by simp; omega
                have g92 : (((b : Nat) : Int) == 92) = false := by simp; omega
                have g46 : (((b : Nat) : Int) == 46) = false := by simp; omega
                have g94 : (((b : Nat) : Int) == 94) = false := by simp; omega
                have g36 : (((b : Nat) : Int) == 36) = false := by simp; omega
                have g93 : (((b : Nat) : Int) == 93) = false := by simp; omega
                have g125 : (((b : Nat) : Int) == 125) = true := by simp; omega
                clear HF h91 h92 h46 h94 h36 h93 h125
                go_enter Tryd.func55, Tryd.ntmps55
                go_wp2
                go_ret
                exact ⟨rfl, rfl⟩
              · skip
                have HF : setFn b = 56 := by unfold setFn; simp [h91, h92, h46, h94, h36, h93, h125]
                rw [HF]
                have g91 : (((b : Nat) : Int) == 91) = false := by simp; omega
                have g92 : (((b : Nat) : Int) == 92) = false := by simp; omega
                have g46 : (((b : Nat) : Int) == 46) = false := by simp; omega
                have g94 : (((b : Nat) : Int) == 94) = false := by simp; omega
                have g36 : (((b : Nat) : Int) == 36) = false := by simp; omega
                have g93 : (((b : Nat) : Int) == 93) = false := by simp; omega
                have g125 : (((b : Nat) : Int) == 125) = false := by simp; omega
                clear HF h91 h92 h46 h94 h36 h93 h125
                go_enter Tryd.func55, Tryd.ntmps55
                go_wp2
                go_ret
                exact ⟨rfl, rfl⟩
/-- How a token is taken that begins with a byte. -/
def tokFn (b : Nat) : Nat :=
  if b = 124 then 37 else if b = 40 then 38 else if b = 41 then 39 else if b = 42 ∨ b = 43 ∨ b = 63 then 40 else if b = 123 then 41 else 42
theorem tokFn_cf (b : Nat) (args : Array Value) (W : World) : (callFunc (tokFn b) args).run Tryd.prog W = .ok (.enter (tokFn b) args) W := by
  unfold tokFn
  repeat' split
  all_goals first | (simp [callFunc, Tryd.func37, mark, Sem.run]; done) | (simp [callFunc, Tryd.func38, mark, Sem.run]; done) | (simp [callFunc, Tryd.func39, mark, Sem.run]; done) | (simp [callFunc, Tryd.func40, mark, Sem.run]; done) | (simp [callFunc, Tryd.func41, mark, Sem.run]; done) | (simp [callFunc, Tryd.func42, mark, Sem.run]; done) | (simp [callFunc, Tryd.func37, mark, Sem.run]; rfl) | (simp [callFunc, Tryd.func38, mark, Sem.run]; rfl) | (simp [callFunc, Tryd.func39, mark, Sem.run]; rfl) | (simp [callFunc, Tryd.func40, mark, Sem.run]; rfl) | (simp [callFunc, Tryd.func41, mark, Sem.run]; rfl) | (simp [callFunc, Tryd.func42, mark, Sem.run]; rfl)
set_option maxHeartbeats 1000000 in
theorem ttokenBy_any (b : Nat) (w : World) :
    Calls Tryd.prog 25 #[.int .u8 (b : Int)] w fun e w' => e = .returned (Fun (tokFn b) #[]) ∧ w' = w := by
  by_cases h124 : b = 124
  · have HF : tokFn b = 37 := by subst h124; decide
    rw [HF]
    have g124 : (((b : Nat) : Int) == 124) = true := by simp; omega
    clear HF h124
    go_enter Tryd.func25, Tryd.ntmps25
    go_wp2
    go_ret
    exact ⟨rfl, rfl⟩
  · skip
    by_cases h40 : b = 40
    · have HF : tokFn b = 38 := by subst h40; decide
      rw [HF]
      have g124 : (((b : Nat) : Int) == 124) = false := by simp; omega
      have g40 : (((b : Nat) : Int) == 40) = true := by simp; omega
      clear HF h124 h40
      go_enter Tryd.func25, Tryd.ntmps25
      go_wp2
      go_ret
      exact ⟨rfl, rfl⟩
    · skip
      by_cases h41 : b = 41
      · have HF : tokFn b = 39 := by subst h41; decide
        rw [HF]
        have g124 : (((b : Nat) : Int) == 124) = false := by simp; omega
        have g40 : (((b : Nat) : Int) == 40) = false := by simp; omega
        have g41 : (((b : Nat) : Int) == 41) = true := by simp; omega
        clear HF h124 h40 h41
        go_enter Tryd.func25, Tryd.ntmps25
        go_wp2
        go_ret
        exact ⟨rfl, rfl⟩
      · skip
        by_cases h42 : b = 42
        · have HF : tokFn b = 40 := by subst h42; decide
          rw [HF]
          have g124 : (((b : Nat) : Int) == 124) = false := by simp; omega
          have g40 : (((b : Nat) : Int) == 40) = false := by simp; omega
          have g41 : (((b : Nat) : Int) == 41) = false := by simp; omega
          have g42 : (((b : Nat) : Int) == 42) = true := by simp; omega
          clear HF h124 h40 h41 h42
          go_enter Tryd.func25, Tryd.ntmps25
          go_wp2
          go_ret
          exact ⟨rfl, rfl⟩
        · skip
          by_cases h43 : b = 43
          · have HF : tokFn b = 40 := by subst h43; decide
            rw [HF]
            have g124 : (((b : Nat) : Int) == 124) = false := by simp; omega
            have g40 : (((b : Nat) : Int) == 40) = false := by simp; omega
            have g41 : (((b : Nat) : Int) == 41) = false := by simp; omega
            have g42 : (((b : Nat) : Int) == 42) = false := by simp; omega
            have g43 : (((b : Nat) : Int) == 43) = true := by simp; omega
            clear HF h124 h40 h41 h42 h43
            go_enter Tryd.func25, Tryd.ntmps25
            go_wp2
            go_ret
            exact ⟨rfl, rfl⟩
          · skip
            by_cases h63 : b = 63
            · have HF : tokFn b = 40 := by subst h63; decide
              rw [HF]
              have g124 : (((b : Nat) : Int) == 124) = false := by simp; omega
              have g40 : (((b : Nat) : Int) == 40) = false := by simp; omega
              have g41 : (((b : Nat) : Int) == 41) = false := by simp; omega
              have g42 : (((b : Nat) : Int) == 42) = false := by simp; omega
              have g43 : (((b : Nat) : Int) == 43) = false := by simp; omega
              have g63 : (((b : Nat) : Int) == 63) = true := by simp; omega
              clear HF h124 h40 h41 h42 h43 h63
              go_enter Tryd.func25, Tryd.ntmps25
              go_wp2
              go_ret
              exact ⟨rfl, rfl⟩
            · skip
              by_cases h123 : b = 123
              · have HF : tokFn b = 41 := by subst h123; decide
                rw [HF]
                have g124 : (((b : Nat) : Int) == 124) = false := by simp; omega
                have g40 : (((b : Nat) : Int) == 40) = false := by simp; omega
                have g41 : (((b : Nat) : Int) == 41) = false := by simp; omega
                have g42 : (((b : Nat) : Int) == 42) = false := by simp; omega
                have g43 : (((b : Nat) : Int) == 43) = false := by simp; omega
                have g63 : (((b : Nat) : Int) == 63) = false := by simp; omega
                have g123 : (((b : Nat) : Int) == 123) = true := by simp; omega
                clear HF h124 h40 h41 h42 h43 h63 h123
                go_enter Tryd.func25, Tryd.ntmps25
                go_wp2
                go_ret
                exact ⟨rfl, rfl⟩
              · skip
                have HF : tokFn b = 42 := by unfold tokFn; simp [h124, h40, h41, h42, h43, h63, h123]
                rw [HF]
                have g124 : (((b : Nat) : Int) == 124) = false := by simp; omega
                have g40 : (((b : Nat) : Int) == 40) = false := by simp; omega
                have g41 : (((b : Nat) : Int) == 41) = false := by simp; omega
                have g42 : (((b : Nat) : Int) == 42) = false := by simp; omega
                have g43 : (((b : Nat) : Int) == 43) = false := by simp; omega
                have g63 : (((b : Nat) : Int) == 63) = false := by simp; omega
                have g123 : (((b : Nat) : Int) == 123) = false := by simp; omega
                clear HF h124 h40 h41 h42 h43 h63 h123
                go_enter Tryd.func25, Tryd.ntmps25
                go_wp2
                go_ret
                exact ⟨rfl, rfl⟩
/-- A set is taken by its rule. -/
theorem tsetRule_any (g k : Nat) (s : ByteArray) (hk : k < s.size) (hs : s.size ≤ 1099511627776) (w : World) (h : RdAt w g s k) (hT : Tab w) (hne : 1 ≠ g) :
    Calls Tryd.prog (setFn (bAt s k)) #[.pointer (some ⟨g, 0, none⟩)] w fun e w' => e = .returned (setAns (setR s k).1 (setR s k).2.1) ∧ Rd w w' g s (setR s k).2.2 := by
  unfold setFn setR
  split
  · exact tclass_any g k s hk hs w h hT hne
  · split
    · exact tescape_any g k s hk hs w h
    · split
      · exact tpoint_any g k s hk hs w h
      · split
        · exact tedge_any g k s w h
        · split
          · exact tstray_any g k s w h
          · exact titself_any g k s hk hs w h
end Go.Proofs.YtcicdiooifjcbaaDoor
