/- graph: the document's answer for what is reached: Closure told. -/
import Derived.Test.YtghfodjefjijdaaGrPa
import Derived.StillTailTactics
import Derived.Test.YtghfodjefjijdaaRegionO
namespace Go.Proofs.Ytghfodjefjijdaa
section
/-- A way whose inner things are less than v. -/
inductive Vw (E : Nat → Nat → Prop) (v : Nat) : Nat → Nat → Prop
  | nil (i : Nat) : Vw E v i i
  | one {i j : Nat} : E i j → Vw E v i j
  | step {i x j : Nat} : Vw E v i x → x < v → E x j → Vw E v i j
variable {E : Nat → Nat → Prop} {v : Nat}
theorem Vw.succ {i j : Nat} (h : Vw E (v + 1) i j) : Vw E v i j ∨ (Vw E v i v ∧ Vw E v v j) := by
  induction h with
  | nil => exact .inl (.nil _)
  | one e => exact .inl (.one e)
  | step _ hx e ih =>
    rcases ih with ih | ⟨h1, h2⟩
    · rcases Nat.lt_succ_iff_lt_or_eq.1 hx with hx | rfl
      · exact .inl (.step ih hx e)
      · exact .inr ⟨ih, .one e⟩
    · rcases Nat.lt_succ_iff_lt_or_eq.1 hx with hx | rfl
      · exact .inr ⟨h1, .step h2 hx e⟩
      · exact .inr ⟨h1, .one e⟩
theorem Vw.of {n i j : Nat} (hE : ∀ u x, E u x → u < n) (h : Rch E i j) : Vw E n i j := by
  induction h with
  | refl => exact .nil _
  | tail _ e ih => exact .step ih (hE _ _ e) e
theorem Vw.zero {i j : Nat} (h : Vw E 0 i j) : i = j ∨ E i j := by
  cases h with
  | nil => exact .inl rfl
  | one e => exact .inr e
  | step _ hx _ => exact absurd hx (Nat.not_lt_zero _)
/-- The table of what is reached, as far as it was gone through. -/
structure WaI (E : Nat → Nat → Prop) (n v i k : Nat) (c : Nat → Nat → Bool) : Prop where
  snd : ∀ a b, a < n → b < n → c a b = true → Rch E a b
  old : ∀ a b, a < n → b < n → Vw E v a b → c a b = true
  row : ∀ a b, a < i → a < n → b < n → Vw E (v + 1) a b → c a b = true
  cur : ∀ b, b < k → b < n → i < n → Vw E (v + 1) i b → c i b = true
variable {n i k : Nat} {c : Nat → Nat → Bool}
theorem WaI.start (h1 : ∀ a b, a < n → b < n → (c a b = true ↔ E a b ∨ a = b)) : WaI E n 0 0 0 c :=
  ⟨fun a b ha hb e => by
    rcases (h1 a b ha hb).1 e with e | rfl
    · exact .one e
    · exact .refl _, fun a b ha hb h => (h1 a b ha hb).2 (h.zero.symm), fun a b h => absurd h (Nat.not_lt_zero _), fun b h => absurd h (Nat.not_lt_zero _)⟩
theorem WaI.step (h : WaI E n v i k c) (hv : v < n) (hi : i < n) (hk : k < n) (hc : c i v = true) : WaI E n v i (k + 1) (upd c i (upd (c i) k (c i k || c v k))) := by
  have up : ∀ a b, c a b = true → upd c i (upd (c i) k (c i k || c v k)) a b = true := fun a b e => by
    by_cases ha : a = i
    · rw [ha, upd_same]
      by_cases hb : b = k
      · rw [hb, upd_same, ← hb, ← ha, e]
        rfl
      · rw [upd_other _ _ hb, ← ha]
        exact e
    · rw [upd_other _ _ ha]
      exact e
  refine ⟨fun a b ha hb e => ?_, fun a b ha hb e => up a b (h.old a b ha hb e), fun a b ha1 ha hb e => up a b (h.row a b ha1 ha hb e), fun b hb1 hb _ e => ?_⟩
  · by_cases hai : a = i
    · rw [hai, upd_same] at e
      by_cases hbk : b = k
      · rw [hbk, upd_same, Bool.or_eq_true] at e
        rw [hai, hbk]
        rcases e with e | e
        · exact h.snd i k hi hk e
        · exact (h.snd i v hi hv hc).trans (h.snd v k hv hk e)
      · rw [upd_other _ _ hbk] at e
        rw [hai]
        exact h.snd i b hi hb e
    · rw [upd_other _ _ hai] at e
      exact h.snd a b ha hb e
  · by_cases hbk : b = k
    · rw [upd_same, hbk, upd_same, Bool.or_eq_true]
      rw [hbk] at e
      rcases e.succ with e | ⟨_, e⟩
      · exact .inl (h.old i k hi hk e)
      · exact .inr (h.old v k hv hk e)
    · exact up i b (h.cur b (by omega) hb hi e)
theorem WaI.thing (h : WaI E n v i k c) (hv : v < n) (hx : n ≤ k ∨ c i v = false) : WaI E n v (i + 1) 0 c := by
  refine ⟨h.snd, h.old, fun a b ha1 ha hb e => ?_, fun b h => absurd h (Nat.not_lt_zero _)⟩
  rcases Nat.lt_succ_iff_lt_or_eq.1 ha1 with ha1 | rfl
  · exact h.row a b ha1 ha hb e
  · rcases hx with hx | hx
    · exact h.cur b (by omega) hb ha e
    · rcases e.succ with e | ⟨e, _⟩
      · exact h.old a b ha hb e
      · rw [h.old a v ha hv e] at hx
        cases hx
theorem WaI.done (h : WaI E n v n 0 c) : WaI E n (v + 1) 0 0 c :=
  ⟨h.snd, fun a b ha hb e => h.row a b ha ha hb e, fun _ _ h => absurd h (Nat.not_lt_zero _), fun _ h => absurd h (Nat.not_lt_zero _)⟩
theorem WaI.all (h : WaI E n n 0 0 c) (hE : ∀ u x, E u x → u < n) {a b : Nat} (ha : a < n) (hb : b < n) : c a b = true ↔ Rch E a b :=
  ⟨h.snd a b ha hb, fun e => h.old a b ha hb (Vw.of hE e)⟩
end
section
open Go Go.RowKit Go.Shelf
attribute [local go_sem ↓] Go.wp_at_zero Go.wp_at_succ
theorem TbAt.congr {w : World} {B ob n i : Nat} {rb : Nat → Nat} {m m' : Nat → Nat → Bool} (h : TbAt w B ob rb n i m) (e : ∀ j x, j < i → x < n → m j x = m' j x) : TbAt w B ob rb n i m' :=
  ⟨h.o, fun j hj => (h.r j hj).trans (by rw [vl_congr (g := fun x => .bool (m' j x)) (fun x hx => by rw [e j x hj hx])]), h.inj, h.lb⟩
theorem TbAt.putv {w : World} {B ob n i : Nat} {rb : Nat → Nat} {m : Nat → Nat → Bool} (h : TbAt w B ob rb n i m) {a b : Nat} (ha : a < i) (y : Bool) :
    TbAt (w.setCell ⟨rb a, b, none⟩ (.bool y)) B ob rb n i (upd m a (upd (m a) b y)) := by
  have hro : ∀ j, j < i → rb j ≠ ob := fun j hj => ne_of_types (h.r j hj) h.o (by decide)
  refine ⟨heap_set_other _ h.o (fun e => hro a ha e.symm), fun j hj => ?_, h.inj, h.lb⟩
  by_cases hja : j = a
  · subst hja
    refine ((h.r j hj).set b _).trans ?_
    rw [vl_congr (fun x hx => ?_)]
    rw [upd_same]
    by_cases hxb : x = b
    · rw [hxb, upd_same, upd_same]
    · rw [upd_other _ _ hxb, upd_other _ _ hxb]
  · refine (heap_set_other _ (h.r j hj) (fun e => hja (h.inj j a hj ha e))).trans ?_
    rw [vl_congr (fun x hx => ?_)]
    rw [upd_other _ _ hja]
/-- The first rows of the table of what one arrow, or none, reaches. -/
def c0 (m : Nat → Nat → Bool) (i k : Nat) : Nat → Nat → Bool := fun a b => if a < i ∨ (a = i ∧ b < k) then (m a b || a == b) else false
theorem c0_step (m : Nat → Nat → Bool) (i k : Nat) : upd (c0 m i k) i (upd (c0 m i k i) k (m i k || i == k)) = c0 m i (k + 1) := by
  funext a b
  by_cases ha : a = i
  · subst ha
    rw [upd_same]
    by_cases hb : b = k
    · subst hb
      rw [upd_same]
      unfold c0
      rw [if_pos (.inr ⟨rfl, Nat.lt_succ_self _⟩)]
    · rw [upd_other _ _ hb]
      unfold c0
      by_cases hl : b < k
      · rw [if_pos (.inr ⟨rfl, hl⟩), if_pos (.inr ⟨rfl, by omega⟩)]
      · rw [if_neg (by omega), if_neg (by omega)]
  · rw [upd_other _ _ ha]
    unfold c0
    by_cases hl : a < i
    · rw [if_pos (.inl hl), if_pos (.inl hl)]
    · rw [if_neg (by omega), if_neg (by omega)]
def clT1 (ob2 n x k r1 : Nat) : Nat → Value
  | 0 => .slice (some ⟨ob2, 0, none⟩) n n
  | 1 => .int .i64 (x : Int)
  | 2 => .pointer (some ⟨ob2, x, none⟩)
  | 3 => .slice (some ⟨r1, 0, none⟩) n n
  | 4 => .int .i64 (k : Int)
  | 5 => .slice (some ⟨ob2, 0, none⟩) n n
  | 6 => .int .i64 (x : Int)
  | 7 => .pointer (some ⟨ob2, x, none⟩)
  | 8 => .slice (some ⟨r1, 0, none⟩) n n
  | 9 => .int .i64 (k : Int)
  | 10 => .pointer (some ⟨r1, k, none⟩)
  | 11 => .bool true
  | 12 => .bool true
  | 13 => undef
  | 14 => undef
  | 15 => undef
  | 16 => undef
  | 17 => undef
  | 18 => undef
  | 19 => undef
  | 20 => .bool true
  | 21 => .pointer (some ⟨r1, k, none⟩)
  | 22 => undef
  | _ => undef
def clT2 (ob2 n v x k r1 r2 : Nat) (t2 : Bool) : Nat → Value
  | 0 => .slice (some ⟨ob2, 0, none⟩) n n
  | 1 => .int .i64 (x : Int)
  | 2 => .pointer (some ⟨ob2, x, none⟩)
  | 3 => .slice (some ⟨r1, 0, none⟩) n n
  | 4 => .int .i64 (k : Int)
  | 5 => .slice (some ⟨ob2, 0, none⟩) n n
  | 6 => .int .i64 (x : Int)
  | 7 => .pointer (some ⟨ob2, x, none⟩)
  | 8 => .slice (some ⟨r1, 0, none⟩) n n
  | 9 => .int .i64 (k : Int)
  | 10 => .pointer (some ⟨r1, k, none⟩)
  | 11 => .bool false
  | 12 => .bool false
  | 13 => .slice (some ⟨ob2, 0, none⟩) n n
  | 14 => .int .i64 (v : Int)
  | 15 => .pointer (some ⟨ob2, v, none⟩)
  | 16 => .slice (some ⟨r2, 0, none⟩) n n
  | 17 => .int .i64 (k : Int)
  | 18 => .pointer (some ⟨r2, k, none⟩)
  | 19 => .bool t2
  | 20 => .bool t2
  | 21 => .pointer (some ⟨r1, k, none⟩)
  | 22 => undef
  | _ => undef
/-- What Closure holds. -/
structure ClM (w W : World) (ob2 n i : Nat) (c : Nat → Nat → Bool) : Prop where
  tab : ∃ rb2, TbAt W w.heap.size ob2 rb2 n i c
  be : Below w.heap.size w W
set_option maxRecDepth 100000 in
set_option maxHeartbeats 8000000 in
theorem gclos_any {w : World} {B ob n : Nat} {rb : Nat → Nat} {m : Nat → Nat → Bool} (ht : TbAt w B ob rb n n m) (hn : n ≤ 100) (hbd : ∀ i j, m i j = true → i < n ∧ j < n) :
    Calls Try.prog 8 #[.slice (some ⟨ob, 0, none⟩) n n] w fun e w' => ∃ (ob2 : Nat) (c : Nat → Nat → Bool), e = .returned (.slice (some ⟨ob2, 0, none⟩) n n) ∧ ClM w w' ob2 n n c ∧ ∀ a b, a < n → b < n → (c a b = true ↔ Rch (Em m) a b) := by
  have hmk := mk_tab n (by omega) w
  obtain ⟨ob2, hob⟩ : ∃ b, b = w.heap.size := ⟨_, rfl⟩
  obtain ⟨w1, hw1⟩ : ∃ X, X = w.alloc (.cells (vl n fun _ => .slice none 0 0) 34) := ⟨_, rfl⟩
  have HM1 : Hid (ClM w w1 ob2 n 0 (c0 m 0 0)) := qhid (by
    rw [hw1, hob]
    exact ⟨⟨fun _ => 0, ⟨(heap_new w _).trans (by rw [vl_congr (g := fun j => if j < 0 then .slice (some ⟨0, 0, none⟩) n n else .slice none 0 0) (fun v _ => by rw [if_neg (Nat.not_lt_zero v)])]), fun j hj => absurd hj (Nat.not_lt_zero _), fun j k hj => absurd hj (Nat.not_lt_zero _), Nat.le_refl _, fun j hj => absurd hj (Nat.not_lt_zero _)⟩⟩, below1 w _⟩)
  have HBD := qhid hbd
  have HT := qhid ht
  rw [← hob, ← hw1] at hmk
  clear hw1 hob ht hbd
  go_enter Try.func8, Try.ntmps8
  go_wp2_with fail
  clear hmk
  go_loopw [5] (fun iv wr => ∃ i : Nat, i ≤ n ∧ iv = .int .i64 (i : Int) ∧ Hid (ClM w wr ob2 n i (c0 m i 0))) (fun iv _ => n - (intOf iv).toNat)
  case atStart => exact ⟨0, Nat.zero_le _, rfl, HM1⟩
  case round =>
    obtain ⟨i, hi, rfl, HM⟩ := hrel
    clear HM1
    by_cases hlt : i < n
    · obtain ⟨rb2, htb⟩ := HM.out.tab
      have hmk := mk_bools n (by omega) wr
      have hor : ob2 < wr.heap.size := htb.o.lt
      have co : (wr.alloc (.cells (vl n fun _ => .bool false) 4)).cell? ⟨ob2, i, none⟩ = some (.slice none 0 0) := by
        have h1 : Vec _ ob2 34 n _ := heap_up htb.o (below1 wr (.cells (vl n fun _ => .bool false) 4))
        rw [h1.cell hlt, if_neg (by omega)]
      have fo : (wr.alloc (.cells (vl n fun _ => .bool false) 4)).frozen? ⟨ob2, i, none⟩ = false := by
        have h1 : Vec _ ob2 34 n _ := heap_up htb.o (below1 wr (.cells (vl n fun _ => .bool false) 4))
        exact h1.unfrozen i
      have hrow := htb.row hlt HM.out.be.size (fun x => by unfold c0; rw [if_neg (by omega)])
      have hbe := (HM.out.be.alloc HM.out.be.size (.cells (vl n fun _ => .bool false) 4)).setCell (p := ⟨ob2, i, none⟩) htb.lb.1 (.slice (some ⟨wr.heap.size, 0, none⟩) n n)
      rw [World.setCell_alloc_past _ _ _ _ hor] at hrow hbe
      obtain ⟨W2, hW2⟩ : ∃ X, X = (wr.setCell ⟨ob2, i, none⟩ (.slice (some ⟨wr.heap.size, 0, none⟩) n n)).alloc (.cells (vl n fun _ => .bool false) 4) := ⟨_, rfl⟩
      rw [← hW2] at hrow hbe
      have HI0 : Hid (ClM w W2 ob2 n (i + 1) (c0 m i 0)) := qhid ⟨⟨_, hrow⟩, hbe⟩
      clear hrow hbe htb HM
      go_wp2_with fail
      rw [← hW2]
      clear hW2 hmk co fo hor
      go_loopw [6] (fun kv wr => ∃ k : Nat, k ≤ n ∧ kv = .int .i64 (k : Int) ∧ Hid (ClM w wr ob2 n (i + 1) (c0 m i k))) (fun kv _ => n - (intOf kv).toNat)
      case atStart => exact ⟨0, Nat.zero_le _, rfl, HI0⟩
      case round =>
        obtain ⟨k, hk, rfl, HK⟩ := hrel
        clear HI0
        by_cases hkl : k < n
        · obtain ⟨rb2, htb⟩ := HK.out.tab
          have htm := HT.out.up HK.out.be
          have c1 : wr.cell? ⟨ob2, i, none⟩ = some (.slice (some ⟨rb2 i, 0, none⟩) n n) := by rw [htb.o.cell hlt, if_pos (Nat.lt_succ_self _)]
          have c2 : wr.cell? ⟨ob, i, none⟩ = some (.slice (some ⟨rb i, 0, none⟩) n n) := by rw [htm.o.cell hlt, if_pos hlt]
          have c3 := (htm.r i hlt).cell hkl
          have c4 := (htb.r i (Nat.lt_succ_self _)).cell hkl
          have f4 := (htb.r i (Nat.lt_succ_self _)).unfrozen k
          have HPV : Hid (ClM w (wr.drew.setCell ⟨rb2 i, k, none⟩ (.bool (m i k || i == k))) ob2 n (i + 1) (c0 m i (k + 1))) := qhid ⟨⟨rb2, by
            rw [← c0_step]
            exact (htb.up (Below.drew (Below.refl _ _))).putv (Nat.lt_succ_self _) _⟩, HK.out.be.drew.setCell (p := ⟨rb2 i, k, none⟩) (htb.lb.2 i (Nat.lt_succ_self _)) _⟩
          obtain ⟨mk, hmk⟩ : ∃ u, u = m i k := ⟨_, rfl⟩
          rw [← hmk] at c3 HPV
          clear hmk htb htm HK
          cases mk with
          | true =>
            go_wp2_with fail
            go_still_tail 18, (by kernel_rfl)
            change wpList _ _ _ _ _ wr.drew
            go_wp2_with fail
            go_roundw
            case rel => exact ⟨k + 1, hkl, rfl, HPV⟩
            case measure => simp [intOf]; omega
          | false =>
            by_cases hik : i = k
            · have hb1 : ((i : Int) == (k : Int)) = true := by rw [hik]; exact beq_self_eq_true _
              have hb2 : (false || i == k) = true := by rw [hik]; simp
              rw [hb2] at HPV
              clear hik hb2
              go_wp2_with fail
              go_still_tail 18, (by kernel_rfl)
              change wpList _ _ _ _ _ wr.drew
              go_wp2_with fail
              go_roundw
              case rel => exact ⟨k + 1, hkl, rfl, HPV⟩
              case measure => simp [intOf]; omega
            · have hb1 : ((i : Int) == (k : Int)) = false := by simp; omega
              have hb2 : (false || i == k) = false := by simpa using hik
              rw [hb2] at HPV
              clear hik hb2
              go_wp2_with fail
              go_still_tail 18, (by kernel_rfl)
              change wpList _ _ _ _ _ wr.drew
              go_wp2_with fail
              go_roundw
              case rel => exact ⟨k + 1, hkl, rfl, HPV⟩
              case measure => simp [intOf]; omega
        · obtain rfl : k = n := by omega
          have HN : Hid (ClM w wr ob2 k (i + 1) (c0 m (i + 1) 0)) := qhid (by
            obtain ⟨rb2, htb⟩ := HK.out.tab
            refine ⟨⟨rb2, htb.congr (fun a b ha hb => ?_)⟩, HK.out.be⟩
            unfold c0
            rw [if_pos (by omega), if_pos (by omega)])
          clear HK
          go_wp2_with fail
          go_roundw
          case rel => exact ⟨i + 1, hlt, rfl, HN⟩
          case measure => simp [intOf]; omega
    · obtain rfl : i = n := by omega
      have HW0 : Hid (∃ c, ClM w wr ob2 i i c ∧ WaI (Em m) i 0 0 0 c) := qhid ⟨_, HM.out, WaI.start (fun a b ha hb => by
        unfold c0
        rw [if_pos (.inl ha), Bool.or_eq_true, beq_iff_eq]
        exact Iff.rfl)⟩
      clear HM
      go_wp2_with fail
      go_loopw [7] (fun vv wr => ∃ v : Nat, v ≤ i ∧ vv = .int .i64 (v : Int) ∧ Hid (∃ c, ClM w wr ob2 i i c ∧ WaI (Em m) i v 0 0 c)) (fun vv _ => i - (intOf vv).toNat)
      case atStart => exact ⟨0, Nat.zero_le _, rfl, HW0⟩
      case round =>
        obtain ⟨v, hv, rfl, HV⟩ := hrel
        clear HW0
        by_cases hvl : v < i
        · go_wp2_with fail
          go_loopw [8] (fun xv wr => ∃ x : Nat, x ≤ i ∧ xv = .int .i64 (x : Int) ∧ Hid (∃ c, ClM w wr ob2 i i c ∧ WaI (Em m) i v x 0 c)) (fun xv _ => i - (intOf xv).toNat)
          case atStart => exact ⟨0, Nat.zero_le _, rfl, HV⟩
          case round =>
            obtain ⟨x, hx, rfl, HX⟩ := hrel
            clear HV
            by_cases hxl : x < i
            · go_wp2_with fail
              go_loopw [9] (fun kv wr => ∃ k : Nat, k ≤ i ∧ kv = .int .i64 (k : Int) ∧ Hid (∃ c, ClM w wr ob2 i i c ∧ WaI (Em m) i v x k c)) (fun kv _ => i - (intOf kv).toNat)
              case atStart => exact ⟨0, Nat.zero_le _, rfl, HX⟩
              case round =>
                obtain ⟨k, hk, rfl, HK⟩ := hrel
                clear HX
                obtain ⟨c, ⟨⟨rb2, htb⟩, hbe⟩, hwa⟩ := HK.out
                have c1 : wr.cell? ⟨ob2, x, none⟩ = some (.slice (some ⟨rb2 x, 0, none⟩) i i) := by rw [htb.o.cell hxl, if_pos hxl]
                have c2 := (htb.r x hxl).cell hvl
                by_cases hkl : k < i
                · cases hcv : c x v with
                  | false =>
                    have HTH : Hid (∃ c, ClM w wr ob2 i i c ∧ WaI (Em m) i v (x + 1) 0 c) := qhid ⟨c, ⟨⟨rb2, htb⟩, hbe⟩, hwa.thing hvl (.inr hcv)⟩
                    rw [hcv] at c2
                    clear htb hbe hwa HK hcv
                    go_wp2_with fail
                    go_roundw
                    case rel => exact ⟨x + 1, hxl, rfl, HTH⟩
                    case measure => simp [intOf]; omega
                  | true =>
                    have HPV : Hid (∃ c', ClM w (wr.drew.setCell ⟨rb2 x, k, none⟩ (.bool (c x k || c v k))) ob2 i i c' ∧ WaI (Em m) i v x (k + 1) c') := qhid ⟨_, ⟨⟨rb2, (htb.up (Below.drew (Below.refl _ _))).putv hxl _⟩, hbe.drew.setCell (p := ⟨rb2 x, k, none⟩) (htb.lb.2 x hxl) _⟩, hwa.step hvl hxl hkl hcv⟩
                    have c3 : wr.cell? ⟨ob2, v, none⟩ = some (.slice (some ⟨rb2 v, 0, none⟩) i i) := by rw [htb.o.cell hvl, if_pos hvl]
                    have c4 := (htb.r x hxl).cell hkl
                    have c5 := (htb.r v hvl).cell hkl
                    have f4 := (htb.r x hxl).unfrozen k
                    rw [hcv] at c2
                    obtain ⟨t1, ht1⟩ : ∃ u, u = c x k := ⟨_, rfl⟩
                    obtain ⟨t2, ht2⟩ : ∃ u, u = c v k := ⟨_, rfl⟩
                    rw [← ht1, ← ht2] at HPV
                    rw [← ht1] at c4
                    rw [← ht2] at c5
                    clear ht1 ht2 htb hbe hwa HK hcv
                    cases t1 with
                    | true =>
                      simp only [Bool.true_or] at HPV
                      go_upto_region 20 with fail
                      refine Reg.wp_region_C (clT1 ob2 i x k (rb2 x)) (Reg.OneSt wr.drew (wr.drew.setCell ⟨rb2 x, k, none⟩ (.bool true)) 22) [0, 1, 2, 3, 4, 5, 6, 7, 8, 9, 10, 11, 12, 13, 14, 15, 16, 17, 18, 19, 20, 21, 22] (by rfl) (by kernel_rfl) (by kernel_rfl) ?_ ?_ ?_
                      · exact Reg.OneSt.start _
                      · skip
                        refine ⟨fun listed A X hI hcl hin hun hall => .inl ⟨Reg.wanted_none rfl, ?_⟩, ?_⟩
                        · have e4 := hI.evo (d := 4) (by kernel_rfl) rfl
                          have HS := hI.st
                          clear hI hall hcl
                          have HS := qhid HS
                          unfold Reg.Yields
                          go_simp
                          first | exact ⟨rfl, HS.out.keep (by decide)⟩ | (refine ⟨?_, HS.out.keep (by decide)⟩; simp [clT1]; done)
                        refine ⟨fun listed A X hI hcl hin hun hall => .inl ⟨Reg.wanted_none rfl, ?_⟩, ?_⟩
                        · have e8 := hI.evo (d := 8) (by kernel_rfl) rfl
                          have HS := hI.st
                          clear hI hall hcl
                          have HS := qhid HS
                          unfold Reg.Yields
                          go_simp
                          first | exact ⟨rfl, HS.out.keep (by decide)⟩ | (refine ⟨?_, HS.out.keep (by decide)⟩; simp [clT1]; done)
                        refine ⟨fun listed A X hI hcl hin hun hall => .inl ⟨Reg.wanted_none rfl, ?_⟩, ?_⟩
                        · have e71 : A.tmps[71]? = some (.slice (some ⟨ob2, 0, none⟩) i i) := hI.ev (i := 0) (d := 71) (by rfl) (hall ⟨0, .data⟩ (by simp) rfl)
                          have e72 : A.tmps[72]? = some (.int .i64 (x : Int)) := hI.ev (i := 1) (d := 72) (by rfl) (hall ⟨1, .data⟩ (by simp) rfl)
                          have HS := hI.st
                          clear hI hall hcl
                          have HS := qhid HS
                          unfold Reg.Yields
                          go_simp
                          first | exact ⟨rfl, HS.out.keep (by decide)⟩ | (refine ⟨?_, HS.out.keep (by decide)⟩; simp [clT1]; done)
                        refine ⟨fun listed A X hI hcl hin hun hall => .inl ⟨Reg.wanted_none rfl, ?_⟩, ?_⟩
                        · have e73 : A.tmps[73]? = some (.pointer (some ⟨ob2, x, none⟩)) := hI.ev (i := 2) (d := 73) (by rfl) (hall ⟨2, .data⟩ (by simp) rfl)
                          have HS := hI.st
                          obtain rfl := HS.a (Reg.un_of_reach hcl (n := 22) (i := 3) (by kernel_rfl) (by simpa using hun))
                          clear hI hall hcl
                          have HS := qhid HS
                          unfold Reg.Yields
                          go_simp
                          first | exact ⟨rfl, HS.out.keep (by decide)⟩ | (refine ⟨?_, HS.out.keep (by decide)⟩; simp [clT1]; done)
                        refine ⟨fun listed A X hI hcl hin hun hall => .inl ⟨Reg.wanted_none rfl, ?_⟩, ?_⟩
                        · have e9 := hI.evo (d := 9) (by kernel_rfl) rfl
                          have HS := hI.st
                          clear hI hall hcl
                          have HS := qhid HS
                          unfold Reg.Yields
                          go_simp
                          first | exact ⟨rfl, HS.out.keep (by decide)⟩ | (refine ⟨?_, HS.out.keep (by decide)⟩; simp [clT1]; done)
                        refine ⟨fun listed A X hI hcl hin hun hall => .inl ⟨Reg.wanted_none rfl, ?_⟩, ?_⟩
                        · have e4 := hI.evo (d := 4) (by kernel_rfl) rfl
                          have HS := hI.st
                          clear hI hall hcl
                          have HS := qhid HS
                          unfold Reg.Yields
                          go_simp
                          first | exact ⟨rfl, HS.out.keep (by decide)⟩ | (refine ⟨?_, HS.out.keep (by decide)⟩; simp [clT1]; done)
                        refine ⟨fun listed A X hI hcl hin hun hall => .inl ⟨Reg.wanted_none rfl, ?_⟩, ?_⟩
                        · have e8 := hI.evo (d := 8) (by kernel_rfl) rfl
                          have HS := hI.st
                          clear hI hall hcl
                          have HS := qhid HS
                          unfold Reg.Yields
                          go_simp
                          first | exact ⟨rfl, HS.out.keep (by decide)⟩ | (refine ⟨?_, HS.out.keep (by decide)⟩; simp [clT1]; done)
                        refine ⟨fun listed A X hI hcl hin hun hall => .inl ⟨Reg.wanted_none rfl, ?_⟩, ?_⟩
                        · have e76 : A.tmps[76]? = some (.slice (some ⟨ob2, 0, none⟩) i i) := hI.ev (i := 5) (d := 76) (by rfl) (hall ⟨5, .data⟩ (by simp) rfl)
                          have e77 : A.tmps[77]? = some (.int .i64 (x : Int)) := hI.ev (i := 6) (d := 77) (by rfl) (hall ⟨6, .data⟩ (by simp) rfl)
                          have HS := hI.st
                          clear hI hall hcl
                          have HS := qhid HS
                          unfold Reg.Yields
                          go_simp
                          first | exact ⟨rfl, HS.out.keep (by decide)⟩ | (refine ⟨?_, HS.out.keep (by decide)⟩; simp [clT1]; done)
                        refine ⟨fun listed A X hI hcl hin hun hall => .inl ⟨Reg.wanted_none rfl, ?_⟩, ?_⟩
                        · have e78 : A.tmps[78]? = some (.pointer (some ⟨ob2, x, none⟩)) := hI.ev (i := 7) (d := 78) (by rfl) (hall ⟨7, .data⟩ (by simp) rfl)
                          have HS := hI.st
                          obtain rfl := HS.a (Reg.un_of_reach hcl (n := 22) (i := 8) (by kernel_rfl) (by simpa using hun))
                          clear hI hall hcl
                          have HS := qhid HS
                          unfold Reg.Yields
                          go_simp
                          first | exact ⟨rfl, HS.out.keep (by decide)⟩ | (refine ⟨?_, HS.out.keep (by decide)⟩; simp [clT1]; done)
                        refine ⟨fun listed A X hI hcl hin hun hall => .inl ⟨Reg.wanted_none rfl, ?_⟩, ?_⟩
                        · have e9 := hI.evo (d := 9) (by kernel_rfl) rfl
                          have HS := hI.st
                          clear hI hall hcl
                          have HS := qhid HS
                          unfold Reg.Yields
                          go_simp
                          first | exact ⟨rfl, HS.out.keep (by decide)⟩ | (refine ⟨?_, HS.out.keep (by decide)⟩; simp [clT1]; done)
                        refine ⟨fun listed A X hI hcl hin hun hall => .inl ⟨Reg.wanted_none rfl, ?_⟩, ?_⟩
                        · have e79 : A.tmps[79]? = some (.slice (some ⟨rb2 x, 0, none⟩) i i) := hI.ev (i := 8) (d := 79) (by rfl) (hall ⟨8, .data⟩ (by simp) rfl)
                          have e80 : A.tmps[80]? = some (.int .i64 (k : Int)) := hI.ev (i := 9) (d := 80) (by rfl) (hall ⟨9, .data⟩ (by simp) rfl)
                          have HS := hI.st
                          clear hI hall hcl
                          have HS := qhid HS
                          unfold Reg.Yields
                          go_simp
                          first | exact ⟨rfl, HS.out.keep (by decide)⟩ | (refine ⟨?_, HS.out.keep (by decide)⟩; simp [clT1]; done)
                        refine ⟨fun listed A X hI hcl hin hun hall => .inl ⟨Reg.wanted_none rfl, ?_⟩, ?_⟩
                        · have e81 : A.tmps[81]? = some (.pointer (some ⟨rb2 x, k, none⟩)) := hI.ev (i := 10) (d := 81) (by rfl) (hall ⟨10, .data⟩ (by simp) rfl)
                          have HS := hI.st
                          obtain rfl := HS.a (Reg.un_of_reach hcl (n := 22) (i := 11) (by kernel_rfl) (by simpa using hun))
                          clear hI hall hcl
                          have HS := qhid HS
                          unfold Reg.Yields
                          go_simp
                          first | exact ⟨rfl, HS.out.keep (by decide)⟩ | (refine ⟨?_, HS.out.keep (by decide)⟩; simp [clT1]; done)
                        refine ⟨fun listed A X hI hcl hin hun hall => .inl ⟨Reg.wanted_none rfl, ?_⟩, ?_⟩
                        · have e82 : A.tmps[82]? = some (.bool true) := hI.ev (i := 11) (d := 82) (by rfl) (hall ⟨11, .data⟩ (by simp) rfl)
                          have HS := hI.st
                          clear hI hall hcl
                          have HS := qhid HS
                          unfold Reg.Yields
                          go_simp
                          first | exact ⟨rfl, HS.out.keep (by decide)⟩ | (refine ⟨?_, HS.out.keep (by decide)⟩; simp [clT1]; done)
                        refine ⟨fun listed A X hI hcl hin hun hall => .inr ⟨(Reg.wanted_some (j := 12) (d := 83) rfl rfl (hI.ev (i := 12) (d := 83) (by rfl) (hall ⟨12, .guard⟩ (by simp) rfl) : A.tmps[83]? = some (.bool true))).trans rfl, rfl, hI.st.keep (by decide)⟩, ?_⟩
                        refine ⟨fun listed A X hI hcl hin hun hall => .inr ⟨(Reg.wanted_some (j := 12) (d := 83) rfl rfl (hI.ev (i := 12) (d := 83) (by rfl) (hall ⟨12, .guard⟩ (by simp) rfl) : A.tmps[83]? = some (.bool true))).trans rfl, rfl, hI.st.keep (by decide)⟩, ?_⟩
                        refine ⟨fun listed A X hI hcl hin hun hall => .inr ⟨(Reg.wanted_some (j := 12) (d := 83) rfl rfl (hI.ev (i := 12) (d := 83) (by rfl) (hall ⟨12, .guard⟩ (by simp) rfl) : A.tmps[83]? = some (.bool true))).trans rfl, rfl, hI.st.keep (by decide)⟩, ?_⟩
                        refine ⟨fun listed A X hI hcl hin hun hall => .inr ⟨(Reg.wanted_some (j := 12) (d := 83) rfl rfl (hI.ev (i := 12) (d := 83) (by rfl) (hall ⟨12, .guard⟩ (by simp) rfl) : A.tmps[83]? = some (.bool true))).trans rfl, rfl, hI.st.keep (by decide)⟩, ?_⟩
                        refine ⟨fun listed A X hI hcl hin hun hall => .inr ⟨(Reg.wanted_some (j := 12) (d := 83) rfl rfl (hI.ev (i := 12) (d := 83) (by rfl) (hall ⟨12, .guard⟩ (by simp) rfl) : A.tmps[83]? = some (.bool true))).trans rfl, rfl, hI.st.keep (by decide)⟩, ?_⟩
                        refine ⟨fun listed A X hI hcl hin hun hall => .inr ⟨(Reg.wanted_some (j := 12) (d := 83) rfl rfl (hI.ev (i := 12) (d := 83) (by rfl) (hall ⟨12, .guard⟩ (by simp) rfl) : A.tmps[83]? = some (.bool true))).trans rfl, rfl, hI.st.keep (by decide)⟩, ?_⟩
                        refine ⟨fun listed A X hI hcl hin hun hall => .inr ⟨(Reg.wanted_some (j := 12) (d := 83) rfl rfl (hI.ev (i := 12) (d := 83) (by rfl) (hall ⟨12, .guard⟩ (by simp) rfl) : A.tmps[83]? = some (.bool true))).trans rfl, rfl, hI.st.keep (by decide)⟩, ?_⟩
                        refine ⟨fun listed A X hI hcl hin hun hall => .inl ⟨Reg.wanted_none rfl, ?_⟩, ?_⟩
                        · have e83 : A.tmps[83]? = some (.bool true) := hI.ev (i := 12) (d := 83) (by rfl) (hall ⟨12, .data⟩ (by simp) rfl)
                          have e90 : A.tmps[90]? = some (undef) := hI.ev (i := 19) (d := 90) (by rfl) (hall ⟨19, .data⟩ (by simp) rfl)
                          have HS := hI.st
                          clear hI hall hcl
                          have HS := qhid HS
                          unfold Reg.Yields
                          go_simp
                          first | exact ⟨rfl, HS.out.keep (by decide)⟩ | (refine ⟨?_, HS.out.keep (by decide)⟩; simp [clT1]; done)
                        refine ⟨fun listed A X hI hcl hin hun hall => .inl ⟨Reg.wanted_none rfl, ?_⟩, ?_⟩
                        · have e74 : A.tmps[74]? = some (.slice (some ⟨rb2 x, 0, none⟩) i i) := hI.ev (i := 3) (d := 74) (by rfl) (hall ⟨3, .data⟩ (by simp) rfl)
                          have e75 : A.tmps[75]? = some (.int .i64 (k : Int)) := hI.ev (i := 4) (d := 75) (by rfl) (hall ⟨4, .data⟩ (by simp) rfl)
                          have HS := hI.st
                          clear hI hall hcl
                          have HS := qhid HS
                          unfold Reg.Yields
                          go_simp
                          first | exact ⟨rfl, HS.out.keep (by decide)⟩ | (refine ⟨?_, HS.out.keep (by decide)⟩; simp [clT1]; done)
                        refine ⟨fun listed A X hI hcl hin hun hall => .inl ⟨Reg.wanted_none rfl, ?_⟩, ?_⟩
                        · have e91 : A.tmps[91]? = some (.bool true) := hI.ev (i := 20) (d := 91) (by rfl) (hall ⟨20, .data⟩ (by simp) rfl)
                          have e92 : A.tmps[92]? = some (.pointer (some ⟨rb2 x, k, none⟩)) := hI.ev (i := 21) (d := 92) (by rfl) (hall ⟨21, .data⟩ (by simp) rfl)
                          have HS := hI.st
                          obtain rfl := HS.a (by simpa using hun)
                          have H2 := qhid (Reg.OneSt.put (Wa := wr.drew) (Wb := (wr.drew.setCell ⟨rb2 x, k, none⟩ (.bool true))) (i1 := 22) (by simpa using hin))
                          clear hI hall hcl hin hun
                          have HS := qhid HS
                          unfold Reg.Yields
                          go_simp
                          first | exact H2.out | exact ⟨rfl, H2.out⟩
                        trivial
                      · intro X hS
                        obtain rfl := hS.b (by rfl)
                        clear hS
                        simp [Reg.finalTmps, Reg.dstAt, Reg.valOf, clT1]
                        go_wp2_with fail
                        go_roundw
                        case rel => exact ⟨k + 1, hkl, rfl, HPV⟩
                        case measure => simp [intOf]; omega
                    | false =>
                      simp only [Bool.false_or] at HPV
                      go_upto_region 20 with fail
                      refine Reg.wp_region_C (clT2 ob2 i v x k (rb2 x) (rb2 v) t2) (Reg.OneSt wr.drew (wr.drew.setCell ⟨rb2 x, k, none⟩ (.bool t2)) 22) [0, 1, 2, 3, 4, 5, 6, 7, 8, 9, 10, 11, 12, 13, 14, 15, 16, 17, 18, 19, 20, 21, 22] (by rfl) (by kernel_rfl) (by kernel_rfl) ?_ ?_ ?_
                      · exact Reg.OneSt.start _
                      · skip
                        refine ⟨fun listed A X hI hcl hin hun hall => .inl ⟨Reg.wanted_none rfl, ?_⟩, ?_⟩
                        · have e4 := hI.evo (d := 4) (by kernel_rfl) rfl
                          have HS := hI.st
                          clear hI hall hcl
                          have HS := qhid HS
                          unfold Reg.Yields
                          go_simp
                          first | exact ⟨rfl, HS.out.keep (by decide)⟩ | (refine ⟨?_, HS.out.keep (by decide)⟩; simp [clT2]; done)
                        refine ⟨fun listed A X hI hcl hin hun hall => .inl ⟨Reg.wanted_none rfl, ?_⟩, ?_⟩
                        · have e8 := hI.evo (d := 8) (by kernel_rfl) rfl
                          have HS := hI.st
                          clear hI hall hcl
                          have HS := qhid HS
                          unfold Reg.Yields
                          go_simp
                          first | exact ⟨rfl, HS.out.keep (by decide)⟩ | (refine ⟨?_, HS.out.keep (by decide)⟩; simp [clT2]; done)
                        refine ⟨fun listed A X hI hcl hin hun hall => .inl ⟨Reg.wanted_none rfl, ?_⟩, ?_⟩
                        · have e71 : A.tmps[71]? = some (.slice (some ⟨ob2, 0, none⟩) i i) := hI.ev (i := 0) (d := 71) (by rfl) (hall ⟨0, .data⟩ (by simp) rfl)
                          have e72 : A.tmps[72]? = some (.int .i64 (x : Int)) := hI.ev (i := 1) (d := 72) (by rfl) (hall ⟨1, .data⟩ (by simp) rfl)
                          have HS := hI.st
                          clear hI hall hcl
                          have HS := qhid HS
                          unfold Reg.Yields
                          go_simp
                          first | exact ⟨rfl, HS.out.keep (by decide)⟩ | (refine ⟨?_, HS.out.keep (by decide)⟩; simp [clT2]; done)
                        refine ⟨fun listed A X hI hcl hin hun hall => .inl ⟨Reg.wanted_none rfl, ?_⟩, ?_⟩
                        · have e73 : A.tmps[73]? = some (.pointer (some ⟨ob2, x, none⟩)) := hI.ev (i := 2) (d := 73) (by rfl) (hall ⟨2, .data⟩ (by simp) rfl)
                          have HS := hI.st
                          obtain rfl := HS.a (Reg.un_of_reach hcl (n := 22) (i := 3) (by kernel_rfl) (by simpa using hun))
                          clear hI hall hcl
                          have HS := qhid HS
                          unfold Reg.Yields
                          go_simp
                          first | exact ⟨rfl, HS.out.keep (by decide)⟩ | (refine ⟨?_, HS.out.keep (by decide)⟩; simp [clT2]; done)
                        refine ⟨fun listed A X hI hcl hin hun hall => .inl ⟨Reg.wanted_none rfl, ?_⟩, ?_⟩
                        · have e9 := hI.evo (d := 9) (by kernel_rfl) rfl
                          have HS := hI.st
                          clear hI hall hcl
                          have HS := qhid HS
                          unfold Reg.Yields
                          go_simp
                          first | exact ⟨rfl, HS.out.keep (by decide)⟩ | (refine ⟨?_, HS.out.keep (by decide)⟩; simp [clT2]; done)
                        refine ⟨fun listed A X hI hcl hin hun hall => .inl ⟨Reg.wanted_none rfl, ?_⟩, ?_⟩
                        · have e4 := hI.evo (d := 4) (by kernel_rfl) rfl
                          have HS := hI.st
                          clear hI hall hcl
                          have HS := qhid HS
                          unfold Reg.Yields
                          go_simp
                          first | exact ⟨rfl, HS.out.keep (by decide)⟩ | (refine ⟨?_, HS.out.keep (by decide)⟩; simp [clT2]; done)
                        refine ⟨fun listed A X hI hcl hin hun hall => .inl ⟨Reg.wanted_none rfl, ?_⟩, ?_⟩
                        · have e8 := hI.evo (d := 8) (by kernel_rfl) rfl
                          have HS := hI.st
                          clear hI hall hcl
                          have HS := qhid HS
                          unfold Reg.Yields
                          go_simp
                          first | exact ⟨rfl, HS.out.keep (by decide)⟩ | (refine ⟨?_, HS.out.keep (by decide)⟩; simp [clT2]; done)
                        refine ⟨fun listed A X hI hcl hin hun hall => .inl ⟨Reg.wanted_none rfl, ?_⟩, ?_⟩
                        · have e76 : A.tmps[76]? = some (.slice (some ⟨ob2, 0, none⟩) i i) := hI.ev (i := 5) (d := 76) (by rfl) (hall ⟨5, .data⟩ (by simp) rfl)
                          have e77 : A.tmps[77]? = some (.int .i64 (x : Int)) := hI.ev (i := 6) (d := 77) (by rfl) (hall ⟨6, .data⟩ (by simp) rfl)
                          have HS := hI.st
                          clear hI hall hcl
                          have HS := qhid HS
                          unfold Reg.Yields
                          go_simp
                          first | exact ⟨rfl, HS.out.keep (by decide)⟩ | (refine ⟨?_, HS.out.keep (by decide)⟩; simp [clT2]; done)
                        refine ⟨fun listed A X hI hcl hin hun hall => .inl ⟨Reg.wanted_none rfl, ?_⟩, ?_⟩
                        · have e78 : A.tmps[78]? = some (.pointer (some ⟨ob2, x, none⟩)) := hI.ev (i := 7) (d := 78) (by rfl) (hall ⟨7, .data⟩ (by simp) rfl)
                          have HS := hI.st
                          obtain rfl := HS.a (Reg.un_of_reach hcl (n := 22) (i := 8) (by kernel_rfl) (by simpa using hun))
                          clear hI hall hcl
                          have HS := qhid HS
                          unfold Reg.Yields
                          go_simp
                          first | exact ⟨rfl, HS.out.keep (by decide)⟩ | (refine ⟨?_, HS.out.keep (by decide)⟩; simp [clT2]; done)
                        refine ⟨fun listed A X hI hcl hin hun hall => .inl ⟨Reg.wanted_none rfl, ?_⟩, ?_⟩
                        · have e9 := hI.evo (d := 9) (by kernel_rfl) rfl
                          have HS := hI.st
                          clear hI hall hcl
                          have HS := qhid HS
                          unfold Reg.Yields
                          go_simp
                          first | exact ⟨rfl, HS.out.keep (by decide)⟩ | (refine ⟨?_, HS.out.keep (by decide)⟩; simp [clT2]; done)
                        refine ⟨fun listed A X hI hcl hin hun hall => .inl ⟨Reg.wanted_none rfl, ?_⟩, ?_⟩
                        · have e79 : A.tmps[79]? = some (.slice (some ⟨rb2 x, 0, none⟩) i i) := hI.ev (i := 8) (d := 79) (by rfl) (hall ⟨8, .data⟩ (by simp) rfl)
                          have e80 : A.tmps[80]? = some (.int .i64 (k : Int)) := hI.ev (i := 9) (d := 80) (by rfl) (hall ⟨9, .data⟩ (by simp) rfl)
                          have HS := hI.st
                          clear hI hall hcl
                          have HS := qhid HS
                          unfold Reg.Yields
                          go_simp
                          first | exact ⟨rfl, HS.out.keep (by decide)⟩ | (refine ⟨?_, HS.out.keep (by decide)⟩; simp [clT2]; done)
                        refine ⟨fun listed A X hI hcl hin hun hall => .inl ⟨Reg.wanted_none rfl, ?_⟩, ?_⟩
                        · have e81 : A.tmps[81]? = some (.pointer (some ⟨rb2 x, k, none⟩)) := hI.ev (i := 10) (d := 81) (by rfl) (hall ⟨10, .data⟩ (by simp) rfl)
                          have HS := hI.st
                          obtain rfl := HS.a (Reg.un_of_reach hcl (n := 22) (i := 11) (by kernel_rfl) (by simpa using hun))
                          clear hI hall hcl
                          have HS := qhid HS
                          unfold Reg.Yields
                          go_simp
                          first | exact ⟨rfl, HS.out.keep (by decide)⟩ | (refine ⟨?_, HS.out.keep (by decide)⟩; simp [clT2]; done)
                        refine ⟨fun listed A X hI hcl hin hun hall => .inl ⟨Reg.wanted_none rfl, ?_⟩, ?_⟩
                        · have e82 : A.tmps[82]? = some (.bool false) := hI.ev (i := 11) (d := 82) (by rfl) (hall ⟨11, .data⟩ (by simp) rfl)
                          have HS := hI.st
                          clear hI hall hcl
                          have HS := qhid HS
                          unfold Reg.Yields
                          go_simp
                          first | exact ⟨rfl, HS.out.keep (by decide)⟩ | (refine ⟨?_, HS.out.keep (by decide)⟩; simp [clT2]; done)
                        refine ⟨fun listed A X hI hcl hin hun hall => .inl ⟨(Reg.wanted_some (j := 12) (d := 83) rfl rfl (hI.ev (i := 12) (d := 83) (by rfl) (hall ⟨12, .guard⟩ (by simp) rfl) : A.tmps[83]? = some (.bool false))).trans rfl, ?_⟩, ?_⟩
                        · have e4 := hI.evo (d := 4) (by kernel_rfl) rfl
                          have HS := hI.st
                          clear hI hall hcl
                          have HS := qhid HS
                          unfold Reg.Yields
                          go_simp
                          first | exact ⟨rfl, HS.out.keep (by decide)⟩ | (refine ⟨?_, HS.out.keep (by decide)⟩; simp [clT2]; done)
                        refine ⟨fun listed A X hI hcl hin hun hall => .inl ⟨(Reg.wanted_some (j := 12) (d := 83) rfl rfl (hI.ev (i := 12) (d := 83) (by rfl) (hall ⟨12, .guard⟩ (by simp) rfl) : A.tmps[83]? = some (.bool false))).trans rfl, ?_⟩, ?_⟩
                        · have e7 := hI.evo (d := 7) (by kernel_rfl) rfl
                          have HS := hI.st
                          clear hI hall hcl
                          have HS := qhid HS
                          unfold Reg.Yields
                          go_simp
                          first | exact ⟨rfl, HS.out.keep (by decide)⟩ | (refine ⟨?_, HS.out.keep (by decide)⟩; simp [clT2]; done)
                        refine ⟨fun listed A X hI hcl hin hun hall => .inl ⟨(Reg.wanted_some (j := 12) (d := 83) rfl rfl (hI.ev (i := 12) (d := 83) (by rfl) (hall ⟨12, .guard⟩ (by simp) rfl) : A.tmps[83]? = some (.bool false))).trans rfl, ?_⟩, ?_⟩
                        · have e84 : A.tmps[84]? = some (.slice (some ⟨ob2, 0, none⟩) i i) := hI.ev (i := 13) (d := 84) (by rfl) (hall ⟨13, .data⟩ (by simp) rfl)
                          have e85 : A.tmps[85]? = some (.int .i64 (v : Int)) := hI.ev (i := 14) (d := 85) (by rfl) (hall ⟨14, .data⟩ (by simp) rfl)
                          have HS := hI.st
                          clear hI hall hcl
                          have HS := qhid HS
                          unfold Reg.Yields
                          go_simp
                          first | exact ⟨rfl, HS.out.keep (by decide)⟩ | (refine ⟨?_, HS.out.keep (by decide)⟩; simp [clT2]; done)
                        refine ⟨fun listed A X hI hcl hin hun hall => .inl ⟨(Reg.wanted_some (j := 12) (d := 83) rfl rfl (hI.ev (i := 12) (d := 83) (by rfl) (hall ⟨12, .guard⟩ (by simp) rfl) : A.tmps[83]? = some (.bool false))).trans rfl, ?_⟩, ?_⟩
                        · have e86 : A.tmps[86]? = some (.pointer (some ⟨ob2, v, none⟩)) := hI.ev (i := 15) (d := 86) (by rfl) (hall ⟨15, .data⟩ (by simp) rfl)
                          have HS := hI.st
                          obtain rfl := HS.a (Reg.un_of_reach hcl (n := 22) (i := 16) (by kernel_rfl) (by simpa using hun))
                          clear hI hall hcl
                          have HS := qhid HS
                          unfold Reg.Yields
                          go_simp
                          first | exact ⟨rfl, HS.out.keep (by decide)⟩ | (refine ⟨?_, HS.out.keep (by decide)⟩; simp [clT2]; done)
                        refine ⟨fun listed A X hI hcl hin hun hall => .inl ⟨(Reg.wanted_some (j := 12) (d := 83) rfl rfl (hI.ev (i := 12) (d := 83) (by rfl) (hall ⟨12, .guard⟩ (by simp) rfl) : A.tmps[83]? = some (.bool false))).trans rfl, ?_⟩, ?_⟩
                        · have e9 := hI.evo (d := 9) (by kernel_rfl) rfl
                          have HS := hI.st
                          clear hI hall hcl
                          have HS := qhid HS
                          unfold Reg.Yields
                          go_simp
                          first | exact ⟨rfl, HS.out.keep (by decide)⟩ | (refine ⟨?_, HS.out.keep (by decide)⟩; simp [clT2]; done)
                        refine ⟨fun listed A X hI hcl hin hun hall => .inl ⟨(Reg.wanted_some (j := 12) (d := 83) rfl rfl (hI.ev (i := 12) (d := 83) (by rfl) (hall ⟨12, .guard⟩ (by simp) rfl) : A.tmps[83]? = some (.bool false))).trans rfl, ?_⟩, ?_⟩
                        · have e87 : A.tmps[87]? = some (.slice (some ⟨rb2 v, 0, none⟩) i i) := hI.ev (i := 16) (d := 87) (by rfl) (hall ⟨16, .data⟩ (by simp) rfl)
                          have e88 : A.tmps[88]? = some (.int .i64 (k : Int)) := hI.ev (i := 17) (d := 88) (by rfl) (hall ⟨17, .data⟩ (by simp) rfl)
                          have HS := hI.st
                          clear hI hall hcl
                          have HS := qhid HS
                          unfold Reg.Yields
                          go_simp
                          first | exact ⟨rfl, HS.out.keep (by decide)⟩ | (refine ⟨?_, HS.out.keep (by decide)⟩; simp [clT2]; done)
                        refine ⟨fun listed A X hI hcl hin hun hall => .inl ⟨(Reg.wanted_some (j := 12) (d := 83) rfl rfl (hI.ev (i := 12) (d := 83) (by rfl) (hall ⟨12, .guard⟩ (by simp) rfl) : A.tmps[83]? = some (.bool false))).trans rfl, ?_⟩, ?_⟩
                        · have e89 : A.tmps[89]? = some (.pointer (some ⟨rb2 v, k, none⟩)) := hI.ev (i := 18) (d := 89) (by rfl) (hall ⟨18, .data⟩ (by simp) rfl)
                          have HS := hI.st
                          obtain rfl := HS.a (Reg.un_of_reach hcl (n := 22) (i := 19) (by kernel_rfl) (by simpa using hun))
                          clear hI hall hcl
                          have HS := qhid HS
                          unfold Reg.Yields
                          go_simp
                          first | exact ⟨rfl, HS.out.keep (by decide)⟩ | (refine ⟨?_, HS.out.keep (by decide)⟩; simp [clT2]; done)
                        refine ⟨fun listed A X hI hcl hin hun hall => .inl ⟨Reg.wanted_none rfl, ?_⟩, ?_⟩
                        · have e83 : A.tmps[83]? = some (.bool false) := hI.ev (i := 12) (d := 83) (by rfl) (hall ⟨12, .data⟩ (by simp) rfl)
                          have e90 : A.tmps[90]? = some (.bool t2) := hI.ev (i := 19) (d := 90) (by rfl) (hall ⟨19, .data⟩ (by simp) rfl)
                          have HS := hI.st
                          clear hI hall hcl
                          have HS := qhid HS
                          unfold Reg.Yields
                          go_simp
                          first | exact ⟨rfl, HS.out.keep (by decide)⟩ | (refine ⟨?_, HS.out.keep (by decide)⟩; simp [clT2]; done)
                        refine ⟨fun listed A X hI hcl hin hun hall => .inl ⟨Reg.wanted_none rfl, ?_⟩, ?_⟩
                        · have e74 : A.tmps[74]? = some (.slice (some ⟨rb2 x, 0, none⟩) i i) := hI.ev (i := 3) (d := 74) (by rfl) (hall ⟨3, .data⟩ (by simp) rfl)
                          have e75 : A.tmps[75]? = some (.int .i64 (k : Int)) := hI.ev (i := 4) (d := 75) (by rfl) (hall ⟨4, .data⟩ (by simp) rfl)
                          have HS := hI.st
                          clear hI hall hcl
                          have HS := qhid HS
                          unfold Reg.Yields
                          go_simp
                          first | exact ⟨rfl, HS.out.keep (by decide)⟩ | (refine ⟨?_, HS.out.keep (by decide)⟩; simp [clT2]; done)
                        refine ⟨fun listed A X hI hcl hin hun hall => .inl ⟨Reg.wanted_none rfl, ?_⟩, ?_⟩
                        · have e91 : A.tmps[91]? = some (.bool t2) := hI.ev (i := 20) (d := 91) (by rfl) (hall ⟨20, .data⟩ (by simp) rfl)
                          have e92 : A.tmps[92]? = some (.pointer (some ⟨rb2 x, k, none⟩)) := hI.ev (i := 21) (d := 92) (by rfl) (hall ⟨21, .data⟩ (by simp) rfl)
                          have HS := hI.st
                          obtain rfl := HS.a (by simpa using hun)
                          have H2 := qhid (Reg.OneSt.put (Wa := wr.drew) (Wb := (wr.drew.setCell ⟨rb2 x, k, none⟩ (.bool t2))) (i1 := 22) (by simpa using hin))
                          clear hI hall hcl hin hun
                          have HS := qhid HS
                          unfold Reg.Yields
                          go_simp
                          first | exact H2.out | exact ⟨rfl, H2.out⟩
                        trivial
                      · intro X hS
                        obtain rfl := hS.b (by rfl)
                        clear hS
                        simp [Reg.finalTmps, Reg.dstAt, Reg.valOf, clT2]
                        go_wp2_with fail
                        go_roundw
                        case rel => exact ⟨k + 1, hkl, rfl, HPV⟩
                        case measure => simp [intOf]; omega
                · have HTH : Hid (∃ c, ClM w wr ob2 i i c ∧ WaI (Em m) i v (x + 1) 0 c) := qhid ⟨c, ⟨⟨rb2, htb⟩, hbe⟩, hwa.thing hvl (.inl (by omega))⟩
                  clear htb hbe hwa HK c1 c2
                  go_wp2_with fail
                  go_roundw
                  case rel => exact ⟨x + 1, hxl, rfl, HTH⟩
                  case measure => simp [intOf]; omega
            · obtain rfl : x = i := by omega
              have HD : Hid (∃ c, ClM w wr ob2 x x c ∧ WaI (Em m) x (v + 1) 0 0 c) := qhid (by
                obtain ⟨c, hm, hf⟩ := HX.out
                exact ⟨c, hm, hf.done⟩)
              clear HX
              go_wp2_with fail
              go_roundw
              case rel => exact ⟨v + 1, hvl, rfl, HD⟩
              case measure => simp [intOf]; omega
        · obtain rfl : v = i := by omega
          go_wp2_with fail
          go_ret
          obtain ⟨c, hm, hf⟩ := HV.out
          exact ⟨ob2, c, rfl, hm, fun a b ha hb => hf.all (fun u x e => (HBD.out u x e).1) ha hb⟩
end
end Go.Proofs.Ytghfodjefjijdaa
