/- Contracts of quote's reader: a word; quote.Read. -/
import Derived.Test.YtglbhmhkeegpdaaDoorReadE
namespace Go.Proofs.YtglbhmhkeegpdaaDoor
open Go Go.RowKit
attribute [local go_sem ↓] Go.wp_at_zero Go.wp_at_succ
/-- Bytes as numbers of the model. -/
def ni (l : List Nat) : List Int := l.map fun (n : Nat) => (n : Int)
theorem ni_snoc (l : List Nat) (b : Nat) : ni (l ++ [b]) = ni l ++ [(b : Int)] := by simp [ni]
/-- What a word tells, or where it can't go on. -/
def wordR (l : List Nat) : Option (List Nat) × Nat :=
  if [92, 101].isPrefixOf l = true then (if l.length = 2 then (some [], 2) else (none, 2)) else wordF l (l.length + 1) 0 []
/-- What holds at the head of a round of word's loop. -/
structure WdRel (w : World) (g : Nat) (s : ByteArray) (k : Nat) (acc : List Nat) (v : Value) (wr : World) : Prop where
  rd : RdAt wr g s k
  gr : w.grownBy wr (some g)
  own : wr.ownsRow w.heap.size 5 1 v acc.length (vals (ni acc))
  on : acc.length ≤ k
  eq : wordF (nums s) (s.size + 1) 0 [] = wordF (nums s) (s.size + 1) k acc
def Word (w : World) (g : Nat) (s : ByteArray) (o : Option (List Nat) × Nat) (e : Ending) (w' : World) : Prop :=
  (match o.1 with
  | none => e = .returned (.tuple #[.string ⟨#[]⟩, .bool false])
  | some l => e = .returned (.tuple #[.string (strOfNums (ni l)), .bool true])) ∧ Rd w w' g s o.2
theorem below_drewN {B : Nat} {a w : World} (h : Below B a w) (n : Nat) : Below B a (w.drewN n) := ⟨h.os, h.tape, h.output, h.size, h.block⟩
theorem ownsNe {w wr : World} {g : Nat} {v : Value} {n : Nat} {xs : List Value} {e : TypeId} (h : wr.ownsRow w.heap.size e 1 v n xs) (hg : g < w.heap.size) : ∀ b, v.ownBlock = some b → (some g : Option Nat) ≠ some b := by
  intro b hb e
  have := (ownsLt h hb).1
  injection e with e
  omega
theorem WdRel.took {w wr w1 : World} {g k k' : Nat} {s : ByteArray} {acc : List Nat} {v : Value} (hg : g < w.heap.size) (h : WdRel w g s k acc v wr) (hr : Rd wr w1 g s k') :
    RdAt w1 g s k' ∧ w.grownBy w1 (some g) ∧ w1.ownsRow w.heap.size 5 1 v acc.length (vals (ni acc)) :=
  ⟨hr.1, only_trans h.gr hr.2, ownsKeep h.own hr.2 (ownsNe h.own hg)⟩
theorem grown_app {w wr w1 : World} {g : Nat} {v : Value} {n : Nat} {xs : List Value} {o : Obj} {e : TypeId} (hr : w.grownBy wr (some g)) (h : wr.ownsRow w.heap.size e 1 v n xs) (hg : (wr.alloc o).grownBy w1 v.ownBlock) : w.grownBy w1 (some g) :=
  ⟨hg.os.trans hr.os, hg.tape.trans hr.tape, hg.output.trans hr.output, Nat.le_trans hr.size (Nat.le_trans (by simp) hg.size), fun i hi hne => by
    rw [hg.block i (by have := hr.size; simp; omega) (fun e => by have := (ownsLt h e.symm).1; omega), Below.heap_alloc wr o i (Nat.lt_of_lt_of_le hi hr.size)]
    exact hr.block i hi hne⟩
theorem rd_grown {wr w1 : World} {g k : Nat} {s : ByteArray} {v : Value} {o : Obj} (h : RdAt wr g s k) (hg : (wr.alloc o).grownBy w1 v.ownBlock) (hne : some g ≠ v.ownBlock) : RdAt w1 g s k := by
  have hb : w1.heap[g]? = (wr.alloc o).heap[g]? := hg.block g (by have := h.lt; simp; omega) hne
  have h2 := rd_alloc h o
  exact ⟨(World.cell?_of_block hb).trans h2.c0, (World.cell?_of_block hb).trans h2.c1, (World.frozen?_of_block hb).trans h2.fz, by have := hg.size; have := h2.lt; omega⟩
/-- How many bytes are left. -/
def left (g : Nat) (s : ByteArray) (w : World) : Nat := match w.cell? ⟨g, 0, none⟩ with
  | some (.int .i64 z) => s.size + 1 - z.toNat
  | _ => 0
theorem left_eq {w : World} {g k : Nat} {s : ByteArray} (h : RdAt w g s k) : left g s w = s.size + 1 - k := by
  unfold left; rw [h.c0]; simp
/-- What is left when a byte has been taken and appended. -/
structure App (w : World) (g : Nat) (s : ByteArray) (k : Nat) (acc : List Nat) (v : Value) (wr : World) : Prop where
  rd : RdAt wr g s k
  gr : w.grownBy wr (some g)
  own : wr.ownsRow w.heap.size 5 1 v acc.length (vals (ni acc))
  on : acc.length ≤ k
theorem WdRel.app {w wr w1 w2 : World} {g k k' b : Nat} {s : ByteArray} {acc : List Nat} {v v1 : Value} {o : Obj} (h : WdRel w g s k acc v wr) (hg : g < w.heap.size) (hr : Rd wr w1 g s k')
    (ho : w2.ownsRow w.heap.size 5 1 v1 (acc.length + 1) (vals (ni acc) ++ [.int .u8 (b : Int)])) (hgr : (w1.alloc o).grownBy w2 v.ownBlock) (hk : acc.length + 1 ≤ k') : App w g s k' (acc ++ [b]) v1 w2 := by
  have T := h.took hg hr
  refine ⟨rd_grown T.1 hgr (fun e => ownsNe h.own hg g e.symm rfl), grown_app T.2.1 T.2.2 hgr, ?_, by simpa using hk⟩
  rw [List.length_append, ni_snoc, vals_snoc]
  exact ho
set_option maxHeartbeats 2000000 in
theorem word_any (g : Nat) (s : ByteArray) (hs : s.size ≤ 1099511627776) (w : World) (h : RdAt w g s 0) :
    Calls Tryd.prog 46 #[.pointer (some ⟨g, 0, none⟩)] w (Word w g s (wordR (nums s))) := by
  have hlt := h.lt
  cases hp : [92, 101].isPrefixOf (nums s) with
  | true =>
    have h2 : 2 ≤ s.size := by
      have := (List.isPrefixOf_iff_prefix.1 hp).length_le
      rw [nums_len] at this; exact this
    have hH := hasPrefix_any s ⟨#[92, 101]⟩ w
    rw [show nums ⟨#[92, 101]⟩ = [92, 101] from rfl, hp] at hH
    have HH := qhid hH
    have HS := qhid (step_any g 2 2 s 0 (by omega) w h rfl)
    have HRd := fun w' (e : w' = w.setCell ⟨g, 0, none⟩ (.int .i64 (((0 : Nat) : Int) + (2 : Nat)))) => Rd.of (w' := w') (j := 2) h 0 e
    have HRd := qhid HRd
    by_cases he : s.size = 2
    · have e0 : wordR (nums s) = (some [], 2) := by unfold wordR; rw [if_pos hp, if_pos (by rw [nums_len]; exact he)]
      rw [e0]
      have he := qhid he
      obtain ⟨c0, c1, fz, _⟩ := h
      clear hH hp e0
      go_enter Tryd.func46, Tryd.ntmps46
      go_wp2_with fail
      refine HH.out.mono ?_
      rintro e w1 ⟨rfl, rfl⟩
      go_wp2_with fail
      refine HS.out.mono ?_
      rintro e w2 ⟨rfl, hw⟩
      have HR := qhid (HRd.out _ hw)
      clear hw
      go_wp2_with fail
      refine (ended_yes g s w2 (by rw [he.out]; exact HR.out.1)).mono ?_
      rintro e w3 ⟨rfl, n, rfl⟩
      go_wp2_with fail
      go_ret2
      exact ⟨rfl, only_rd HR.out.1 n, only_drewN HR.out.2 n⟩
    · have e0 : wordR (nums s) = (none, 2) := by unfold wordR; rw [if_pos hp, if_neg (by rw [nums_len]; exact he)]
      rw [e0]
      have he := qhid he
      obtain ⟨c0, c1, fz, _⟩ := h
      clear hH hp e0
      go_enter Tryd.func46, Tryd.ntmps46
      go_wp2_with fail
      refine HH.out.mono ?_
      rintro e w1 ⟨rfl, rfl⟩
      go_wp2_with fail
      refine HS.out.mono ?_
      rintro e w2 ⟨rfl, hw⟩
      have HR := qhid (HRd.out _ hw)
      clear hw
      go_wp2_with fail
      refine (ended_no g s 2 w2 HR.out.1 (fun e => he.out e.symm)).mono ?_
      rintro e w3 ⟨rfl, n, rfl⟩
      go_wp2_with fail
      go_ret2
      exact ⟨rfl, only_rd HR.out.1 n, only_drewN HR.out.2 n⟩
  | false =>
    have e0 : wordR (nums s) = wordF (nums s) (s.size + 1) 0 [] := by unfold wordR; rw [hp, if_neg (by decide), nums_len]
    rw [e0]
    have hH := hasPrefix_any s ⟨#[92, 101]⟩ w
    rw [show nums ⟨#[92, 101]⟩ = [92, 101] from rfl, hp] at hH
    have HH := qhid hH
    have HW0 : Hid (WdRel w g s 0 [] (.slice none 0 0) w) := qhid ⟨h, only_refl _ _, World.ownsRow_nil _ _ _ _, by simp, rfl⟩
    have c1 := h.c1
    clear hH hp e0 h
    obtain ⟨i0, hi, hz0, hz1, hz2⟩ := info_parts Tryd.infoU8
    go_enter Tryd.func46, Tryd.ntmps46
    go_wp2_with fail
    refine HH.out.mono ?_
    rintro e w1 ⟨rfl, hw⟩
    obtain rfl : w = w1 := hw.symm
    go_wp2_with fail
    go_loopw [4] (fun v wr => ∃ (k : Nat) (acc : List Nat), k ≤ s.size ∧ WdRel w g s k acc v wr) (fun _ wr => left g s wr)
    case atStart => exact ⟨0, [], by omega, HW0.out⟩
    case round =>
      obtain ⟨k, acc, hk, hrel⟩ := hrel
      have HG := qhid hrel
      have HL := qhid (left_eq hrel.rd)
      clear hrel
      have HO := one_any g s hs k _ HG.out.rd hk
      rcases ho : oneF (nums s) k with ⟨_ | b, k'⟩
      · rw [ho] at HO
        have HO := qhid HO
        have HF := qhid (show wordF (nums s) (s.size + 1) k acc = (none, k') by unfold wordF; rw [ho])
        clear ho
        go_wp2_with fail
        refine HO.out.mono ?_
        rintro e w1 ⟨rfl, hr⟩
        have HR := qhid hr
        clear hr
        go_wp2_with fail
        go_ret2
        rw [HG.out.eq, HF.out]
        exact ⟨rfl, HR.out.1, only_trans HG.out.gr HR.out.2⟩
      · rw [ho] at HO
        have HO := qhid HO
        have hon := one_on ho
        rw [nums_len] at hon
        have hacc := HG.out.on
        by_cases he : k' = s.size
        · have HF := qhid (show wordF (nums s) (s.size + 1) k acc = (some (acc ++ [b]), k') by unfold wordF; rw [ho]; dsimp only; rw [if_pos (by rw [nums_len]; exact he)])
          have HE := qhid he
          clear ho he
          go_wp2_with fail
          refine HO.out.mono ?_
          rintro e w1 ⟨rfl, hr⟩
          have HR := qhid hr
          clear hr
          go_wp2_with (at_builtin; refine wpList_append_own_at _ rfl (.tmp 25) (.tmp 27) 66 rfl w.heap.size 5 i0 (.int .u8 0) 1 1 Tryd.underlying66 hi hz0 hz1 hz2 rfl (by decide) _ _ _ rfl (ownsAlloc (HG.out.took hlt HR.out).2.2 _) ⟨_, 0, none⟩ 1 1 [.int .u8 (b : Int)] rfl rfl (news_new _ _ _) (one_all [(b : Int)]) (by unfold maxLen; omega) (by omega) (by have := HG.out.gr.size; have := HR.out.2.size; simp; omega) ?_; intro v1 w1a ho hgr _ hat; have HN := qhid (HG.out.app hlt HR.out ho hgr (by omega)); clear ho hgr hat)
          refine (ended_yes g s w1a (by rw [← HE.out]; exact HN.out.rd)).mono ?_
          rintro e w3 ⟨rfl, n, rfl⟩
          have hcv : (convert 66 9 v1).run Tryd.prog (w1a.drewN n) = .ok (.string (strOfNums (ni (acc ++ [b])))) (w1a.drewN n) :=
            conv_bytes ((bytes_of_row (by have := HN.out.own; rw [show (acc ++ [b]).length = (ni (acc ++ [b])).length from by simp [ni]] at this; exact this)).1)
          go_wp2_with fail
          go_ret2
          rw [HG.out.eq, HF.out]
          exact ⟨rfl, only_rd HN.out.rd n, only_drewN HN.out.gr n⟩
        · have HF := qhid (show wordF (nums s) (s.size + 1) k acc = wordF (nums s) s.size k' (acc ++ [b]) by
            rw [wordF, ho]; dsimp only; rw [if_neg (by rw [nums_len]; exact he)])
          have HE := qhid he
          clear ho he
          go_wp2_with fail
          refine HO.out.mono ?_
          rintro e w1 ⟨rfl, hr⟩
          have HR := qhid hr
          clear hr
          go_wp2_with (at_builtin; refine wpList_append_own_at _ rfl (.tmp 25) (.tmp 27) 66 rfl w.heap.size 5 i0 (.int .u8 0) 1 1 Tryd.underlying66 hi hz0 hz1 hz2 rfl (by decide) _ _ _ rfl (ownsAlloc (HG.out.took hlt HR.out).2.2 _) ⟨_, 0, none⟩ 1 1 [.int .u8 (b : Int)] rfl rfl (news_new _ _ _) (one_all [(b : Int)]) (by unfold maxLen; omega) (by omega) (by have := HG.out.gr.size; have := HR.out.2.size; simp; omega) ?_; intro v1 w1a ho hgr _ hat; have HN := qhid (HG.out.app hlt HR.out ho hgr (by omega)); clear ho hgr hat)
          refine (ended_no g s k' w1a HN.out.rd HE.out).mono ?_
          rintro e w3 ⟨rfl, n, rfl⟩
          have HT : Hid (WdRel w g s k' (acc ++ [b]) v1 (w1a.drewN n)) := qhid ⟨only_rd HN.out.rd n, only_drewN HN.out.gr n, HN.out.own, HN.out.on, by
            rw [HG.out.eq, HF.out]; exact wordF_fuel _ _ _ _ (by rw [nums_len]; omega) (by rw [nums_len]; omega)⟩
          go_wp2_with fail
          have hl2 := left_eq HT.out.rd
          have hl1 := HL.out
          refine ⟨⟨k', acc ++ [b], by omega, HT.out⟩, ?_⟩
          rw [hl2, hl1]
          omega
/-- What Read answers, and leaves. -/
def ReadsTo (w : World) (o : Option (List Nat) × Nat) (e : Ending) (w' : World) : Prop :=
  (match o.1 with
  | none => e = .returned (.tuple #[.string ⟨#[]⟩, .int .i64 (o.2 : Int), .int .i64 4])
  | some l => e = .returned (.tuple #[.string (strOfNums (ni l)), .int .i64 (l.length : Int), .int .i64 0])) ∧ Below w.heap.size w w'
theorem below_read {w w' : World} {o : Obj} (h : (w.alloc o).grownBy w' (some w.heap.size)) : Below w.heap.size w w' :=
  ((Below.refl _ w).alloc (Nat.le_refl _) o).grown h (by simp) (fun k hk => by injection hk with hk; omega)
theorem ni_len (l : List Nat) : (ni l).length = l.length := by simp [ni]
set_option maxHeartbeats 1000000 in
theorem read_any (s : ByteArray) (hs : s.size ≤ 1099511627776) (w : World) :
    Calls Tryd.prog 30 #[.string s] w (ReadsTo w (wordR (nums s))) := by
  have HR0 : RdAt (w.alloc (.cells #[.int .i64 0, .string s] 89)) w.heap.size s 0 := ⟨by simp, by simp, by simp, by simp⟩
  have HW := qhid (word_any w.heap.size s hs _ HR0)
  rcases ho : wordR (nums s) with ⟨_ | l, k'⟩
  · rw [ho] at HW
    have HW := qhid HW.out
    clear ho HR0
    go_enter Tryd.func30, Tryd.ntmps30
    go_wp2_with fail
    refine HW.out.mono ?_
    rintro e w1 ⟨rfl, hr⟩
    have c0 := hr.1.c0
    have HB := qhid (below_read hr.2)
    clear hr
    go_wp2_with fail
    go_quiet (fail)
    go_wp2_with fail
    refine bodyPost_ret (v := .tuple #[.string ⟨#[]⟩, .int .i64 (k' : Int), .int .i64 4]) (by simp [results, Tryd.results30, go_sem]) rfl ⟨rfl, ?_⟩
    exact below_drewN HB.out _
  · rw [ho] at HW
    have HW := qhid HW.out
    have hsz : (strOfNums (ni l)).size = l.length := by rw [strOfNums_size, ni_len]
    clear ho HR0
    go_enter Tryd.func30, Tryd.ntmps30
    go_wp2_with fail
    refine HW.out.mono ?_
    rintro e w1 ⟨rfl, hr⟩
    have HB := qhid (below_read hr.2)
    clear hr
    go_wp2_with fail
    refine bodyPost_ret (v := .tuple #[.string (strOfNums (ni l)), .int .i64 (l.length : Int), .int .i64 0]) (by simp [results, Tryd.results30, go_sem]) rfl ⟨rfl, ?_⟩
    exact HB.out
end Go.Proofs.YtglbhmhkeegpdaaDoor
