/- Contracts of quote: Write. -/
import Derived.Test.YtglbhmhkeegpdaaDoorQuoteA
import Derived.Maps.AppendAt
import Derived.WalkSmall
namespace Go.Proofs.YtglbhmhkeegpdaaDoor
open Go Go.RowKit
attribute [local go_sem ↓] Go.wp_at_zero Go.wp_at_succ
theorem mk_bytes (n : Nat) (hn : n ≤ 1099511627776) (w : World) : ∃ w', (Instr.makeSlice 66 (.int .i64 0) (.int .i64 (n : Int))).run Tryd.prog w = .ok (.slice (some ⟨w.heap.size, 0, none⟩) 0 n) w' ∧
      w'.ownsRow w.heap.size 5 1 (.slice (some ⟨w.heap.size, 0, none⟩) 0 n) 0 [] ∧ w.grownBy w' none := by
  obtain ⟨i0, hi, hz0, hz1, hz2⟩ := info_parts Tryd.infoU8
  exact run_make_own (P := Tryd.prog) w w.heap.size 66 5 i0 _ 1 Tryd.underlying66 hi hz0 hz1 .i64 .i64 n (by rw [hz2]; omega) (by unfold maxLen; omega) (Nat.le_refl _)
/-- What holds at the head of round k of Write's loop. -/
def WRel (w : World) (l : List Nat) (k : Nat) (v : Value) (wr : World) : Prop := wr.ownsRow w.heap.size 5 1 v (qws (l.take k)).length (vals (qws (l.take k))) ∧ Below w.heap.size w wr
/-- The bytes of a string. -/
def nums (s : ByteArray) : List Nat := s.data.toList.map UInt8.toNat
theorem WRel.start {w w0 : World} {l : List Nat} {v : Value} (h : w0.ownsRow w.heap.size 5 1 v 0 []) (hg : w.grownBy w0 none) : WRel w l 0 v w0 := by
  refine ⟨?_, (Below.refl _ w).grown hg (Nat.le_refl _) (fun k hk => by cases hk)⟩
  simpa [qws, vals] using h
theorem news_new (w : World) (cs : Array Value) (t : TypeId) : ∀ j u, cs.toList[j]? = some u → (w.alloc (.cells cs t)).cell? ((⟨w.heap.size, 0, none⟩ : Addr).add j) = some u := World.news_of_block (heap_alloc_new w _)
theorem one_all (xs : List Int) : ∀ u ∈ vals xs, u.oneCell' = true := by
  intro u hu
  obtain ⟨n, _, rfl⟩ := List.mem_map.1 hu
  rfl
theorem nums_len (s : ByteArray) : (nums s).length = s.size := by
  show (s.data.toList.map UInt8.toNat).length = s.data.size
  rw [List.length_map, Array.length_toList]
theorem belowAppD {w w1 : World} {B : Nat} {e : TypeId} {v : Value} {n sz : Nat} {xs : List Value} {o : Obj} (h : w.ownsRow B e sz v n xs) (hg : (w.alloc o).drew.grownBy w1 v.ownBlock) (hB : B ≤ w.heap.size) : Below B w w1 :=
  (((Below.refl B w).alloc hB o).drew).grown hg (by simp; omega) (fun _ hk => (ownsLt h hk).1)
theorem WRel.next {w wr w2 : World} {l : List Nat} {k m b : Nat} {v v' : Value} {xs : List Int} {news : List Value} (h : WRel w l k v wr) (hb : l[k]? = some b) (hx : qw b = xs) (hnw : news = vals xs) (hm : xs.length = m)
    (ho : w2.ownsRow w.heap.size 5 1 v' ((qws (l.take k)).length + m) (vals (qws (l.take k)) ++ news)) (hg : Below w.heap.size wr w2) : WRel w l (k + 1) v' w2 := by
  have e : l.take (k + 1) = l.take k ++ [b] := by rw [List.take_add_one, hb]; rfl
  refine ⟨?_, h.2.trans hg⟩
  rw [e, qws_snoc, hx, List.length_append, hm]
  subst hnw
  have e2 : vals (qws (l.take k) ++ xs) = vals (qws (l.take k)) ++ vals xs := by simp [vals]
  rw [e2]
  exact ho
theorem WRel.short {w wr : World} {l : List Nat} {k : Nat} {v : Value} (_h : WRel w l k v wr) : (qws (l.take k)).length ≤ 4 * k := by
  have := qws_le (l.take k)
  rw [List.length_take] at this
  omega
theorem nums_at (s : ByteArray) (k : Nat) (hk : k < s.size) : (nums s)[k]? = some (s[k]'hk).toNat := by
  have hk2 : k < s.data.size := hk
  unfold nums
  rw [List.getElem?_map, Array.getElem?_toList, Array.getElem?_eq_getElem hk2]
  rfl
/-- The table of digits. -/
def hexs : ByteArray := ⟨#[48, 49, 50, 51, 52, 53, 54, 55, 56, 57, 97, 98, 99, 100, 101, 102]⟩
theorem hexs_at (p : Nat) (h : p < hexs.size) : ((hexs[p]'h).toNat : Int) = digit p := by
  have hall : ∀ n : Fin 16, ((hexs[n.val]'n.isLt).toNat : Int) = digit n.val := by decide +kernel
  exact hall ⟨p, h⟩
theorem news_hex (w : World) (t : TypeId) (p q : Nat) (hp : p < hexs.size) (hq : q < hexs.size) : ∀ j u, (vals [92, 120, digit p, digit q])[j]? = some u →
    (w.alloc (.cells #[.int .u8 92, .int .u8 120, .int .u8 ((hexs[p]'hp).toNat : Int), .int .u8 ((hexs[q]'hq).toNat : Int)] t)).drew.cell? ((⟨w.heap.size, 0, none⟩ : Addr).add j) = some u := by
  rw [hexs_at, hexs_at]
  exact news_new w _ t
theorem and15 (b : Nat) (h : b < 256) : bits BinOp.and IntKind.u8 (b : Int) 15 = ((b % 16 : Nat) : Int) := by
  have hall : ∀ n : Fin 256, bits BinOp.and IntKind.u8 ((n.val : Nat) : Int) 15 = ((n.val % 16 : Nat) : Int) := by decide +kernel
  exact hall ⟨b, h⟩
set_option maxRecDepth 100000 in
set_option maxHeartbeats 2000000 in
theorem write_any (s : ByteArray) (hn : s.size ≤ 1099511627776) (h0 : s.toList.isEmpty = false) (w : World) :
    Calls Tryd.prog 31 #[.string s] w fun e w' => e = .returned (.string (strOfNums (qws (nums s)))) ∧ Below w.heap.size w w' := by
  have hmk := mk_bytes s.size hn w
  obtain ⟨w0, hmk, hown0, hgr0⟩ := hmk
  have HS := qhid (WRel.start (l := nums s) hown0 hgr0)
  clear hown0 hgr0
  go_enter Tryd.func31, Tryd.ntmps31
  go_wp2_with fail
  clear hmk
  obtain ⟨i0, hi, hz0, hz1, hz2⟩ := info_parts Tryd.infoU8
  go_loopw [3, 13] (fun v i wr => ∃ k : Nat, k ≤ s.size ∧ i = .int .i64 k ∧ WRel w (nums s) k v wr) (fun _ i _ => s.size - (intOf i).toNat)
  case atStart => exact ⟨0, by omega, rfl, HS.out⟩
  case round =>
    obtain ⟨k, hk, rfl, hg⟩ := hrel
    have HG := qhid hg
    clear hg
    by_cases hlt : k < s.size
    · have hat := nums_at s k hlt
      have h256 : (s[k]'hlt).toNat < 256 := (s[k]'hlt).toNat_lt
      have hsh := HG.out.short
      generalize hbb : (s[k]'hlt).toNat = b at *
      have HAT := qhid hat
      clear hat
      by_cases hh : b < 33 ∨ 126 < b
      · have HH := qhid hh
        clear hh
        have e15 := and15 b h256
        have e16 : (b : Int) / 16 = ((b / 16 : Nat) : Int) := rfl
        have hp : b / 16 < 16 := by omega
        have hq : b % 16 < 16 := by omega
        have hw := qhid (show qw b = [92, 120, digit (b / 16), digit (b % 16)] by unfold qw; rw [if_pos HH.out])
        generalize b / 16 = p at *
        generalize b % 16 = q at *
        go_wp2_with fail
        refine (hidden_yes b HH.out _).mono ?_
        rintro e w1 ⟨rfl, rfl⟩
        go_wp2_with fail
        go_region_held3 (fun _ => True) (trivial) ((refine step_append_lies _ (by rfl) (.tmp 26) (.tmp 33) 66 (by rfl) w.heap.size 5 i0 (.int .u8 0) 1 1 Tryd.underlying66 hi hz0 hz1 hz2 rfl (by decide) _ _ _ (by rfl) (ownsAlloc (ownsBelow HG.out.1 (Below.refl _ _).drew) _) ⟨_, 0, none⟩ 4 4 (vals [92, 120, digit p, digit q]) (by rfl) rfl (news_hex wr 5 p q hp hq) (one_all [92, 120, digit p, digit q]) (by omega) (by unfold maxLen; omega) (by omega) (by have := HG.out.2.size; simp; omega) _ rfl ?_; intro g cap w1 hown1 hgrow hat hlt1))
        all_goals
          have HN := qhid (HG.out.next HAT.out hw.out rfl rfl hown1 (belowAppD HG.out.1 hgrow HG.out.2.size))
          clear hown1 hgrow hat hlt1
          first
            | exact ⟨⟨k + 1, by omega, by go_num, HN.out⟩, by simp [intOf]; omega⟩
            | (go_wp2_with fail; exact ⟨⟨k + 1, by omega, by go_num, HN.out⟩, by simp [intOf]; omega⟩)
      · have HH := qhid hh
        have hno : ¬ b < 33 := fun h => hh (.inl h)
        have hno2 : ¬ 126 < b := fun h => hh (.inr h)
        clear hh
        by_cases h92 : b = 92
        · subst h92
          go_wp2_with fail
          refine (hidden_no 92 (by omega) (by omega) _).mono ?_
          rintro e w1 ⟨rfl, rfl⟩
          go_wp2_with (at_builtin; refine wpList_append_own_at _ rfl (.tmp 38) (.tmp 39) 66 rfl w.heap.size 5 i0 (.int .u8 0) 1 1 Tryd.underlying66 hi hz0 hz1 hz2 rfl (by decide) _ _ _ rfl (ownsAlloc HG.out.1 _) ⟨_, 0, none⟩ 2 2 [.int .u8 92, .int .u8 92] rfl rfl (news_new _ _ _) (one_all [92, 92]) (by unfold maxLen; omega) (by omega) (by have := HG.out.2.size; simp; omega) ?_; intro v1 w1a ho hgr _ hat; have HN := qhid (HG.out.next HAT.out (xs := [92, 92]) rfl rfl rfl ho (belowApp HG.out.1 hgr HG.out.2.size)); clear ho hgr hat)
          exact ⟨⟨k + 1, by omega, by go_num, HN.out⟩, by simp [intOf]; omega⟩
        · have d92 : ((b : Int) == 92) = false := by simp; omega
          have hq := qhid (show qw b = [(b : Int)] by unfold qw; rw [if_neg HH.out, if_neg h92])
          go_wp2_with fail
          refine (hidden_no b hno hno2 _).mono ?_
          rintro e w1 ⟨rfl, rfl⟩
          go_wp2_with (at_builtin; refine wpList_append_own_at _ rfl (.tmp 19) (.tmp 21) 66 rfl w.heap.size 5 i0 (.int .u8 0) 1 1 Tryd.underlying66 hi hz0 hz1 hz2 rfl (by decide) _ _ _ rfl (ownsAlloc HG.out.1 _) ⟨_, 0, none⟩ 1 1 [.int .u8 (b : Int)] rfl rfl (news_new _ _ _) (one_all [(b : Int)]) (by unfold maxLen; omega) (by omega) (by have := HG.out.2.size; simp; omega) ?_; intro v1 w1a ho hgr _ hat; have HN := qhid (HG.out.next HAT.out (xs := [(b : Int)]) hq.out rfl rfl ho (belowApp HG.out.1 hgr HG.out.2.size)); clear ho hgr hat)
          exact ⟨⟨k + 1, by omega, by go_num, HN.out⟩, by simp [intOf]; omega⟩
    · have e1 : k = s.size := by omega
      subst e1
      have hall : (nums s).take s.size = nums s := by rw [← nums_len]; exact List.take_length
      have HF := HG.out
      unfold WRel at HF
      rw [hall] at HF
      have hcv := conv_bytes (bytes_of_row HF.1).1
      have HB := qhid HF.2
      clear HG HF
      go_wp2
      go_ret
      exact ⟨rfl, HB.out⟩
theorem write_none (s : ByteArray) (h0 : s.toList.isEmpty = true) (w : World) :
    Calls Tryd.prog 31 #[.string s] w fun e w' => e = .returned (.string ⟨#[92, 101]⟩) ∧ w = w' := by
  go_enter Tryd.func31, Tryd.ntmps31
  go_wp2
  go_ret
  exact ⟨rfl, rfl⟩
end Go.Proofs.YtglbhmhkeegpdaaDoor
