/- The law QuoteWords, walked. -/
import Derived.Test.YtglbhmhkeegpdaaDoorReadL
import Derived.Test.YtglbhmhkeegpdaaDoorSplitM
import Derived.Test.YtglbhmhkeegpdaaDoorShelf
namespace Go.Proofs.YtglbhmhkeegpdaaDoor
open Go Go.RowKit
attribute [local go_sem ↓] Go.wp_at_zero Go.wp_at_succ
/-- The blanks among the first k bytes. -/
def blk (s : ByteArray) (k : Nat) : Nat := (s.data.toList.take k).count 32
theorem blk_step (s : ByteArray) (k : Nat) (h : k < s.size) : blk s (k + 1) = blk s k + if (s[k]'h).toNat = 32 then 1 else 0 := by
  have h2 : k < s.data.toList.length := by simpa using h
  unfold blk
  rw [List.take_succ_eq_append_getElem h2, List.count_append]
  congr 1
  have e : s.data.toList[k]'h2 = s[k]'h := by rw [Array.getElem_toList]; rfl
  rw [e]
  by_cases hb : s[k]'h = 32
  · rw [hb]; rfl
  · have hb2 : ¬ (s[k]'h).toNat = 32 := fun x => hb (UInt8.toNat_inj.1 x)
    rw [if_neg hb2, List.count_eq_zero]
    intro hm
    exact hb (List.mem_singleton.1 hm).symm
theorem blk_le (s : ByteArray) (k : Nat) : blk s k ≤ k := by
  unfold blk
  exact Nat.le_trans List.count_le_length (List.length_take_le _ _)
theorem join_long (sep : List UInt8) : ∀ (l : List (List UInt8)) (p : List UInt8), p ∈ l → p.length ≤ (Lib.join l sep).length := by
  intro l
  induction l with
  | nil => intro p hp; cases hp
  | cons x r ih =>
    intro p hp
    match r, ih, hp with
    | [], _, hp => rw [List.mem_singleton.1 hp, Lib.join_one]; exact Nat.le_refl _
    | y :: r, ih, hp =>
      rw [join_two, List.length_append, List.length_append]
      rcases List.mem_cons.1 hp with h | h
      · rw [h]; omega
      · have := ih p h; omega
theorem piece_short {s : ByteArray} {n : Nat} {ps : List ByteArray} (h : Pieces s n ps) {p : ByteArray} (hp : p ∈ ps) : p.size ≤ s.size := by
  have h1 := join_long [32] (ps.map (·.data.toList)) p.data.toList (List.mem_map_of_mem hp)
  rw [h.back, Array.length_toList, Array.length_toList] at h1
  exact h1
theorem split_any (s : ByteArray) (w : World) (hsh : w.ShapedOpen Tryd.prog) (hs : s.size < 4294967281) :
    Calls Tryd.prog 14 #[.string s] w fun e w' => ∃ ps : List ByteArray, Pieces s (ps.length - 1) ps ∧ e = .returned (.slice (some ⟨w.heap.size, 0, none⟩) ps.length ps.length) ∧ w' = w.alloc (.cells (ps.map Value.string).toArray 9) := by
  have hP := pieces_of s
  have hC := Tryd.strings_Split_shaped s ⟨#[32]⟩ w hsh hs (by decide)
  have hl := hP.len
  generalize Lib.splitB ⟨#[32]⟩ 0 (Lib.countB s ⟨#[32]⟩) s = ps at *
  generalize Lib.countB s ⟨#[32]⟩ = n at *
  rw [← hl] at hC
  have HC := qhid hC
  have HP : Hid (Pieces s (ps.length - 1) ps) := qhid (by rw [show ps.length - 1 = n by omega]; exact hP)
  clear hP hC hl
  go_enter Tryd.func14, Tryd.ntmps14
  go_wp2_with fail
  refine HC.out.mono ?_
  rintro e w1 ⟨rfl, rfl⟩
  go_wp2_with fail
  go_ret
  exact ⟨ps, HP.out, rfl, rfl⟩
theorem words_any (g : Nat) (s : ByteArray) (ps : List ByteArray) (w : World) (hg : g < w.heap.size) (hp : Pieces s (ps.length - 1) ps) (hs : s.size ≤ 500) (hl : ps.length ≤ 501)
    (hc : ∀ j x, ps[j]? = some x → w.cell? ⟨g, j, none⟩ = some (.string x)) :
    Calls Tryd.prog 15 #[.slice (some ⟨g, 0, none⟩) ps.length ps.length] w fun e w' => e = .returned (.string s) ∧ Below w.heap.size w w' := by
  have hlen : (Lib.join (ps.map (·.data.toList)) (⟨#[32]⟩ : ByteArray).data.toList).length ≤ 140737488355328 := by
    have hb := hp.back
    show (Lib.join (ps.map (·.data.toList)) [32]).length ≤ _
    rw [hb]
    have : s.data.toList.length = s.size := by rw [Array.length_toList]; rfl
    omega
  have hJ := Tryd.strings_Join g 0 ps.length ps ⟨#[32]⟩ w (fun j x h => by rw [Nat.zero_add]; exact hc j x h) hg (by omega) (Nat.le_refl _) hlen
  have he : (⟨(Lib.join (ps.map (·.data.toList)) (⟨#[32]⟩ : ByteArray).data.toList).toArray⟩ : ByteArray) = s := by
    have hb := hp.back
    show (⟨(Lib.join (ps.map (·.data.toList)) [32]).toArray⟩ : ByteArray) = s
    rw [hb]
  rw [he] at hJ
  have HJ := qhid hJ
  clear hJ hc hp hlen he
  go_enter Tryd.func15, Tryd.ntmps15
  go_wp2_with fail
  refine HJ.out.mono ?_
  rintro e w1 ⟨rfl, hb⟩
  have HB := qhid hb
  clear hb
  go_wp2_with fail
  go_ret
  exact ⟨rfl, HB.out⟩
theorem words_none (w : World) :
    Calls Tryd.prog 15 #[.slice none 0 0] w fun e w' => e = .returned (.string ⟨#[]⟩) ∧ w' = w := by
  go_enter Tryd.func15, Tryd.ntmps15
  go_wp2_with fail
  refine (Tryd.strings_Join_none none 0 ⟨#[32]⟩ w).mono ?_
  rintro e w1 ⟨rfl, rfl⟩
  go_wp2_with fail
  go_ret
  exact ⟨rfl, rfl⟩
theorem byte_of (p : ByteArray) (h32 : 32 ∉ p.data.toList) (k : Nat) (h : k < p.size) : (((p[k]'h).toNat : Int) == 32) = false := by
  rw [beq_eq_false_iff_ne]
  intro e
  have e2 : (p[k]'h).toNat = (32 : UInt8).toNat := by show _ = 32; omega
  have e3 := UInt8.toNat_inj.1 e2
  apply h32
  have h2 : k < p.data.toList.length := by simpa using h
  have := List.getElem_mem h2
  rw [Array.getElem_toList] at this
  have e4 : p.data[k]'(by simpa using h) = p[k]'h := rfl
  rw [e4, e3] at this
  exact this
set_option maxRecDepth 100000 in
set_option maxHeartbeats 2000000 in
theorem words_walk (s : ByteArray) (w : World) (hsh : w.ShapedOpen Tryd.prog) :
    Calls Tryd.prog 4 #[.string s] w fun e w' => e = .returned (.bool true) ∧ Below w.heap.size w w' := by
  by_cases h5 : (s.size : Int) > 500
  · go_enter Tryd.func4, Tryd.ntmps4
    go_wp2_with fail
    refine (quote_awake _).mono ?_
    rintro e w1 ⟨rfl, hb⟩
    have HB := qhid hb
    clear hb
    go_wp2_with fail
    go_ret
    exact ⟨rfl, HB.out⟩
  · have hs : s.size ≤ 500 := by omega
    have HS := qhid (split_any s w hsh (by omega))
    clear hsh
    go_enter Tryd.func4, Tryd.ntmps4
    go_wp2_with fail
    refine HS.out.mono ?_
    rintro e w1 ⟨ps, hP, rfl, hw⟩
    have HB1 : Hid (Below w.heap.size w w1) := qhid (by rw [hw]; exact (Below.refl _ _).alloc (Nat.le_refl _) _)
    have HC : Hid (∀ j x, ps[j]? = some x → w1.cell? ⟨w.heap.size, j, none⟩ = some (.string x)) := qhid (by
      intro j x h
      rw [hw]
      have hn := news_new w (ps.map Value.string).toArray 9 j (.string x) (by simp [h])
      rw [show (⟨w.heap.size, 0, none⟩ : Addr).add j = ⟨w.heap.size, j, none⟩ from by unfold Addr.add; split <;> simp_all] at hn
      exact hn)
    have hsz : w.heap.size < w1.heap.size := by rw [hw]; simp
    have hcnt := hP.cnt
    have hlen := hP.len
    have hl5 : ps.length ≤ 501 := by
      have := blk_le s s.size
      unfold blk at this
      rw [List.take_of_length_le (by rw [Array.length_toList]; exact Nat.le_refl _)] at this
      omega
    have hbk : Hid ((blk s s.size : Nat) + 1 = ps.length) := qhid (by
      unfold blk
      rw [List.take_of_length_le (by rw [Array.length_toList]; exact Nat.le_refl _)]
      omega)
    have HP := qhid hP
    clear hw hP hcnt hlen HS
    go_wp2_with fail
    go_loop [4, 5] (fun c i => ∃ k : Nat, k ≤ s.size ∧ i = .int .i64 k ∧ c = .int .i64 (blk s k : Nat)) (fun _ i => s.size - (intOf i).toNat)
    case atStart => exact ⟨0, by omega, rfl, rfl⟩
    case round =>
      obtain ⟨k, hk, rfl, rfl⟩ := hrel
      have hbl := blk_le s k
      by_cases hlt : k < s.size
      · have HST := qhid (blk_step s k hlt)
        by_cases h32 : (s[k]'hlt).toNat = 32
        · have d : (((s[k]'hlt).toNat : Int) == 32) = true := by rw [h32]; rfl
          have H32 := qhid h32
          clear h32
          go_wp2_with fail
          exact ⟨⟨k + 1, by omega, by go_num, by rw [HST.out, if_pos H32.out]; go_num⟩, by simp [intOf]; omega⟩
        · have d : (((s[k]'hlt).toNat : Int) == 32) = false := beq_eq_false_iff_ne.2 (by omega)
          have H32 := qhid h32
          clear h32
          go_wp2_with fail
          exact ⟨⟨k + 1, by omega, by go_num, by rw [HST.out, if_neg H32.out]; rfl⟩, by simp [intOf]; omega⟩
      · have hks : k = s.size := by omega
        subst hks
        go_wp2_with fail
        go_loop [6] (fun i => ∃ j : Nat, j ≤ ps.length ∧ i = .int .i64 j) (fun i => ps.length - (intOf i).toNat)
        case atStart => exact ⟨0, by omega, rfl⟩
        case round =>
          obtain ⟨j, hj, rfl⟩ := hrel
          by_cases hjl : j < ps.length
          · obtain ⟨p, hp⟩ : ∃ p, ps[j]? = some p := ⟨_, List.getElem?_eq_getElem hjl⟩
            have hc := HC.out j p hp
            have hno := qhid (HP.out.no p (List.mem_of_getElem? hp))
            have hps := piece_short HP.out (List.mem_of_getElem? hp)
            have HPJ := qhid hp
            clear hp
            go_wp2_with fail
            go_loop [7] (fun i => ∃ m : Nat, m ≤ p.size ∧ i = .int .i64 m) (fun i => p.size - (intOf i).toNat)
            case atStart => exact ⟨0, by omega, rfl⟩
            case round =>
              obtain ⟨m, hm, rfl⟩ := hrel
              by_cases hml : m < p.size
              · have d := byte_of p hno.out m hml
                go_wp2_with fail
                exact ⟨⟨m + 1, by omega, by go_num⟩, by simp [intOf]; omega⟩
              · go_wp2_with fail
                exact ⟨⟨j + 1, by omega, by go_num⟩, by simp [intOf]; omega⟩
          · have d6 : ((ps.length : Int) == (blk s s.size : Nat) + 1) = true := by rw [beq_iff_eq]; have := hbk.out; omega
            go_wp2_with fail
            refine (words_any w.heap.size s ps w1 hsz HP.out hs hl5 HC.out).mono ?_
            rintro e w2 ⟨rfl, hb⟩
            have HB2 := qhid (HB1.out.trans (hb.mono HB1.out.size))
            clear hb
            go_wp2_with fail
            refine (words_none _).mono ?_
            rintro e w3 ⟨rfl, hw3⟩
            obtain rfl : w2 = w3 := hw3.symm
            go_wp2_with fail
            refine (quote_awake _).mono ?_
            rintro e w4 ⟨rfl, hb⟩
            have HB4 := qhid (HB2.out.trans (hb.mono HB2.out.size))
            clear hb
            go_wp2_with fail
            go_ret
            exact ⟨rfl, HB4.out⟩
end Go.Proofs.YtglbhmhkeegpdaaDoor
