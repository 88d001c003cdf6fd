/- Contracts: a set's bytes as a list, the least one by the document's answer, and lists of bytes held against one another. -/
import Derived.Test.YtcpdobldconnaaaDoorTzB
import Derived.Test.YtcpdobldconnaaaDoorOwn
import Derived.Laws.BytesArg
import Derived.OwnWalk
namespace Go.Proofs.YtcpdobldconnaaaDoor
open Go Go.RowKit
attribute [local go_sem ↓] Go.wp_at_zero Go.wp_at_succ
attribute [local go_sem] eq4
theorem hasW_at {a b c d : Int} (fa : Fit a) (fb : Fit b) (fc : Fit c) (fd : Fit d) (n : Nat) : hasW a b c d (n : Int) = memb a b c d n := by
  have e1 : ((n : Int) % 64).toNat = n % 64 := by omega
  unfold hasW memb
  rw [hs_bit a _ fa, hs_bit b _ fb, hs_bit c _ fc, hs_bit d _ fd, e1]
  have q : (n : Int) / 64 = ((n / 64 : Nat) : Int) := by omega
  rw [q]
  by_cases c0 : n / 64 = 0
  · simp [c0]
  · by_cases c1 : n / 64 = 1
    · simp [c1]
    · by_cases c2 : n / 64 = 2
      · simp [c2]
      · have d0 : ¬ ((n / 64 : Nat) : Int) = 0 := by omega
        have d1 : ¬ ((n / 64 : Nat) : Int) = 1 := by omega
        have d2 : ¬ ((n / 64 : Nat) : Int) = 2 := by omega
        rw [if_neg d0, if_neg d1, if_neg d2, if_neg c0, if_neg c1, if_neg c2]
/-- Those of the first k bytes of which f holds. -/
def lst (f : Nat → Bool) (k : Nat) : List Int := ((List.range k).filter f).map fun (n : Nat) => (n : Int)
theorem lst_yes {f : Nat → Bool} {k : Nat} (h : f k = true) : lst f (k + 1) = lst f k ++ [(k : Int)] := by
  unfold lst; rw [List.range_succ, List.filter_append, List.map_append]; simp [h]
theorem lst_no {f : Nat → Bool} {k : Nat} (h : f k = false) : lst f (k + 1) = lst f k := by
  unfold lst; rw [List.range_succ, List.filter_append, List.map_append]; simp [h]
theorem lst_le (f : Nat → Bool) (k : Nat) : (lst f k).length ≤ k := by
  unfold lst; rw [List.length_map]; have := List.length_filter_le f (List.range k); simpa using this
theorem lst_congr {f g : Nat → Bool} {k : Nat} (h : ∀ n, n < k → f n = g n) : lst f k = lst g k := by
  unfold lst
  congr 1
  exact List.filter_congr fun n hn => h n (List.mem_range.1 hn)
def vals (l : List Int) : List Value := l.map (Value.int .u8)
/-- A slice of bytes that the call has made. -/
def BytesAt (w : World) (v : Value) (xs : List Int) : Prop :=
  (v = .slice none 0 0 ∧ xs = []) ∨ ∃ g cap, v = .slice (some ⟨g, 0, none⟩) xs.length cap ∧ g < w.heap.size ∧ ∀ i, i < xs.length → w.cell? ⟨g, i, none⟩ = some (.int .u8 (xs.getD i 0))
theorem BytesAt.below {B : Nat} {w w' : World} {v : Value} {xs : List Int} (h : BytesAt w v xs) (hb : Below B w w') (hB : w.heap.size ≤ B) : BytesAt w' v xs := by
  rcases h with h | ⟨g, cap, hv, hg, hc⟩
  · exact .inl h
  · exact .inr ⟨g, cap, hv, Nat.lt_of_lt_of_le hg hb.size, fun i hi => (hb.cell (p := ⟨g, i, none⟩) (by show g < B; omega)).trans (hc i hi)⟩
theorem bytes_of_row {w : World} {B n : Nat} {v : Value} {xs : List Int} (h : w.ownsRow B 5 1 v n (vals xs)) : BytesAt w v xs ∧ n = xs.length := by
  have hl : n = xs.length := by have := h.1; simp [vals] at this; exact this.symm
  refine ⟨?_, hl⟩
  rcases h.2 with ⟨rfl, rfl⟩ | ⟨g, cap, cur, rfl, _, hh, hn, _, hs, ht⟩
  · exact .inl ⟨rfl, List.length_eq_zero_iff.1 hl.symm⟩
  · refine .inr ⟨g, cap, by rw [hl], sizeOfGet hh, fun i hi => ?_⟩
    rw [Joins.cell_of_block hh i]
    have e : cur.toList[i]? = (vals xs)[i]? := by
      rw [← ht, List.getElem?_take]; simp [hl, hi]
    rw [← Array.getElem?_toList, e]
    unfold vals
    rw [List.getElem?_map, List.getElem?_eq_getElem hi]
    simp [List.getD_eq_getElem?_getD, hi]
theorem conv_bytes {w : World} {v : Value} {xs : List Int} (h : BytesAt w v xs) : (convert 22 9 v).run Tryd.prog w = .ok (.string (strOfNums xs)) w := by
  rcases h with ⟨rfl, rfl⟩ | ⟨g, cap, rfl, _, hc⟩
  · exact run_convert_bytes_nil (P := Tryd.prog) w 22 5 Tryd.underlying22 Tryd.underlying5 0 0 9 Tryd.underlying9
  · exact run_convert_bytes_arg (P := Tryd.prog) w 22 5 Tryd.underlying22 Tryd.underlying5 g 0 xs.length cap xs rfl (fun i hi => by rw [Nat.zero_add]; exact hc i hi) 9 Tryd.underlying9
theorem refbytes_same {w : World} {u v : Value} {xs : List Int} (hu : BytesAt w u xs) (hv : BytesAt w v xs) :
    Calls Tryd.prog 14 #[u, v] w fun e w' => e = .returned (.bool true) ∧ w = w' := by
  have k1 := conv_bytes hu
  have k2 := conv_bytes hv
  clear hu hv
  go_enter Tryd.func14, Tryd.ntmps14
  go_wp2
  go_ret
  exact ⟨rfl, rfl⟩
theorem Tryd.infoU8 : (Tryd.prog.info? 5).map (fun i => (i.zero, i.size, i.bytes)) = some (some (.int .u8 0), 1, 1) := by kernel_rfl
theorem one_u8 (n : Int) : ∀ u ∈ [Value.int .u8 n], u.oneCell' = true := by
  intro u hu
  obtain rfl : u = .int .u8 n := by simpa using hu
  rfl
theorem vals_snoc (l : List Int) (n : Int) : vals (l ++ [n]) = vals l ++ [.int .u8 n] := by simp [vals]
/-- What holds at the head of round k of a loop that gathers bytes. -/
def GRel (w : World) (B : Nat) (f : Nat → Bool) (k : Nat) (v : Value) (wr : World) : Prop := wr.ownsRow B 5 1 v (lst f k).length (vals (lst f k)) ∧ Below B w wr
theorem GRel.no {w : World} {B : Nat} {f : Nat → Bool} {k : Nat} {v : Value} {wr w1 : World} (h : GRel w B f k v wr) (hf : f k = false) (hb : Below wr.heap.size wr w1) (hB : B ≤ wr.heap.size) : GRel w B f (k + 1) v w1 := by
  refine ⟨?_, h.2.trans (hb.mono hB)⟩
  rw [lst_no hf]
  exact ownsBelow h.1 hb
theorem GRel.yes {w : World} {B : Nat} {f : Nat → Bool} {k : Nat} {v v' : Value} {wr w1 w2 : World} {o : Obj} (h : GRel w B f k v wr) (hf : f k = true) (hb : Below wr.heap.size wr w1) (hB : B ≤ wr.heap.size)
    (ho : w2.ownsRow B 5 1 v' ((lst f k).length + 1) (vals (lst f k) ++ [.int .u8 (k : Int)])) (hg : (w1.alloc o).grownBy w2 v.ownBlock) : GRel w B f (k + 1) v' w2 := by
  refine ⟨?_, h.2.trans ((hb.mono hB).trans (belowApp (ownsBelow h.1 hb) hg (Nat.le_trans hB hb.size)))⟩
  rw [lst_yes hf, vals_snoc, List.length_append]
  exact ho
set_option maxRecDepth 100000 in
set_option maxHeartbeats 2000000 in
theorem list_any (a b c d : Int) (w : World) (fa : Fit a) (fb : Fit b) (fc : Fit c) (fd : Fit d) :
    Calls Tryd.prog 15 #[.agg #[.int .u64 a, .int .u64 b, .int .u64 c, .int .u64 d]] w fun e w' => ∃ v, e = .returned v ∧ BytesAt w' v (lst (memb a b c d) 256) ∧ Below w.heap.size w w' := by
  obtain ⟨i0, hi, hz0, hz1, hz2⟩ := info_parts Tryd.infoU8
  go_enter Tryd.func15, Tryd.ntmps15
  go_wp2_with fail
  have c0 : (w.alloc (.cells #[.int .u64 a, .int .u64 b, .int .u64 c, .int .u64 d] 27)).cell? ⟨w.heap.size, 0, none⟩ = some (.int .u64 a) := by simp [go_sem]
  have c1 : (w.alloc (.cells #[.int .u64 a, .int .u64 b, .int .u64 c, .int .u64 d] 27)).cell? ⟨w.heap.size, 1, none⟩ = some (.int .u64 b) := by simp [go_sem]
  have c2 : (w.alloc (.cells #[.int .u64 a, .int .u64 b, .int .u64 c, .int .u64 d] 27)).cell? ⟨w.heap.size, 2, none⟩ = some (.int .u64 c) := by simp [go_sem]
  have c3 : (w.alloc (.cells #[.int .u64 a, .int .u64 b, .int .u64 c, .int .u64 d] 27)).cell? ⟨w.heap.size, 3, none⟩ = some (.int .u64 d) := by simp [go_sem]
  have hWB := below1 w (.cells #[.int .u64 a, .int .u64 b, .int .u64 c, .int .u64 d] 27)
  have hWs : (w.alloc (.cells #[.int .u64 a, .int .u64 b, .int .u64 c, .int .u64 d] 27)).heap.size = w.heap.size + 1 := by simp
  generalize w.alloc (.cells #[.int .u64 a, .int .u64 b, .int .u64 c, .int .u64 d] 27) = W at *
  have HC := hid (And.intro c0 (And.intro c1 (And.intro c2 c3)))
  have HWB := hid hWB
  have HWS := hid hWs
  clear c0 c1 c2 c3 hWB hWs
  go_loopw [3, 5] (fun v i wr => ∃ k : Nat, k ≤ 256 ∧ i = .int .i64 k ∧ GRel W (w.heap.size + 1) (memb a b c d) k v wr) (fun _ i _ => 256 - (intOf i).toNat)
  case atStart => exact ⟨0, by omega, rfl, World.ownsRow_nil W (w.heap.size + 1) 5 1, Below.refl _ _⟩
  case round =>
    obtain ⟨k, hk, rfl, hg⟩ := hrel
    have HG := hid hg
    have hsz : w.heap.size + 1 ≤ wr.heap.size := by have := hg.2.size; have := HWS.out; omega
    clear hg
    by_cases hlt : k < 256
    · have d0 := (HG.out.2.cell (p := ⟨w.heap.size, 0, none⟩) (Nat.lt_succ_self _)).trans HC.out.1
      have d1 := (HG.out.2.cell (p := ⟨w.heap.size, 1, none⟩) (Nat.lt_succ_self _)).trans HC.out.2.1
      have d2 := (HG.out.2.cell (p := ⟨w.heap.size, 2, none⟩) (Nat.lt_succ_self _)).trans HC.out.2.2.1
      have d3 := (HG.out.2.cell (p := ⟨w.heap.size, 3, none⟩) (Nat.lt_succ_self _)).trans HC.out.2.2.2
      have hu8 : IntKind.u8.wrap (k : Int) = (k : Int) := by simp [IntKind.wrap, IntKind.signed, IntKind.bits]; omega
      have hll := lst_le (memb a b c d) k
      cases hm : memb a b c d k
      · have HM := hid hm
        clear hm
        go_wp2_with fail
        refine (has_any a b c d k _ (by omega) (by omega)).mono ?_
        rintro e w1 ⟨rfl, hb1⟩
        rw [hasW_at fa fb fc fd, HM.out]
        have HN := hid (HG.out.no HM.out hb1 hsz)
        clear hb1 d0 d1 d2 d3
        go_wp2_with fail
        exact ⟨⟨k + 1, by omega, by go_num, HN.out⟩, by simp [intOf]; omega⟩
      · have HM := hid hm
        clear hm
        go_wp2_with fail
        refine (has_any a b c d k _ (by omega) (by omega)).mono ?_
        rintro e w1 ⟨rfl, hb1⟩
        rw [hasW_at fa fb fc fd, HM.out]
        have hs1 := hb1.size
        have HB1 := hid hb1
        clear hb1 d0 d1 d2 d3
        go_wp2_with (at_builtin; refine wpList_append_own_at _ rfl (.tmp 12) (.tmp 15) 22 rfl (w.heap.size + 1) 5 i0 (.int .u8 0) 1 1 Tryd.underlying22 hi hz0 hz1 hz2 rfl (by decide) _ _ _ rfl (ownsAlloc (ownsBelow HG.out.1 HB1.out) _) ⟨_, 0, none⟩ 1 1 _ rfl rfl (cell_one_new _ _ _) (one_u8 _) (by unfold maxLen; omega) (by omega) (by simp; omega) ?_; intro v1 w1a ho hgr _ hat; have HN := hid (HG.out.yes HM.out HB1.out hsz ho hgr); clear ho hgr hat)
        exact ⟨⟨k + 1, by omega, by go_num, HN.out⟩, by simp [intOf]; omega⟩
    · have e1 : k = 256 := by omega
      subst e1
      have HF := hid (And.intro (bytes_of_row HG.out.1).1 (HWB.out.trans (HG.out.2.mono (by omega))))
      clear HG
      go_wp2
      go_ret
      exact ⟨_, rfl, HF.out.1, HF.out.2⟩
/-- The least byte by the document's answer: -1, if there is none. -/
def RefFirstIs (f : Nat → Bool) (z : Int) : Prop := ((∀ n, n < 256 → f n = false) ∧ z = -1) ∨ ∃ n : Nat, n < 256 ∧ f n = true ∧ (∀ i, i < n → f i = false) ∧ z = n
set_option maxRecDepth 100000 in
set_option maxHeartbeats 2000000 in
theorem reffirst_any (a b c d : Int) (w : World) (fa : Fit a) (fb : Fit b) (fc : Fit c) (fd : Fit d) :
    Calls Tryd.prog 11 #[.agg #[.int .u64 a, .int .u64 b, .int .u64 c, .int .u64 d]] w fun e w' => ∃ z, e = .returned (.int .i64 z) ∧ RefFirstIs (memb a b c d) z ∧ Below w.heap.size w w' := by
  go_enter Tryd.func11, Tryd.ntmps11
  go_wp2_with fail
  have c0 : (w.alloc (.cells #[.int .u64 a, .int .u64 b, .int .u64 c, .int .u64 d] 27)).cell? ⟨w.heap.size, 0, none⟩ = some (.int .u64 a) := by simp [go_sem]
  have c1 : (w.alloc (.cells #[.int .u64 a, .int .u64 b, .int .u64 c, .int .u64 d] 27)).cell? ⟨w.heap.size, 1, none⟩ = some (.int .u64 b) := by simp [go_sem]
  have c2 : (w.alloc (.cells #[.int .u64 a, .int .u64 b, .int .u64 c, .int .u64 d] 27)).cell? ⟨w.heap.size, 2, none⟩ = some (.int .u64 c) := by simp [go_sem]
  have c3 : (w.alloc (.cells #[.int .u64 a, .int .u64 b, .int .u64 c, .int .u64 d] 27)).cell? ⟨w.heap.size, 3, none⟩ = some (.int .u64 d) := by simp [go_sem]
  have hWB := below1 w (.cells #[.int .u64 a, .int .u64 b, .int .u64 c, .int .u64 d] 27)
  have hWs : (w.alloc (.cells #[.int .u64 a, .int .u64 b, .int .u64 c, .int .u64 d] 27)).heap.size = w.heap.size + 1 := by simp
  generalize w.alloc (.cells #[.int .u64 a, .int .u64 b, .int .u64 c, .int .u64 d] 27) = W at *
  have HC := hid (And.intro c0 (And.intro c1 (And.intro c2 c3)))
  have HWB := hid hWB
  have HWS := hid hWs
  clear c0 c1 c2 c3 hWB hWs
  go_loopw [3] (fun i wr => ∃ k : Nat, k ≤ 256 ∧ i = .int .i64 k ∧ Hid (∀ n, n < k → memb a b c d n = false) ∧ Below (w.heap.size + 1) W wr) (fun i _ => 256 - (intOf i).toNat)
  case atStart => exact ⟨0, by omega, rfl, fun n hn => absurd hn (by omega), Below.refl _ _⟩
  case round =>
    obtain ⟨k, hk, rfl, HL, hg⟩ := hrel
    have HG := hid hg
    have hsz : w.heap.size + 1 ≤ wr.heap.size := by have := hg.size; have := HWS.out; omega
    clear hg
    by_cases hlt : k < 256
    · have d0 := (HG.out.cell (p := ⟨w.heap.size, 0, none⟩) (Nat.lt_succ_self _)).trans HC.out.1
      have d1 := (HG.out.cell (p := ⟨w.heap.size, 1, none⟩) (Nat.lt_succ_self _)).trans HC.out.2.1
      have d2 := (HG.out.cell (p := ⟨w.heap.size, 2, none⟩) (Nat.lt_succ_self _)).trans HC.out.2.2.1
      have d3 := (HG.out.cell (p := ⟨w.heap.size, 3, none⟩) (Nat.lt_succ_self _)).trans HC.out.2.2.2
      cases hm : memb a b c d k
      · have HM := hid hm
        clear hm
        go_wp2_with fail
        refine (refhas_any a b c d k _ hlt fa fb fc fd).mono ?_
        rintro e w1 ⟨rfl, hb1⟩
        rw [HM.out]
        have HN := hid (HG.out.trans (hb1.mono hsz))
        have HL2 : Hid (∀ n, n < k + 1 → memb a b c d n = false) := fun n hn => by
          by_cases e : n = k
          · subst e; exact HM.out
          · exact HL.out n (by omega)
        clear hb1 d0 d1 d2 d3
        go_wp2_with fail
        exact ⟨⟨k + 1, by omega, by go_num, HL2, HN.out⟩, by simp [intOf]; omega⟩
      · have HM := hid hm
        clear hm
        go_wp2_with fail
        refine (refhas_any a b c d k _ hlt fa fb fc fd).mono ?_
        rintro e w1 ⟨rfl, hb1⟩
        rw [HM.out]
        have HF : Hid (RefFirstIs (memb a b c d) (k : Int) ∧ Below w.heap.size w w1) := ⟨.inr ⟨k, hlt, HM.out, HL.out, rfl⟩, HWB.out.trans ((HG.out.trans (hb1.mono hsz)).mono (by omega))⟩
        clear hb1 d0 d1 d2 d3
        go_wp2_with fail
        go_ret
        exact ⟨_, rfl, HF.out.1, HF.out.2⟩
    · have e1 : k = 256 := by omega
      subst e1
      have HF : Hid (RefFirstIs (memb a b c d) (-1) ∧ Below w.heap.size w wr) := ⟨.inl ⟨HL.out, rfl⟩, HWB.out.trans (HG.out.mono (by omega))⟩
      clear HG HL
      go_wp2
      go_ret
      exact ⟨_, rfl, HF.out.1, HF.out.2⟩
end Go.Proofs.YtcpdobldconnaaaDoor
