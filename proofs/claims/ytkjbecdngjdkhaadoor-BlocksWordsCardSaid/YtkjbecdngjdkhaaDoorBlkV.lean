/- Contracts of blocks: Names, Word; what comes of bytes there and back. -/
import Derived.Test.YtkjbecdngjdkhaaDoorBlkT
import Derived.Test.YtkjbecdngjdkhaaDoorBlkQ
import Derived.Laws.MakeOwn
namespace Go.Proofs.YtkjbecdngjdkhaaDoor
open Go Go.RowKit
attribute [local go_sem ↓] Go.wp_at_zero Go.wp_at_succ
attribute [local go_sem] eq4
/-- A string's byte. -/
def byt (v : ByteArray) (i : Nat) : Nat := if h : i < v.size then (v[i]'h).toNat else 0
theorem byt_in {v : ByteArray} {i : Nat} (h : i < v.size) : byt v i = (v[i]'h).toNat := dif_pos h
theorem byt_lt (v : ByteArray) (i : Nat) : byt v i < 256 := by
  unfold byt
  split
  · exact (v[i]).toNat_lt
  · omega
/-- The blocks of a string's first k bytes. -/
def namesOf (E : Nat → Nat → Bool) (v : ByteArray) (k : Nat) : List Nat := (List.range k).map fun i => num E (byt v i)
theorem namesOf_succ (E : Nat → Nat → Bool) (v : ByteArray) (k : Nat) : namesOf E v (k + 1) = namesOf E v k ++ [num E (byt v k)] := by unfold namesOf; rw [List.range_succ, List.map_append]; rfl
theorem namesOf_len (E : Nat → Nat → Bool) (v : ByteArray) (k : Nat) : (namesOf E v k).length = k := by simp [namesOf]
theorem namesOf_at {E : Nat → Nat → Bool} {v : ByteArray} {k i : Nat} (h : i < k) : (namesOf E v k)[i]? = some (num E (byt v i)) := by
  unfold namesOf
  rw [List.getElem?_map, List.getElem?_range h]; rfl
theorem mk_ints (n : Nat) (hn : n ≤ 1000) (w : World) : ∃ w', (Instr.makeSlice 26 (.int .i64 0) (.int .i64 (n : Int))).run Tryd.prog w = .ok (.slice (some ⟨w.heap.size, 0, none⟩) 0 n) w' ∧
      w'.ownsRow w.heap.size 3 1 (.slice (some ⟨w.heap.size, 0, none⟩) 0 n) 0 [] ∧ w.grownBy w' none := by
  obtain ⟨i0, hi, hz0, hz1, hz2⟩ := info_parts Tryd.infoInt
  exact run_make_own (P := Tryd.prog) w w.heap.size 26 3 i0 _ 1 Tryd.underlying26 hi hz0 hz1 .i64 .i64 n (by rw [hz2]; omega) (by unfold maxLen; omega) (Nat.le_refl _)
theorem mk_bytes (n : Nat) (hn : n ≤ 1000) (w : World) : ∃ w', (Instr.makeSlice 68 (.int .i64 0) (.int .i64 (n : Int))).run Tryd.prog w = .ok (.slice (some ⟨w.heap.size, 0, none⟩) 0 n) w' ∧
      w'.ownsRow w.heap.size 5 1 (.slice (some ⟨w.heap.size, 0, none⟩) 0 n) 0 [] ∧ w.grownBy w' none := by
  obtain ⟨i0, hi, hz0, hz1, hz2⟩ := info_parts Tryd.infoU8
  exact run_make_own (P := Tryd.prog) w w.heap.size 68 5 i0 _ 1 Tryd.underlying68 hi hz0 hz1 .i64 .i64 n (by rw [hz2]; omega) (by unfold maxLen; omega) (Nat.le_refl _)
set_option maxRecDepth 100000 in
set_option maxHeartbeats 2000000 in
theorem names_any {w : World} {g : Nat} {E : Nat → Nat → Bool} {ls : List W4} (v : ByteArray) (hv : v.size ≤ 1000) (h : BlkIs w g E ls) :
    Calls Tryd.prog 23 #[.pointer (some ⟨g, 0, none⟩), .string v] w fun e w' => ∃ u, e = .returned u ∧ NatsAt w' u (namesOf E v v.size) ∧ Below w.heap.size w w' := by
  obtain ⟨w0, hmk, hown0, hgr0⟩ := mk_ints v.size hv w
  have HX := hid h
  have HO : Hid (GrowRel w [] (.slice (some ⟨w.heap.size, 0, none⟩) 0 v.size) w0) := hid ⟨hown0, (Below.refl _ _).grown hgr0 (Nat.le_refl _) (fun k hk => by cases hk)⟩
  obtain ⟨i0, hif, hy0, hy1, hy2⟩ := info_parts Tryd.infoInt
  clear hown0 hgr0 h
  go_enter Tryd.func23, Tryd.ntmps23
  go_wp2_with fail
  clear hmk
  go_loopw [5, 14] (fun u i wr => ∃ k : Nat, k ≤ v.size ∧ i = .int .i64 k ∧ Hid (GrowRel w (namesOf E v k) u wr)) (fun _ i _ => v.size - (intOf i).toNat)
  case atStart => exact ⟨0, by omega, rfl, HO⟩
  case round =>
    obtain ⟨k, hk, rfl, HG⟩ := hrel
    by_cases hlk : k < v.size
    · have hb := byt_lt v k
      have hbe : ((v[k]'hlk).toNat : Int) = (byt v k : Int) := by rw [byt_in hlk]
      have HBE := hid hbe
      have OF := hid (blkof_any g (num E) ls (byt v k) hb wr (HX.out.blk.below HG.out.2 (Nat.le_refl _)))
      have hll : (namesOf E v k).length ≤ k := Nat.le_of_eq (namesOf_len E v k)
      have hsz := HG.out.2.size
      have HNS := hid (namesOf_succ E v k)
      clear hbe
      go_wp2_with fail
      rw [HBE.out]
      refine OF.out.mono ?_
      rintro e w5 ⟨rfl, hw5⟩
      obtain rfl := hw5
      go_wp2_with (at_builtin; go_must (refine wpList_append_own_at _ rfl (.tmp 17) (.tmp 23) 26 rfl w.heap.size 3 i0 (.int .i64 0) 1 8 Tryd.underlying26 hif hy0 hy1 hy2 rfl (by decide) u5 (namesOf E v k).length (nats (namesOf E v k)) rfl (ownsAlloc HG.out.1 _) ⟨_, 0, none⟩ 1 1 _ rfl rfl (cell_one_new _ _ _) (one_int _) (by unfold maxLen; omega) (by omega) (by simp; omega) ?_; intro v4 w4 ho hg4 _ _; have HG4 : Hid (GrowRel w (namesOf E v (k + 1)) v4 w4) := hid (by rw [HNS.out]; exact HG.out.add ho hg4); clear ho hg4))
      exact ⟨⟨k + 1, by omega, by go_num, HG4⟩, by simp [intOf]; omega⟩
    · obtain rfl : k = v.size := by omega
      go_wp2_with fail
      go_ret
      exact ⟨_, rfl, HG.out.at, HG.out.2⟩
/-- A slice of any numbers, from wherever on. -/
def IntsP (w : World) (p : Option Addr) (l : List Int) : Prop := ∀ (j : Nat) (n : Int), l[j]? = some n → ∃ g o, p = some ⟨g, o, none⟩ ∧ g < w.heap.size ∧ w.cell? ⟨g, o + j, none⟩ = some (.int .i64 n)
theorem IntsP.below {B : Nat} {w w' : World} {p : Option Addr} {l : List Int} (h : IntsP w p l) (hb : Below B w w') (hB : w.heap.size ≤ B) : IntsP w' p l := fun j n hj => by
  obtain ⟨g, o, e, hg, hcell⟩ := h j n hj
  exact ⟨g, o, e, Nat.lt_of_lt_of_le hg hb.size, (hb.cell (p := ⟨g, o + j, none⟩) (by show g < B; omega)).trans hcell⟩
theorem NatsIn.ints {w : World} {p : Option Addr} {l : List Nat} (h : NatsIn w p l) : IntsP w p (l.map fun (n : Nat) => (n : Int)) := fun j n hj => by
  rw [List.getElem?_map] at hj
  obtain ⟨m, hm, rfl⟩ := Option.map_eq_some_iff.1 hj
  exact h j m hm
/-- A block's least byte. -/
def leadOf (E : Nat → Nat → Bool) (i : Int) : Int := (((leads E 256).getD i.toNat 0 : Nat) : Int)
theorem leadOf_at {E : Nat → Nat → Bool} {i a : Nat} (h : (leads E 256)[i]? = some a) : leadOf E (i : Int) = (a : Int) := by
  unfold leadOf
  rw [Int.toNat_natCast, List.getD_eq_getElem?_getD, h]; rfl
theorem least_yes {w : World} {g : Nat} {E : Nat → Nat → Bool} {ls : List W4} (hE : Sorts E) (h : BlkIs w g E ls) (i : Int) (hi : inN i ls.length = true) (hT : ∀ w', Below w.heap.size w w' → Tab w') :
    Calls Tryd.prog 15 #[.pointer (some ⟨g, 0, none⟩), .int .i64 i] w fun e w' => e = .returned (.tuple #[.int .u8 (leadOf E i), .bool true]) ∧ Below w.heap.size w w' := by
  obtain ⟨idx, rfl, hidx⟩ : ∃ idx : Nat, i = (idx : Int) ∧ idx < ls.length := by
    unfold inN at hi
    simp at hi
    exact ⟨i.toNat, by omega, by omega⟩
  obtain ⟨t, ht⟩ : ∃ t, ls[idx]? = some t := ⟨_, List.getElem?_eq_getElem hidx⟩
  obtain ⟨a, ha⟩ : ∃ a, (leads E 256)[idx]? = some a := ⟨_, List.getElem?_eq_getElem (by rw [← h.len]; exact hidx)⟩
  rw [leadOf_at ha]
  exact (least_any (some ⟨g, 0, none⟩) idx t (h.blk.fit t (List.mem_of_getElem? ht)) w (set_yes g _ ls idx t ht w h.blk) hT).mono (by
    rintro e w' ⟨v, rfl, hf, hb⟩
    exact ⟨by rw [first_lead hE ha (fun n hn => h.mem idx t ht n hn) hf], hb⟩)
theorem least_no {w : World} {g : Nat} {E : Nat → Nat → Bool} {ls : List W4} (h : BlkIs w g E ls) (i : Int) (hi : inN i ls.length = false) (hT : ∀ w', Below w.heap.size w w' → Tab w') :
    Calls Tryd.prog 15 #[.pointer (some ⟨g, 0, none⟩), .int .i64 i] w fun e w' => e = .returned (.tuple #[.int .u8 0, .bool false]) ∧ Below w.heap.size w w' :=
  (least_any (some ⟨g, 0, none⟩) i noW noW_fit w (set_out g _ ls i hi w h.blk) hT).mono (by
    rintro e w' ⟨v, rfl, hf, hb⟩
    rcases hf with ⟨_, rfl⟩ | ⟨m, _, h, _, _⟩
    · exact ⟨rfl, hb⟩
    · rw [noW_mem] at h; cases h)
/-- What holds while a word grows. -/
def WordRel (w : World) (l : List Int) (v : Value) (wr : World) : Prop :=
  wr.ownsRow w.heap.size 5 1 v l.length (vals l) ∧ Below w.heap.size w wr
theorem WordRel.keep {w wr w1 : World} {l : List Int} {v : Value} (h : WordRel w l v wr) (hb : Below wr.heap.size wr w1) : WordRel w l v w1 := ⟨ownsBelow h.1 hb, h.2.trans (hb.mono h.2.size)⟩
theorem WordRel.add {w wr w2 : World} {o : Obj} {l : List Int} {n : Int} {v v' : Value} (h : WordRel w l v wr)
    (ho : w2.ownsRow w.heap.size 5 1 v' (l.length + 1) (vals l ++ [.int .u8 n])) (hg : (wr.alloc o).grownBy w2 v.ownBlock) : WordRel w (l ++ [n]) v' w2 := by
  unfold WordRel
  rw [List.length_append, vals_snoc]
  exact ⟨ho, h.2.trans (belowApp h.1 hg h.2.size)⟩
theorem map_take {α β : Type} (f : α → β) (l : List α) (k : Nat) (x : α) (h : l[k]? = some x) : (l.take (k + 1)).map f = (l.take k).map f ++ [f x] := by
  rw [List.take_add_one, h, List.map_append]; rfl
theorem all_take {α : Type} (l : List α) (p : α → Bool) (k : Nat) (x : α) (h : l[k]? = some x) : (l.take (k + 1)).all p = ((l.take k).all p && p x) := by
  rw [List.take_add_one, h, List.all_append]; simp
theorem all_no {α : Type} {l : List α} {p : α → Bool} {k : Nat} {x : α} (h : l[k]? = some x) (hx : p x = false) : l.all p = false := by
  rw [List.all_eq_false]
  exact ⟨x, List.mem_of_getElem? h, by rw [hx]; decide⟩
/-- What Word answers. -/
def wordAns (E : Nat → Nat → Bool) (m : Nat) (zl : List Int) : Value := if (zl.all fun i => inN i m) then .tuple #[.string (strOfNums (zl.map (leadOf E))), .bool true] else .tuple #[.string ⟨#[]⟩, .bool false]
theorem wordAns_yes {E : Nat → Nat → Bool} {m : Nat} {zl : List Int} (h : (zl.all fun i => inN i m) = true) : wordAns E m zl = .tuple #[.string (strOfNums (zl.map (leadOf E))), .bool true] := by unfold wordAns; rw [if_pos h]
theorem wordAns_no {E : Nat → Nat → Bool} {m : Nat} {zl : List Int} (h : (zl.all fun i => inN i m) = false) : wordAns E m zl = .tuple #[.string ⟨#[]⟩, .bool false] := by unfold wordAns; rw [h]; rfl
set_option maxRecDepth 100000 in
set_option maxHeartbeats 4000000 in
theorem word_any {w : World} {g : Nat} {E : Nat → Nat → Bool} {ls : List W4} (hE : Sorts E) (p : Option Addr) (c : Nat) (zl : List Int) (hz : zl.length ≤ 1000) (h : BlkIs w g E ls) (hp : IntsP w p zl) (hT : ∀ w', Below w.heap.size w w' → Tab w') :
    Calls Tryd.prog 24 #[.pointer (some ⟨g, 0, none⟩), .slice p zl.length c] w fun e w' => e = .returned (wordAns E ls.length zl) ∧ Below w.heap.size w w' := by
  obtain ⟨w0, hmk, hown0, hgr0⟩ := mk_bytes zl.length hz w
  have HX := hid h
  have HP := hid hp
  have HT := hid hT
  have HE := hid hE
  have HO : Hid (WordRel w [] (.slice (some ⟨w.heap.size, 0, none⟩) 0 zl.length) w0) := hid ⟨hown0, (Below.refl _ _).grown hgr0 (Nat.le_refl _) (fun k hk => by cases hk)⟩
  obtain ⟨i0, hif, hy0, hy1, hy2⟩ := info_parts Tryd.infoU8
  clear hown0 hgr0 h hp hT hE
  go_enter Tryd.func24, Tryd.ntmps24
  go_wp2_with fail
  clear hmk
  go_loopw [6, 18] (fun u i wr => ∃ k : Nat, k ≤ zl.length ∧ i = .int .i64 k ∧ Hid ((zl.take k).all (fun i => inN i ls.length) = true) ∧ Hid (WordRel w ((zl.take k).map (leadOf E)) u wr)) (fun _ i _ => zl.length - (intOf i).toNat)
  case atStart => exact ⟨0, by omega, rfl, hid rfl, HO⟩
  case round =>
    obtain ⟨k, hk, rfl, HA, HG⟩ := hrel
    by_cases hlk : k < zl.length
    · obtain ⟨z, hzk⟩ : ∃ z, zl[k]? = some z := ⟨_, List.getElem?_eq_getElem hlk⟩
      obtain ⟨g0, o, rfl, hg0, hc⟩ := HP.out k z hzk
      have hcr := (HG.out.2.cell (p := ⟨g0, o + k, none⟩) hg0).trans hc
      have hgr : g0 < wr.heap.size := Nat.lt_of_lt_of_le hg0 HG.out.2.size
      have HXr := hid (HX.out.below HG.out.2 (Nat.le_refl _))
      have HTr : Hid (∀ w', Below wr.heap.size wr w' → Tab w') := hid (fun w' hb => HT.out _ (HG.out.2.trans (hb.mono HG.out.2.size)))
      have HMT := hid (map_take (leadOf E) zl k z hzk)
      have HAT := hid (all_take zl (fun i => inN i ls.length) k z hzk)
      have HNO := hid (fun (h : (fun i => inN i ls.length) z = false) => all_no (p := fun i => inN i ls.length) hzk h)
      have hll : ((zl.take k).map (leadOf E)).length ≤ k := by rw [List.length_map]; exact List.length_take_le _ _
      have hsz := HG.out.2.size
      clear hc hzk
      cases hin : inN z ls.length
      · have HF := hid (HNO.out hin)
        have LST := hid (least_no HXr.out z hin HTr.out)
        clear hin
        go_wp2_with fail
        refine LST.out.mono ?_
        rintro e w2 ⟨rfl, hb2⟩
        have HB2 := hid (HG.out.2.trans (hb2.mono hsz))
        clear hb2 hcr
        go_wp2_with fail
        go_ret2
        exact ⟨by rw [wordAns_no HF.out]; rfl, HB2.out⟩
      · have LST := hid (least_yes HE.out HXr.out z hin HTr.out)
        have HA2 : Hid ((zl.take (k + 1)).all (fun i => inN i ls.length) = true) := hid (by rw [HAT.out, HA.out]; exact hin)
        clear hin
        go_wp2_with fail
        refine LST.out.mono ?_
        rintro e w2 ⟨rfl, hb2⟩
        have HG2 := hid (HG.out.keep hb2)
        have hsz2 := HG2.out.2.size
        clear hb2 hcr
        go_wp2_with (at_builtin; go_must (refine wpList_append_own_at _ rfl (.tmp 30) (.tmp 32) 68 rfl w.heap.size 5 i0 (.int .u8 0) 1 1 Tryd.underlying68 hif hy0 hy1 hy2 rfl (by decide) u6 ((zl.take k).map (leadOf E)).length (vals ((zl.take k).map (leadOf E))) rfl (ownsAlloc HG2.out.1 _) ⟨_, 0, none⟩ 1 1 _ rfl rfl (cell_one_new _ _ _) (one_u8 _) (by unfold maxLen; omega) (by omega) (by simp; omega) ?_; intro v4 w4 ho hg4 _ _; have HG4 : Hid (WordRel w ((zl.take (k + 1)).map (leadOf E)) v4 w4) := hid (by rw [HMT.out]; exact HG2.out.add ho hg4); clear ho hg4))
        exact ⟨⟨k + 1, by omega, by go_num, HA2, HG4⟩, by simp [intOf]; omega⟩
    · obtain rfl : k = zl.length := by omega
      have hcv := conv_bytes (bytes_of_row HG.out.1).1
      have HAL : Hid ((zl.all fun i => inN i ls.length) = true) := hid (by have h := HA.out; rw [List.take_length] at h; exact h)
      rw [List.take_length] at hcv
      go_wp2_with fail
      go_ret2
      exact ⟨by rw [wordAns_yes HAL.out]; rfl, HG.out.2⟩
end Go.Proofs.YtkjbecdngjdkhaaDoor
