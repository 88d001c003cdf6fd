/- Contracts of blocks: More, walked. -/
import Derived.Test.YtkjbecdngjdkhaaDoorBlkD
import Derived.Test.YtkjbecdngjdkhaaDoorBytesD
namespace Go.Proofs.YtkjbecdngjdkhaaDoor
open Go Go.RowKit Go.Maps
attribute [local go_sem ↓] Go.wp_at_zero Go.wp_at_succ
attribute [local go_sem] eq4
/-- What the last region of a round needs of memory, wherever it stands. -/
abbrev HeldR (w wr : World) (gr n len cap : Nat) (t : W4) (W : World) : Prop :=
  W.cell? ⟨w.heap.size + 1, 256, none⟩ = some (.slice (some ⟨gr, 0, none⟩) len cap) ∧ W.cell? ⟨gr, n * 4, none⟩ = some (.int .u64 t.a) ∧ W.cell? ⟨gr, n * 4 + 1, none⟩ = some (.int .u64 t.b) ∧ W.cell? ⟨gr, n * 4 + 2, none⟩ = some (.int .u64 t.c) ∧ W.cell? ⟨gr, n * 4 + 3, none⟩ = some (.int .u64 t.d) ∧
  w.heap.size + 1 < W.heap.size ∧ gr < W.heap.size ∧ Below wr.heap.size wr W
theorem heldR_call {w wr : World} {gr n len cap : Nat} {t : W4} {X Y : World} (h : HeldR w wr gr n len cap t X) (hb : Below X.heap.size X Y) : HeldR w wr gr n len cap t Y := by
  obtain ⟨h0, h1, h2, h3, h4, h5, h6, h7⟩ := h
  exact ⟨(hb.cell (p := ⟨w.heap.size + 1, 256, none⟩) h5).trans h0, (hb.cell (p := ⟨gr, n * 4, none⟩) h6).trans h1, (hb.cell (p := ⟨gr, n * 4 + 1, none⟩) h6).trans h2, (hb.cell (p := ⟨gr, n * 4 + 2, none⟩) h6).trans h3, (hb.cell (p := ⟨gr, n * 4 + 3, none⟩) h6).trans h4,
    Nat.lt_of_lt_of_le h5 hb.size, Nat.lt_of_lt_of_le h6 hb.size, below_on h7 hb⟩
theorem heldR_drew {w wr : World} {gr n len cap : Nat} {t : W4} {X : World} (h : HeldR w wr gr n len cap t X) : HeldR w wr gr n len cap t X.drew := heldR_call h (Below.refl _ _).drew
/-- The words of a set of one byte. -/
def oneB (k : Nat) (j : Int) : Int := ofw (fun _ => (k : Int)) 1 j
def addW (t : W4) (k : Nat) : W4 := ⟨orr (orr 0 t.a) (oneB k 0), orr (orr 0 t.b) (oneB k 1), orr (orr 0 t.c) (oneB k 2), orr (orr 0 t.d) (oneB k 3)⟩
theorem addW_fit (t : W4) (k : Nat) : (addW t k).fit := ⟨orr_fit _ _, orr_fit _ _, orr_fit _ _, orr_fit _ _⟩
theorem addW_mem (t : W4) (_ : t.fit) (k m : Nat) (hk : k < 256) (hm : m < 256) : (addW t k).mem m = (t.mem m || decide (m = k)) := by
  show memb (orr (orr 0 t.a) (oneB k 0)) (orr (orr 0 t.b) (oneB k 1)) (orr (orr 0 t.c) (oneB k 2)) (orr (orr 0 t.d) (oneB k 3)) m = _
  rw [memb_or]
  have h := memb_ofw (fun _ => (k : Int)) (fun _ => by omega) (fun _ => by omega) 1 m hm
  unfold oneB
  rw [h]
  have e : onr (fun _ => (k : Int)) 1 m = decide (m = k) := by
    simp only [onr, Bool.false_or]
    by_cases e : m = k
    · subst e; simp
    · have : ¬ (k : Int) = (m : Int) := by omega
      simp [e, this]
  rw [e]; rfl
theorem of_blk {w : World} {g k : Nat} (hk : k < 256) (h : w.heap[g]? = some (.cells #[.int .u8 (k : Int)] 5)) :
    Calls Tryd.prog 44 #[.slice (some ⟨g, 0, none⟩) 1 1] w fun e w' => e = .returned (.agg #[.int .u64 (oneB k 0), .int .u64 (oneB k 1), .int .u64 (oneB k 2), .int .u64 (oneB k 3)]) ∧ Below w.heap.size w w' :=
  of_any g 0 1 1 (fun _ => (k : Int)) w (Reg.size_of_get h) (by omega) (fun _ => by omega) (fun _ => by omega) (fun j hj => by
    obtain rfl : j = 0 := by omega
    exact Joins.cell_of_block h 0)
theorem union_blkW {a b c d x y z u : Int} {w : World} {g : Nat} (h : w.heap[g]? = some (.cells #[.int .u64 a, .int .u64 b, .int .u64 c, .int .u64 d, .int .u64 x, .int .u64 y, .int .u64 z, .int .u64 u] 35)) :
    Calls Tryd.prog 43 #[.slice (some ⟨g, 0, none⟩) 2 2] w fun e w' => e = .returned (.agg #[.int .u64 (orr (orr 0 a) x), .int .u64 (orr (orr 0 b) y), .int .u64 (orr (orr 0 c) z), .int .u64 (orr (orr 0 d) u)]) ∧ Below w.heap.size w w' :=
  union_two g a b c d x y z u w (Reg.size_of_get h) (Joins.cell_of_block h 0) (Joins.cell_of_block h 1) (Joins.cell_of_block h 2) (Joins.cell_of_block h 3) (Joins.cell_of_block h 4) (Joins.cell_of_block h 5) (Joins.cell_of_block h 6) (Joins.cell_of_block h 7)
/-- What the last region of a round tells. -/
def rowTold (B gr n k len cap : Nat) (t : W4) : Nat → Reg.Told
  | 0 => .inl (.pointer (some ⟨B, 0, none⟩))
  | 1 => .inl (.pointer (some ⟨B, 0, none⟩))
  | 2 => .inl (.pointer (some ⟨B, 256, none⟩))
  | 3 => .inl (.slice (some ⟨gr, 0, none⟩) len cap)
  | 4 => .inl (.int .i64 (n : Int))
  | 5 => .inl (.pointer (some ⟨B, 0, none⟩))
  | 6 => .inl (.pointer (some ⟨B, 0, none⟩))
  | 7 => .inl (.pointer (some ⟨B, 256, none⟩))
  | 8 => .inl (.slice (some ⟨gr, 0, none⟩) len cap)
  | 9 => .inl (.int .i64 (n : Int))
  | 10 => .inl (.pointer (some ⟨gr, n * 4, none⟩))
  | 11 => .inl (.agg #[.int .u64 t.a, .int .u64 t.b, .int .u64 t.c, .int .u64 t.d])
  | 12 => .inl (.int .i64 (k : Int))
  | 13 => .inl (.int .u8 (k : Int))
  | 14 => .inr ⟨fun G => .slice (some ⟨G, 0, none⟩) 1 1, 5, #[.int .u8 (k : Int)]⟩
  | 15 => .inl (.agg #[.int .u64 (oneB k 0), .int .u64 (oneB k 1), .int .u64 (oneB k 2), .int .u64 (oneB k 3)])
  | 16 => .inr ⟨fun G => .slice (some ⟨G, 0, none⟩) 2 2, 35, #[.int .u64 t.a, .int .u64 t.b, .int .u64 t.c, .int .u64 t.d, .int .u64 (oneB k 0), .int .u64 (oneB k 1), .int .u64 (oneB k 2), .int .u64 (oneB k 3)]⟩
  | 17 => .inl (.agg #[.int .u64 (addW t k).a, .int .u64 (addW t k).b, .int .u64 (addW t k).c, .int .u64 (addW t k).d])
  | 18 => .inl (.pointer (some ⟨gr, n * 4, none⟩))
  | _ => .inl undef
set_option maxRecDepth 100000 in
set_option maxHeartbeats 4000000 in
theorem more_any (g : Nat) (of : Nat → Nat) (l : List W4) (s : W4) (hs : s.fit) (w : World) (h : BlkAt w g of l) (hof : ∀ b, of b < 256) :
    Calls Tryd.prog 19 #[.pointer (some ⟨g, 0, none⟩), .agg #[.int .u64 s.a, .int .u64 s.b, .int .u64 s.c, .int .u64 s.d]] w fun e w' => e = .returned (.pointer (some ⟨w.heap.size + 1, 0, none⟩)) ∧ Below w.heap.size w w' ∧
      ∃ ls, BlkAt w' (w.heap.size + 1) (num (sigE of s)) ls ∧ ls.length = (leads (sigE of s) 256).length ∧ ∀ (i : Nat) t, ls[i]? = some t → ∀ n, n < 256 → t.mem n = decide (num (sigE of s) n = i) := by
  have hlt := h.lt
  have H := hid h
  clear h
  have hmm := @run_makeMap Tryd.prog
  obtain ⟨i0, hif, hz0, hz1, hz2⟩ := info_parts Tryd.infoSet
  go_enter Tryd.func19, Tryd.ntmps19
  go_wp2_with fail
  clear hmm
  go_loopw [16] (fun i wr => ∃ k : Nat, k ≤ 256 ∧ i = .int .i64 k ∧ MoreAt w s (sigF of s) (sigE of s) k k (leads (sigE of s) k) wr) (fun i _ => 256 - (intOf i).toNat)
  case atStart => exact ⟨0, by omega, rfl, MoreAt.start w s _ _⟩
  case round =>
    obtain ⟨k, hk, rfl, hM⟩ := hrel
    by_cases hlk : k < 256
    · obtain ⟨q0, q1, q2, q3⟩ := hM.set
      have hc := (hM.be.cell (p := ⟨g, k, none⟩) hlt).trans (H.out.cell k hlk)
      have hsz : w.heap.size < wr.heap.size := by have := hM.size; omega
      have hglt : g < wr.heap.size := by omega
      have hku : IntKind.u8.wrap (k : Int) = (k : Int) := by simp [IntKind.wrap, IntKind.signed, IntKind.bits]; omega
      have hS0 : HeldM w wr g k (of k) s wr := ⟨hc, q0, q1, q2, q3, hglt, hsz, Below.refl _ _⟩
      have HM := hid hM
      have HH := hid (fun W => has_mem s hs k hlk W)
      clear hM
      go_wp2_with fail
      refine Reg.wp_region_told (sigTold g k (of k) s (s.mem k)) [(12, 11, #[.int .i64 (of k : Int), .bool (s.mem k)])] [0, 1, 2, 3, 4, 5, 6, 7, 8, 9, 10, 11, 12] (by rfl) (by kernel_rfl) (by kernel_rfl) (by intro f hf f' hf' _; rw [List.mem_singleton.1 hf, List.mem_singleton.1 hf']) (by intro f hf f' hf' _; rw [List.mem_singleton.1 hf, List.mem_singleton.1 hf']) ?_ ?_
      focus
        refine ⟨Reg.opOK_plain (by rfl) fun G listed A wv hI hall => .inl ⟨Reg.wanted_none rfl, ?_⟩, ?_⟩
        focus
          have e0 := hI.evo (d := 0) (by kernel_rfl) rfl
          clear hI hall hS0
          unfold Reg.Yields
          go_simp
          exact Reg.good_val (by rfl) (by rfl) (Below.refl _ _)
        refine ⟨Reg.opOK_plain (by rfl) fun G listed A wv hI hall => .inl ⟨Reg.wanted_none rfl, ?_⟩, ?_⟩
        focus
          have e7 := hI.evo (d := 7) (by kernel_rfl) rfl
          clear hI hall hS0
          unfold Reg.Yields
          go_simp
          exact Reg.good_val (by rfl) (by rfl) (Below.refl _ _)
        refine ⟨Reg.opOK_plain (by rfl) fun G listed A wv hI hall => .inl ⟨Reg.wanted_none rfl, ?_⟩, ?_⟩
        focus
          have e19 := hI.ev (i := 0) (d := 19) (by rfl) (by rfl) (hall ⟨0, .data⟩ (by simp) rfl)
          clear hI hall hS0
          unfold Reg.Yields
          go_simp
          exact Reg.good_val (by rfl) (by rfl) (Below.refl _ _)
        refine ⟨Reg.opOK_plain (by rfl) fun G listed A wv hI hall => .inl ⟨Reg.wanted_none rfl, ?_⟩, ?_⟩
        focus
          have e21 := hI.ev (i := 2) (d := 21) (by rfl) (by rfl) (hall ⟨2, .data⟩ (by simp) rfl)
          clear hI hall hS0
          unfold Reg.Yields
          go_simp
          exact Reg.good_val (by rfl) (by rfl) (Below.refl _ _)
        refine ⟨Reg.opOK_plain (by rfl) fun G listed A wv hI hall => .inl ⟨Reg.wanted_none rfl, ?_⟩, ?_⟩
        focus
          have e22 := hI.ev (i := 3) (d := 22) (by rfl) (by rfl) (hall ⟨3, .data⟩ (by simp) rfl)
          have e20 := hI.ev (i := 1) (d := 20) (by rfl) (by rfl) (hall ⟨1, .data⟩ (by simp) rfl)
          clear hI hall hS0
          unfold Reg.Yields
          go_simp
          exact Reg.good_val (by rfl) (by rfl) (Below.refl _ _)
        refine ⟨Reg.opOK_plain (by rfl) fun G listed A wv hI hall => .inl ⟨Reg.wanted_none rfl, ?_⟩, ?_⟩
        focus
          have H := heldM_call (heldM_drew hS0) hI.base
          have e23 := hI.ev (i := 4) (d := 23) (by rfl) (by rfl) (hall ⟨4, .data⟩ (by simp) rfl)
          clear hI hall hS0
          unfold Reg.Yields
          go_simp
          exact Reg.good_val (by rfl) (by rfl) (Below.refl _ _)
        refine ⟨Reg.opOK_plain (by rfl) fun G listed A wv hI hall => .inl ⟨Reg.wanted_none rfl, ?_⟩, ?_⟩
        focus
          have H := heldM_call (heldM_drew hS0) hI.base
          have e3 := hI.evo (d := 3) (by kernel_rfl) rfl
          clear hI hall hS0
          unfold Reg.Yields
          go_simp
          exact Reg.good_val (by rfl) (by rfl) (Below.refl _ _)
        refine ⟨Reg.opOK_plain (by rfl) fun G listed A wv hI hall => .inl ⟨Reg.wanted_none rfl, ?_⟩, ?_⟩
        focus
          have e7 := hI.evo (d := 7) (by kernel_rfl) rfl
          clear hI hall hS0
          unfold Reg.Yields
          go_simp
          exact Reg.good_val (by rfl) (by rfl) (Below.refl _ _)
        refine ⟨Reg.opOK_plain (by rfl) fun G listed A wv hI hall => .inl ⟨Reg.wanted_none rfl, ?_⟩, ?_⟩
        focus
          have e26 := hI.ev (i := 7) (d := 26) (by rfl) (by rfl) (hall ⟨7, .data⟩ (by simp) rfl)
          clear hI hall hS0
          unfold Reg.Yields
          go_simp
          exact Reg.good_val (by rfl) (by rfl) (Below.refl _ _)
        refine ⟨Reg.opOK_plain (by rfl) fun G listed A wv hI hall => .inl ⟨Reg.wanted_none rfl, ?_⟩, ?_⟩
        focus
          have e25 := hI.ev (i := 6) (d := 25) (by rfl) (by rfl) (hall ⟨6, .data⟩ (by simp) rfl)
          have e27 := hI.ev (i := 8) (d := 27) (by rfl) (by rfl) (hall ⟨8, .data⟩ (by simp) rfl)
          clear hI hall hS0
          unfold Reg.Yields
          go_simp
          exact (HH.out _).mono fun e w'' ⟨he, hb⟩ => ⟨_, he, Reg.good_val (by rfl) (by rfl) hb⟩
        refine ⟨Reg.opOK_plain (by rfl) fun G listed A wv hI hall => .inl ⟨Reg.wanted_none rfl, ?_⟩, ?_⟩
        focus
          have e24 := hI.ev (i := 5) (d := 24) (by rfl) (by rfl) (hall ⟨5, .data⟩ (by simp) rfl)
          have e28 := hI.ev (i := 9) (d := 28) (by rfl) (by rfl) (hall ⟨9, .data⟩ (by simp) rfl)
          clear hI hall hS0
          unfold Reg.Yields
          go_simp
          exact Reg.good_val (by rfl) (by rfl) (Below.refl _ _)
        refine ⟨Reg.opOK_plain (by rfl) fun G listed A wv hI hall => .inl ⟨Reg.wanted_none rfl, ?_⟩, ?_⟩
        focus
          clear hI hall hS0
          unfold Reg.Yields
          go_simp
          exact Reg.good_new (by rfl) (by rfl) (by rfl)
        refine ⟨Reg.opOK_fill (by rfl) (by rfl) (by rfl) rfl rfl (by simp) (fun G listed A wv hI hall s8 hc => ?_) (by intro f hf f' hf' _; rw [List.mem_singleton.1 hf, List.mem_singleton.1 hf']), ?_⟩
        focus
          have e8 := s8
          have e29 := hI.ev (i := 10) (d := 29) (by rfl) (by rfl) (hall ⟨10, .data⟩ (by simp) rfl)
          clear hI hall hS0
          unfold Reg.Yields
          rcases hc with hc | hc <;> (have c0 := Joins.cell_of_block hc 0; have c1 := Joins.cell_of_block hc 1; have f0 := Joins.unfrozen_of_block hc 0; have f1 := Joins.unfrozen_of_block hc 1; have hc' := hid hc; clear hc s8; go_simp; exact filled2 hc'.out _ _)
        trivial
      intro G w2 hI
      obtain ⟨_, hG8, c8⟩ := hI.evm (i := 11) (d := 8) (by rfl) (by rfl) (by rfl)
      have HS := hid (heldM_call (heldM_drew hS0) hI.base)
      have b8 : w2.heap[G 11]? = some (.cells #[.int .i64 (of k : Int), .bool (s.mem k)] 92) := c8
      have hG : wr.heap.size ≤ G 11 := hG8
      clear hI c8 hG8 hS0
      simp [Reg.finalTmps, Reg.dstAt, Reg.valOf, sigTold]
      generalize G 11 = g8 at *
      have HM2 := hid (HM.out.on HS.out.2.2.2.2.2.2.2)
      have d0 := Joins.cell_of_block b8 0
      have d1 := Joins.cell_of_block b8 1
      have hs2 := HM2.out.size
      clear HM b8
      obtain ⟨D, hown, hinv⟩ := HM2.out.map
      by_cases hold : ∃ a, a < k ∧ sigE of s a k = true
      · obtain ⟨a, ha, hE⟩ := hold
        obtain ⟨m1, m2⟩ := map_old (sigE_sorts of s) (sigE_iff of s) hof hinv ha hE
        have M2 := hid m2
        clear m2
        have hown' : w2.ownsMap Tryd.prog 92 (plainElem Tryd.prog 3) (w.heap.size + 1 + 1) (leads (sigE of s) k).length D := hown
        have m1' : Maps.has D (kl (of k) (s.mem k)) = true := m1
        obtain ⟨e1, e2⟩ := num_old (sigE_sorts of s) ha hE
        obtain ⟨n, hn⟩ : ∃ n, n = num (sigE of s) k := ⟨_, rfl⟩
        have M3 : Hid (∀ c : Int, D.atKey (kl (of k) (s.mem k)) (.lit (.int .i64 0)) = .lit (.int .i64 c) → c = (n : Int)) := hid (fun c hc => by rw [hn]; exact atk_eq hc M2.out)
        have hnl : n < (leads (sigE of s) (k + 1)).length := by rw [hn]; exact num_lt (sigE_sorts of s) (Nat.lt_succ_self k)
        have hM3 := HM2.out.cellPut hlk hn
        rw [← e1] at hM3
        have HM3 := hid hM3
        have Hn := hid hn
        obtain ⟨arr, vy, ls, hblk, harr, h256, hrow, hll, hmem⟩ := HM2.out.blk
        have cY := Joins.cell_of_block hblk k
        rw [harr k hlk, if_neg (Nat.lt_irrefl k)] at cY
        have fY := Joins.unfrozen_of_block hblk k
        clear hn m1 hown hblk harr h256 hrow hmem e1 e2 hM3 hll hE
        go_wp2_with (at_lookup; go_must (refine wpList_lookup_own_ok_int _ rfl _ _ 89 rfl 92 3 .i64 sigLaw Tryd.underlying89 Tryd.underlying3 (zeroInt _) _ _ D rfl hown' (.agg #[.int .i64 (of k : Int), .bool (s.mem k)]) (kl (of k) (s.mem k)) rfl (key_is (of k) (hof k) (s.mem k)) ?_; intro c hat hwc; rw [m1']; obtain rfl := M3.out c hat; clear hat hwc hown'))
        generalize w2.setCell ⟨w.heap.size + 1, k, none⟩ (.int .i64 (n : Int)) = w3 at *
        clear cY fY d0 d1 HS hs2
        have hsz3 := HM3.out.size
        obtain ⟨gr, cap, t, _, o1, o2, o3, o4, o5, ⟨cur, o6⟩, o7, o8⟩ := HM3.out.opens hnl hlk Hn.out
        have OPEN := hid o8
        have O7 := hid o7
        clear o8 o7
        have hS3 : HeldR w w3 gr n (leads (sigE of s) (k + 1)).length cap t w3 := ⟨o1, o2.1, o2.2.1, o2.2.2.1, o2.2.2.2, by omega, o5, Below.refl _ _⟩
        have O2 := hid o2
        have O1 := hid o1
        clear o1 o2
        refine Reg.wp_region_toldY 19 _ (rowTold (w.heap.size + 1) gr n k (leads (sigE of s) (k + 1)).length cap t) [0, 1, 2, 3, 4, 5, 6, 7, 8, 9, 10, 11, 12, 13, 14, 15, 16, 17, 18, 19] (by kernel_rfl) (by rfl) (by rfl) (by kernel_rfl) (by kernel_rfl) (by kernel_rfl) ?_ ?_
        focus
          refine ⟨Reg.opOK_plain (by rfl) fun G listed A wv hI hall => .inl ⟨Reg.wanted_none rfl, ?_⟩, ?_⟩
          focus
            have e5 := hI.evo (d := 5) (by kernel_rfl) rfl
            clear hI hall hS3
            unfold Reg.Yields
            go_simp
            exact Reg.good_val (by rfl) (by rfl) (Below.refl _ _)
          refine ⟨Reg.opOK_plain (by rfl) fun G listed A wv hI hall => .inl ⟨Reg.wanted_none rfl, ?_⟩, ?_⟩
          focus
            have e62 := hI.ev (i := 0) (d := 62) (by rfl) (by rfl) (hall ⟨0, .data⟩ (by simp) rfl)
            clear hI hall hS3
            unfold Reg.Yields
            go_simp
            exact Reg.good_val (by rfl) (by rfl) (Below.refl _ _)
          refine ⟨Reg.opOK_plain (by rfl) fun G listed A wv hI hall => .inl ⟨Reg.wanted_none rfl, ?_⟩, ?_⟩
          focus
            have e63 := hI.ev (i := 1) (d := 63) (by rfl) (by rfl) (hall ⟨1, .data⟩ (by simp) rfl)
            clear hI hall hS3
            unfold Reg.Yields
            go_simp
            exact Reg.good_val (by rfl) (by rfl) (Below.refl _ _)
          refine ⟨Reg.opOK_plain (by rfl) fun G listed A wv hI hall => .inl ⟨Reg.wanted_none rfl, ?_⟩, ?_⟩
          focus
            have H := heldR_call (heldR_drew hS3) hI.base
            have e64 := hI.ev (i := 2) (d := 64) (by rfl) (by rfl) (hall ⟨2, .data⟩ (by simp) rfl)
            clear hI hall hS3
            unfold Reg.Yields
            go_simp
            exact Reg.good_val (by rfl) (by rfl) (Below.refl _ _)
          refine ⟨Reg.opOK_plain (by rfl) fun G listed A wv hI hall => .inl ⟨Reg.wanted_none rfl, ?_⟩, ?_⟩
          focus
            have e9 := hI.evo (d := 9) (by kernel_rfl) rfl
            clear hI hall hS3
            unfold Reg.Yields
            go_simp
            exact Reg.good_val (by rfl) (by rfl) (Below.refl _ _)
          refine ⟨Reg.opOK_plain (by rfl) fun G listed A wv hI hall => .inl ⟨Reg.wanted_none rfl, ?_⟩, ?_⟩
          focus
            have e5 := hI.evo (d := 5) (by kernel_rfl) rfl
            clear hI hall hS3
            unfold Reg.Yields
            go_simp
            exact Reg.good_val (by rfl) (by rfl) (Below.refl _ _)
          refine ⟨Reg.opOK_plain (by rfl) fun G listed A wv hI hall => .inl ⟨Reg.wanted_none rfl, ?_⟩, ?_⟩
          focus
            have e67 := hI.ev (i := 5) (d := 67) (by rfl) (by rfl) (hall ⟨5, .data⟩ (by simp) rfl)
            clear hI hall hS3
            unfold Reg.Yields
            go_simp
            exact Reg.good_val (by rfl) (by rfl) (Below.refl _ _)
          refine ⟨Reg.opOK_plain (by rfl) fun G listed A wv hI hall => .inl ⟨Reg.wanted_none rfl, ?_⟩, ?_⟩
          focus
            have e68 := hI.ev (i := 6) (d := 68) (by rfl) (by rfl) (hall ⟨6, .data⟩ (by simp) rfl)
            clear hI hall hS3
            unfold Reg.Yields
            go_simp
            exact Reg.good_val (by rfl) (by rfl) (Below.refl _ _)
          refine ⟨Reg.opOK_plain (by rfl) fun G listed A wv hI hall => .inl ⟨Reg.wanted_none rfl, ?_⟩, ?_⟩
          focus
            have H := heldR_call (heldR_drew hS3) hI.base
            have e69 := hI.ev (i := 7) (d := 69) (by rfl) (by rfl) (hall ⟨7, .data⟩ (by simp) rfl)
            clear hI hall hS3
            unfold Reg.Yields
            go_simp
            exact Reg.good_val (by rfl) (by rfl) (Below.refl _ _)
          refine ⟨Reg.opOK_plain (by rfl) fun G listed A wv hI hall => .inl ⟨Reg.wanted_none rfl, ?_⟩, ?_⟩
          focus
            have e9 := hI.evo (d := 9) (by kernel_rfl) rfl
            clear hI hall hS3
            unfold Reg.Yields
            go_simp
            exact Reg.good_val (by rfl) (by rfl) (Below.refl _ _)
          refine ⟨Reg.opOK_plain (by rfl) fun G listed A wv hI hall => .inl ⟨Reg.wanted_none rfl, ?_⟩, ?_⟩
          focus
            have e70 := hI.ev (i := 8) (d := 70) (by rfl) (by rfl) (hall ⟨8, .data⟩ (by simp) rfl)
            have e71 := hI.ev (i := 9) (d := 71) (by rfl) (by rfl) (hall ⟨9, .data⟩ (by simp) rfl)
            clear hI hall hS3
            unfold Reg.Yields
            go_simp
            exact Reg.good_val (by rfl) (by rfl) (Below.refl _ _)
          refine ⟨Reg.opOK_plain (by rfl) fun G listed A wv hI hall => .inl ⟨Reg.wanted_none rfl, ?_⟩, ?_⟩
          focus
            have H := heldR_call (heldR_drew hS3) hI.base
            have e72 := hI.ev (i := 10) (d := 72) (by rfl) (by rfl) (hall ⟨10, .data⟩ (by simp) rfl)
            clear hI hall hS3
            unfold Reg.Yields
            go_simp
            exact Reg.good_val (by rfl) (by rfl) (Below.refl _ _)
          refine ⟨Reg.opOK_plain (by rfl) fun G listed A wv hI hall => .inl ⟨Reg.wanted_none rfl, ?_⟩, ?_⟩
          focus
            have e7 := hI.evo (d := 7) (by kernel_rfl) rfl
            clear hI hall hS3
            unfold Reg.Yields
            go_simp
            exact Reg.good_val (by rfl) (by rfl) (Below.refl _ _)
          refine ⟨Reg.opOK_plain (by rfl) fun G listed A wv hI hall => .inl ⟨Reg.wanted_none rfl, ?_⟩, ?_⟩
          focus
            have e74 := hI.ev (i := 12) (d := 74) (by rfl) (by rfl) (hall ⟨12, .data⟩ (by simp) rfl)
            clear hI hall hS3
            unfold Reg.Yields
            go_simp
            exact Reg.good_val (by rfl) (by rfl) (Below.refl _ _)
          refine ⟨Reg.opOK_plain (by rfl) fun G listed A wv hI hall => .inl ⟨Reg.wanted_none rfl, ?_⟩, ?_⟩
          focus
            have e75 := hI.ev (i := 13) (d := 75) (by rfl) (by rfl) (hall ⟨13, .data⟩ (by simp) rfl)
            clear hI hall hS3
            unfold Reg.Yields
            go_simp
            exact Reg.good_new (by rfl) (by rfl) (by rfl)
          refine ⟨Reg.opOK_plain (by rfl) fun G listed A wv hI hall => .inl ⟨Reg.wanted_none rfl, ?_⟩, ?_⟩
          focus
            obtain ⟨e76, _, b76⟩ := hI.evm (i := 14) (d := 76) (by rfl) (by rfl) (hall ⟨14, .data⟩ (by simp) rfl)
            clear hI hall hS3
            unfold Reg.Yields
            go_simp
            exact (of_blk hlk b76).mono fun e w'' ⟨he, hb⟩ => ⟨_, he, Reg.good_val (by rfl) (by rfl) hb⟩
          refine ⟨Reg.opOK_plain (by rfl) fun G listed A wv hI hall => .inl ⟨Reg.wanted_none rfl, ?_⟩, ?_⟩
          focus
            have e73 := hI.ev (i := 11) (d := 73) (by rfl) (by rfl) (hall ⟨11, .data⟩ (by simp) rfl)
            have e77 := hI.ev (i := 15) (d := 77) (by rfl) (by rfl) (hall ⟨15, .data⟩ (by simp) rfl)
            clear hI hall hS3
            unfold Reg.Yields
            go_simp
            exact Reg.good_new (by rfl) (by rfl) (by rfl)
          refine ⟨Reg.opOK_plain (by rfl) fun G listed A wv hI hall => .inl ⟨Reg.wanted_none rfl, ?_⟩, ?_⟩
          focus
            obtain ⟨e78, _, b78⟩ := hI.evm (i := 16) (d := 78) (by rfl) (by rfl) (hall ⟨16, .data⟩ (by simp) rfl)
            clear hI hall hS3
            unfold Reg.Yields
            go_simp
            exact (union_blkW b78).mono fun e w'' ⟨he, hb⟩ => ⟨_, he, Reg.good_val (by rfl) (by rfl) hb⟩
          refine ⟨Reg.opOK_plain (by rfl) fun G listed A wv hI hall => .inl ⟨Reg.wanted_none rfl, ?_⟩, ?_⟩
          focus
            have e65 := hI.ev (i := 3) (d := 65) (by rfl) (by rfl) (hall ⟨3, .data⟩ (by simp) rfl)
            have e66 := hI.ev (i := 4) (d := 66) (by rfl) (by rfl) (hall ⟨4, .data⟩ (by simp) rfl)
            clear hI hall hS3
            unfold Reg.Yields
            go_simp
            exact Reg.good_val (by rfl) (by rfl) (Below.refl _ _)
          trivial
        intro G w4 hI
        obtain ⟨h0, h1, h2, h3, h4, h5, h6, h7⟩ := heldR_call (heldR_drew hS3) hI.base
        have hu : w4.heap[gr]? = some (.cells cur 35) := (hI.base.block _ o5).trans o6
        have z0 := Joins.unfrozen_of_block hu (n * 4)
        have z1 := Joins.unfrozen_of_block hu (n * 4 + 1)
        have z2 := Joins.unfrozen_of_block hu (n * 4 + 2)
        have z3 := Joins.unfrozen_of_block hu (n * 4 + 3)
        have HN := hid (OPEN.out w4 (addW t k) h7 (addW_fit t k) (fun m hm => addW_mem t o3 k m hlk hm))
        clear hI hu hS3
        refine ⟨by unfold Region.wanted; rfl, ?_⟩
        simp [Reg.finalTmps, Reg.dstAt, Reg.valOf, rowTold]
        unfold Reg.Yields
        go_simp
        generalize hW5 : ((((w4.setCell ⟨gr, n * 4, none⟩ (.int .u64 (addW t k).a)).setCell ⟨gr, n * 4 + 1, none⟩ (.int .u64 (addW t k).b)).setCell ⟨gr, n * 4 + 2, none⟩ (.int .u64 (addW t k).c)).setCell ⟨gr, n * 4 + 3, none⟩ (.int .u64 (addW t k).d)) = w5
        have HN5 : Hid (MoreAt w s (sigF of s) (sigE of s) (k + 1) (k + 1) (leads (sigE of s) (k + 1)) w5) := by rw [← hW5]; exact HN
        clear hW5 z0 z1 z2 z3 h0 h1 h2 h3 h4 h5 h6 h7
        go_wp2_with fail
        go_roundw
        case rel => exact ⟨k + 1, by omega, by go_num, HN5.out⟩
        case measure => simp [intOf]; omega
      · have hno : ∀ a, a < k → sigE of s a k = false := fun a ha => by
          rw [← Bool.not_eq_true]
          exact fun h => hold ⟨a, ha, h⟩
        obtain ⟨m1, m2⟩ := map_new (sigE_iff of s) hof hinv hno
        obtain ⟨e1, e2⟩ := num_new (sigE_sorts of s) hno
        have HI := hid (hinv.put hown.isMap hof m2)
        have hown' : w2.ownsMap Tryd.prog 92 (plainElem Tryd.prog 3) (w.heap.size + 1 + 1) (leads (sigE of s) k).length D := hown
        have m1' : Maps.has D (kl (of k) (s.mem k)) = false := m1
        have hlen := leads_len (sigE of s) k
        have hnl : num (sigE of s) k < (leads (sigE of s) (k + 1)).length := num_lt (sigE_sorts of s) (Nat.lt_succ_self k)
        obtain ⟨n, hn⟩ : ∃ n, n = (leads (sigE of s) k).length := ⟨_, rfl⟩
        rw [e2, ← hn] at hnl
        have HNM : Hid (n = num (sigE of s) k) := hid (by rw [hn, e2])
        obtain ⟨arr, vy, ls, hblk, harr, h256, hrow, hll, hmem⟩ := HM2.out.blk
        have cY := Joins.cell_of_block hblk k
        rw [harr k hlk, if_neg (Nat.lt_irrefl k)] at cY
        have fY := Joins.unfrozen_of_block hblk k
        have c256 := (Joins.cell_of_block hblk 256).trans h256
        have HB := hid hblk
        have HA := hid harr
        have HE1 := hid e1
        have H256 := hid h256
        have HMEM := hid hmem
        have HLL := hid hll
        have HRW := hid hrow
        rw [← hn] at hown' hlen
        have HROW : Hid (w2.ownsRow (w.heap.size + 3) 35 4 vy n (flatW ls)) := hid (by rw [hn]; exact hrow)
        obtain ⟨pv, capv, rfl⟩ := own_slice HROW.out
        have HLN := hid hn
        have hkn : ¬ (256 : Nat) = k := by omega
        have hkn2 : ¬ k = (256 : Nat) := by omega
        clear hn m1 m2 hown hblk harr h256 hrow hmem e1 e2 hll hinv hno hold
        go_wp2_with (first
          | (at_lookup; go_must (refine wpList_lookup_own_ok_int _ rfl _ _ 89 rfl 92 3 .i64 sigLaw Tryd.underlying89 Tryd.underlying3 (zeroInt _) _ _ D rfl hown' (.agg #[.int .i64 (of k : Int), .bool (s.mem k)]) (kl (of k) (s.mem k)) rfl (key_is (of k) (hof k) (s.mem k)) ?_; intro c hat hwc; rw [m1']; clear hat hwc))
          | (at_mapUpdate; go_must (refine wpList_mapUpdate_own _ rfl _ _ _ 89 rfl 92 3 sigLaw Tryd.underlying89 _ (w.heap.size + 1 + 1) n D rfl hown' (by unfold maxLen; omega) (.agg #[.int .i64 (of k : Int), .bool (s.mem k)]) (.int .i64 (n : Int)) (kl (of k) (s.mem k)) rfl rfl (key_is (of k) (hof k) (s.mem k)) (.lit (.int .i64 (n : Int))) [] (plainElem_int Tryd.underlying3 (WalkArith.wf_i64 (by omega))) ?_; intro w3 hown3 hgr3; have HOWN3 := hid hown3; have HG3 := hid hgr3; have hs3 := hgr3.size; have c256' := (World.cell?_of_block (a := ⟨w.heap.size + 1, 256, none⟩) (hgr3.block (w.heap.size + 1) (by omega) (by simp))).trans c256; clear hown3 hgr3 hown' c256 cY fY))
          | (at_builtin; go_must (refine wpList_append_own_at _ rfl (.tmp 50) (.tmp 52) 22 rfl (w.heap.size + 3) 35 i0 (.agg #[.int .u64 0, .int .u64 0, .int .u64 0, .int .u64 0]) 4 32 Tryd.underlying22 hif hz0 hz1 hz2 rfl (by decide) _ n (flatW ls) rfl (ownsAlloc (ownsKeep HROW.out HG3.out (by intro g hg e; have := (ownsLt HROW.out hg).1; injection e with e; omega)) _) ⟨_, 0, none⟩ 1 1 (cells4W noW) rfl rfl (cell_four_new _ _) four_cells (by unfold maxLen; omega) (by omega) (by simp; omega) ?_); intro v4 w4 ho4 hg4 _ _; obtain ⟨p4, cap4, rfl⟩ := own_slice ho4; have hs4 : w3.heap.size + 1 ≤ w4.heap.size := (by have := hg4.size; simpa using this); have B4 : w4.heap[w.heap.size + 1]? = some (.cells arr 84) := (hg4.block (w.heap.size + 1) (by simp; omega) (fun e => by have := (ownsLt HROW.out e.symm).1; omega)).trans ((Below.heap_alloc _ _ _ (by omega)).trans ((HG3.out.block (w.heap.size + 1) (by omega) (by simp)).trans HB.out)); have HF := hid (MoreAt.fresh (sigE_sorts of s) HM2.out HB.out HA.out H256.out HROW.out HLN.out HLL.out HMEM.out HOWN3.out (by rw [HLN.out]; exact HI.out) HG3.out ho4 hg4); have f256 := Joins.unfrozen_of_block B4 256; have fK := Joins.unfrozen_of_block B4 k; have c256' := (Joins.cell_of_block B4 256).trans H256.out; have cK := (Joins.cell_of_block B4 k).trans (HA.out k hlk); clear B4 ho4 hg4))
        have hM3 := HF.out.cellPut hlk HNM.out
        rw [← HE1.out] at hM3
        generalize (w4.setCell ⟨w.heap.size + 1, 256, none⟩ (.slice p4 (n + 1) cap4)).setCell ⟨w.heap.size + 1, k, none⟩ (.int .i64 (n : Int)) = wz at *
        have HM3 := hid hM3
        clear hM3 f256 fK c256' cK d0 d1 HS hs2 HG3 HF HOWN3
        have hsz3 := HM3.out.size
        obtain ⟨gr, cap, t, _, o1, o2, o3, o4, o5, ⟨cur, o6⟩, o7, o8⟩ := HM3.out.opens hnl hlk HNM.out
        have OPEN := hid o8
        have O7 := hid o7
        clear o8 o7
        have hS3 : HeldR w wz gr n (leads (sigE of s) (k + 1)).length cap t wz := ⟨o1, o2.1, o2.2.1, o2.2.2.1, o2.2.2.2, by omega, o5, Below.refl _ _⟩
        have O2 := hid o2
        have O1 := hid o1
        clear o1 o2
        refine Reg.wp_region_toldY 19 _ (rowTold (w.heap.size + 1) gr n k (leads (sigE of s) (k + 1)).length cap t) [0, 1, 2, 3, 4, 5, 6, 7, 8, 9, 10, 11, 12, 13, 14, 15, 16, 17, 18, 19] (by kernel_rfl) (by rfl) (by rfl) (by kernel_rfl) (by kernel_rfl) (by kernel_rfl) ?_ ?_
        focus
          refine ⟨Reg.opOK_plain (by rfl) fun G listed A wv hI hall => .inl ⟨Reg.wanted_none rfl, ?_⟩, ?_⟩
          focus
            have e5 := hI.evo (d := 5) (by kernel_rfl) rfl
            clear hI hall hS3
            unfold Reg.Yields
            go_simp
            exact Reg.good_val (by rfl) (by rfl) (Below.refl _ _)
          refine ⟨Reg.opOK_plain (by rfl) fun G listed A wv hI hall => .inl ⟨Reg.wanted_none rfl, ?_⟩, ?_⟩
          focus
            have e62 := hI.ev (i := 0) (d := 62) (by rfl) (by rfl) (hall ⟨0, .data⟩ (by simp) rfl)
            clear hI hall hS3
            unfold Reg.Yields
            go_simp
            exact Reg.good_val (by rfl) (by rfl) (Below.refl _ _)
          refine ⟨Reg.opOK_plain (by rfl) fun G listed A wv hI hall => .inl ⟨Reg.wanted_none rfl, ?_⟩, ?_⟩
          focus
            have e63 := hI.ev (i := 1) (d := 63) (by rfl) (by rfl) (hall ⟨1, .data⟩ (by simp) rfl)
            clear hI hall hS3
            unfold Reg.Yields
            go_simp
            exact Reg.good_val (by rfl) (by rfl) (Below.refl _ _)
          refine ⟨Reg.opOK_plain (by rfl) fun G listed A wv hI hall => .inl ⟨Reg.wanted_none rfl, ?_⟩, ?_⟩
          focus
            have H := heldR_call (heldR_drew hS3) hI.base
            have e64 := hI.ev (i := 2) (d := 64) (by rfl) (by rfl) (hall ⟨2, .data⟩ (by simp) rfl)
            clear hI hall hS3
            unfold Reg.Yields
            go_simp
            exact Reg.good_val (by rfl) (by rfl) (Below.refl _ _)
          refine ⟨Reg.opOK_plain (by rfl) fun G listed A wv hI hall => .inl ⟨Reg.wanted_none rfl, ?_⟩, ?_⟩
          focus
            have e9 := hI.evo (d := 9) (by kernel_rfl) rfl
            clear hI hall hS3
            unfold Reg.Yields
            go_simp
            exact Reg.good_val (by rfl) (by rfl) (Below.refl _ _)
          refine ⟨Reg.opOK_plain (by rfl) fun G listed A wv hI hall => .inl ⟨Reg.wanted_none rfl, ?_⟩, ?_⟩
          focus
            have e5 := hI.evo (d := 5) (by kernel_rfl) rfl
            clear hI hall hS3
            unfold Reg.Yields
            go_simp
            exact Reg.good_val (by rfl) (by rfl) (Below.refl _ _)
          refine ⟨Reg.opOK_plain (by rfl) fun G listed A wv hI hall => .inl ⟨Reg.wanted_none rfl, ?_⟩, ?_⟩
          focus
            have e67 := hI.ev (i := 5) (d := 67) (by rfl) (by rfl) (hall ⟨5, .data⟩ (by simp) rfl)
            clear hI hall hS3
            unfold Reg.Yields
            go_simp
            exact Reg.good_val (by rfl) (by rfl) (Below.refl _ _)
          refine ⟨Reg.opOK_plain (by rfl) fun G listed A wv hI hall => .inl ⟨Reg.wanted_none rfl, ?_⟩, ?_⟩
          focus
            have e68 := hI.ev (i := 6) (d := 68) (by rfl) (by rfl) (hall ⟨6, .data⟩ (by simp) rfl)
            clear hI hall hS3
            unfold Reg.Yields
            go_simp
            exact Reg.good_val (by rfl) (by rfl) (Below.refl _ _)
          refine ⟨Reg.opOK_plain (by rfl) fun G listed A wv hI hall => .inl ⟨Reg.wanted_none rfl, ?_⟩, ?_⟩
          focus
            have H := heldR_call (heldR_drew hS3) hI.base
            have e69 := hI.ev (i := 7) (d := 69) (by rfl) (by rfl) (hall ⟨7, .data⟩ (by simp) rfl)
            clear hI hall hS3
            unfold Reg.Yields
            go_simp
            exact Reg.good_val (by rfl) (by rfl) (Below.refl _ _)
          refine ⟨Reg.opOK_plain (by rfl) fun G listed A wv hI hall => .inl ⟨Reg.wanted_none rfl, ?_⟩, ?_⟩
          focus
            have e9 := hI.evo (d := 9) (by kernel_rfl) rfl
            clear hI hall hS3
            unfold Reg.Yields
            go_simp
            exact Reg.good_val (by rfl) (by rfl) (Below.refl _ _)
          refine ⟨Reg.opOK_plain (by rfl) fun G listed A wv hI hall => .inl ⟨Reg.wanted_none rfl, ?_⟩, ?_⟩
          focus
            have e70 := hI.ev (i := 8) (d := 70) (by rfl) (by rfl) (hall ⟨8, .data⟩ (by simp) rfl)
            have e71 := hI.ev (i := 9) (d := 71) (by rfl) (by rfl) (hall ⟨9, .data⟩ (by simp) rfl)
            clear hI hall hS3
            unfold Reg.Yields
            go_simp
            exact Reg.good_val (by rfl) (by rfl) (Below.refl _ _)
          refine ⟨Reg.opOK_plain (by rfl) fun G listed A wv hI hall => .inl ⟨Reg.wanted_none rfl, ?_⟩, ?_⟩
          focus
            have H := heldR_call (heldR_drew hS3) hI.base
            have e72 := hI.ev (i := 10) (d := 72) (by rfl) (by rfl) (hall ⟨10, .data⟩ (by simp) rfl)
            clear hI hall hS3
            unfold Reg.Yields
            go_simp
            exact Reg.good_val (by rfl) (by rfl) (Below.refl _ _)
          refine ⟨Reg.opOK_plain (by rfl) fun G listed A wv hI hall => .inl ⟨Reg.wanted_none rfl, ?_⟩, ?_⟩
          focus
            have e7 := hI.evo (d := 7) (by kernel_rfl) rfl
            clear hI hall hS3
            unfold Reg.Yields
            go_simp
            exact Reg.good_val (by rfl) (by rfl) (Below.refl _ _)
          refine ⟨Reg.opOK_plain (by rfl) fun G listed A wv hI hall => .inl ⟨Reg.wanted_none rfl, ?_⟩, ?_⟩
          focus
            have e74 := hI.ev (i := 12) (d := 74) (by rfl) (by rfl) (hall ⟨12, .data⟩ (by simp) rfl)
            clear hI hall hS3
            unfold Reg.Yields
            go_simp
            exact Reg.good_val (by rfl) (by rfl) (Below.refl _ _)
          refine ⟨Reg.opOK_plain (by rfl) fun G listed A wv hI hall => .inl ⟨Reg.wanted_none rfl, ?_⟩, ?_⟩
          focus
            have e75 := hI.ev (i := 13) (d := 75) (by rfl) (by rfl) (hall ⟨13, .data⟩ (by simp) rfl)
            clear hI hall hS3
            unfold Reg.Yields
            go_simp
            exact Reg.good_new (by rfl) (by rfl) (by rfl)
          refine ⟨Reg.opOK_plain (by rfl) fun G listed A wv hI hall => .inl ⟨Reg.wanted_none rfl, ?_⟩, ?_⟩
          focus
            obtain ⟨e76, _, b76⟩ := hI.evm (i := 14) (d := 76) (by rfl) (by rfl) (hall ⟨14, .data⟩ (by simp) rfl)
            clear hI hall hS3
            unfold Reg.Yields
            go_simp
            exact (of_blk hlk b76).mono fun e w'' ⟨he, hb⟩ => ⟨_, he, Reg.good_val (by rfl) (by rfl) hb⟩
          refine ⟨Reg.opOK_plain (by rfl) fun G listed A wv hI hall => .inl ⟨Reg.wanted_none rfl, ?_⟩, ?_⟩
          focus
            have e73 := hI.ev (i := 11) (d := 73) (by rfl) (by rfl) (hall ⟨11, .data⟩ (by simp) rfl)
            have e77 := hI.ev (i := 15) (d := 77) (by rfl) (by rfl) (hall ⟨15, .data⟩ (by simp) rfl)
            clear hI hall hS3
            unfold Reg.Yields
            go_simp
            exact Reg.good_new (by rfl) (by rfl) (by rfl)
          refine ⟨Reg.opOK_plain (by rfl) fun G listed A wv hI hall => .inl ⟨Reg.wanted_none rfl, ?_⟩, ?_⟩
          focus
            obtain ⟨e78, _, b78⟩ := hI.evm (i := 16) (d := 78) (by rfl) (by rfl) (hall ⟨16, .data⟩ (by simp) rfl)
            clear hI hall hS3
            unfold Reg.Yields
            go_simp
            exact (union_blkW b78).mono fun e w'' ⟨he, hb⟩ => ⟨_, he, Reg.good_val (by rfl) (by rfl) hb⟩
          refine ⟨Reg.opOK_plain (by rfl) fun G listed A wv hI hall => .inl ⟨Reg.wanted_none rfl, ?_⟩, ?_⟩
          focus
            have e65 := hI.ev (i := 3) (d := 65) (by rfl) (by rfl) (hall ⟨3, .data⟩ (by simp) rfl)
            have e66 := hI.ev (i := 4) (d := 66) (by rfl) (by rfl) (hall ⟨4, .data⟩ (by simp) rfl)
            clear hI hall hS3
            unfold Reg.Yields
            go_simp
            exact Reg.good_val (by rfl) (by rfl) (Below.refl _ _)
          trivial
        intro G wy hI
        obtain ⟨h0, h1, h2, h3, h4, h5, h6, h7⟩ := heldR_call (heldR_drew hS3) hI.base
        have hu : wy.heap[gr]? = some (.cells cur 35) := (hI.base.block _ o5).trans o6
        have z0 := Joins.unfrozen_of_block hu (n * 4)
        have z1 := Joins.unfrozen_of_block hu (n * 4 + 1)
        have z2 := Joins.unfrozen_of_block hu (n * 4 + 2)
        have z3 := Joins.unfrozen_of_block hu (n * 4 + 3)
        have HN := hid (OPEN.out wy (addW t k) h7 (addW_fit t k) (fun m hm => addW_mem t o3 k m hlk hm))
        clear hI hu hS3
        refine ⟨by unfold Region.wanted; rfl, ?_⟩
        simp [Reg.finalTmps, Reg.dstAt, Reg.valOf, rowTold]
        unfold Reg.Yields
        go_simp
        generalize hW5 : ((((wy.setCell ⟨gr, n * 4, none⟩ (.int .u64 (addW t k).a)).setCell ⟨gr, n * 4 + 1, none⟩ (.int .u64 (addW t k).b)).setCell ⟨gr, n * 4 + 2, none⟩ (.int .u64 (addW t k).c)).setCell ⟨gr, n * 4 + 3, none⟩ (.int .u64 (addW t k).d)) = w5
        have HN5 : Hid (MoreAt w s (sigF of s) (sigE of s) (k + 1) (k + 1) (leads (sigE of s) (k + 1)) w5) := by rw [← hW5]; exact HN
        clear hW5 z0 z1 z2 z3 h0 h1 h2 h3 h4 h5 h6 h7
        go_wp2_with fail
        go_roundw
        case rel => exact ⟨k + 1, by omega, by go_num, HN5.out⟩
        case measure => simp [intOf]; omega
    · obtain rfl : k = 256 := by omega
      have HM := hid hM
      clear hM
      go_wp2_with fail
      go_ret
      exact ⟨rfl, HM.out.be, HM.out.done (sigE_sorts of s)⟩
end Go.Proofs.YtkjbecdngjdkhaaDoor
