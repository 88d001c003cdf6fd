/- Contracts of token: a pattern's tokens. -/
import Derived.Test.YtcicdiooifjcbaaDoorTokV
import Derived.Test.YtcicdiooifjcbaaDoorOwn
namespace Go.Proofs.YtcicdiooifjcbaaDoor
open Go Go.RowKit
attribute [local go_sem ↓] Go.wp_at_zero Go.wp_at_succ
attribute [local go_sem] eq4
/-- A token's cells. -/
def tcells (x : TokM × Nat × Nat) : List Value := [.int .i64 x.1.kind, .int .i64 (x.2.1 : Int), .int .i64 (x.2.2 : Int), .int .u64 x.1.set.a, .int .u64 x.1.set.b, .int .u64 x.1.set.c, .int .u64 x.1.set.d, .int .i64 x.1.lo, .int .i64 x.1.hi, .bool x.1.lazy]
def flatT (l : List (TokM × Nat × Nat)) : List Value := l.flatMap tcells
theorem flatT_snoc (l : List (TokM × Nat × Nat)) (x : TokM × Nat × Nat) : flatT (l ++ [x]) = flatT l ++ tcells x := by
  unfold flatT; rw [List.flatMap_append]; simp
theorem Tryd.infoTok : (Tryd.prog.info? 35).map (fun i => (i.zero, i.size, i.bytes)) = some (some (.agg #[.int .i64 0, .int .i64 0, .int .i64 0, .int .u64 0, .int .u64 0, .int .u64 0, .int .u64 0, .int .i64 0, .int .i64 0, .bool false]), 10, 80) := by kernel_rfl
theorem ten_cells (x : TokM × Nat × Nat) : ∀ u ∈ tcells x, u.oneCell' = true := by
  intro u hu
  simp only [tcells, List.mem_cons, List.not_mem_nil, or_false] at hu
  rcases hu with rfl | rfl | rfl | rfl | rfl | rfl | rfl | rfl | rfl | rfl <;> rfl
theorem cell_ten_at (w : World) (ty : TypeId) (t : TokM) (i k g : Nat) (hg : g = w.heap.size) : ∀ j u, (tcells (t, i, k))[j]? = some u → (w.alloc (.cells #[.int .i64 t.kind, .int .i64 (i : Int), .int .i64 (k : Int), .int .u64 t.set.a, .int .u64 t.set.b, .int .u64 t.set.c, .int .u64 t.set.d, .int .i64 t.lo, .int .i64 t.hi, .bool t.lazy] ty)).cell? ((⟨g, 0, none⟩ : Addr).add j) = some u := by
  subst hg
  intro j u hj
  have h := heap_new w (.cells #[.int .i64 t.kind, .int .i64 (i : Int), .int .i64 (k : Int), .int .u64 t.set.a, .int .u64 t.set.b, .int .u64 t.set.c, .int .u64 t.set.d, .int .i64 t.lo, .int .i64 t.hi, .bool t.lazy] ty)
  have hc := Joins.cell_of_block h j
  have e : ((⟨w.heap.size, 0, none⟩ : Addr).add j) = ⟨w.heap.size, j, none⟩ := by simp [Addr.add]; intro h; exact h.symm
  rw [e, hc, ← hj]
  simp [tcells]
/-- Tokens in a slice of the call's own, which may grow. -/
def TokGrow (B : Nat) (l : List (TokM × Nat × Nat)) (v : Value) (w : World) : Prop := w.ownsRow B 35 10 v l.length (flatT l)
theorem TokGrow.start (B : Nat) (w : World) : TokGrow B [] (.slice none 0 0) w := ⟨rfl, .inl ⟨rfl, rfl⟩⟩
theorem TokGrow.below {B : Nat} {l : List (TokM × Nat × Nat)} {v : Value} {w w1 : World} (h : TokGrow B l v w) (hb : Below w.heap.size w w1) : TokGrow B l v w1 := ownsBelow h hb
theorem TokGrow.rd {B : Nat} {l : List (TokM × Nat × Nat)} {v : Value} {w w1 : World} {g k : Nat} {s : ByteArray} (h : TokGrow B l v w) (hr : Rd w w1 g s k) (hg : g < B) : TokGrow B l v w1 :=
  ownsKeep h hr.2 (by intro b hb e; have := (ownsLt h hb).1; injection e with e; omega)
theorem rd_grown {w w1 : World} {row : Option Nat} {g k : Nat} {s : ByteArray} (h : RdAt w g s k) (hg : w.grownBy w1 row) (hne : row ≠ some g) : RdAt w1 g s k :=
  ⟨hg.cell h.c0 (fun e => hne e.symm), hg.cell h.c1 (fun e => hne e.symm), (World.frozen?_of_block (w := w) (a := ⟨g, 0, none⟩) (hg.block g h.lt (fun e => hne e.symm))).trans h.fz, Nat.lt_of_lt_of_le h.lt hg.size⟩
/-- What Scan tells beside the tokens: how many they are, or where it can't go on. -/
def scanN (r : List (TokM × Nat × Nat) × Int × Nat) : Int := if r.2.1 = 0 then (r.1.length : Int) else (r.2.2 : Int)
theorem fin3 {r : List (TokM × Nat × Nat) × Int × Nat} {l : List (TokM × Nat × Nat)} {c : Int} {j : Nat} {n : Int} {v : Value} {w w' : World} (h : r = (l, c, j)) (hn : scanN (l, c, j) = n) (hg : TokGrow (w.heap.size + 1) l v w') (hb : Below w.heap.size w w') :
    ∃ u, Ending.returned (.tuple #[v, .int .i64 n, .int .i64 c]) = .returned (.tuple #[u, .int .i64 (scanN r), .int .i64 r.2.1]) ∧ TokGrow (w.heap.size + 1) r.1 u w' ∧ Below w.heap.size w w' := by
  subst h; subst hn; exact ⟨v, rfl, hg, hb⟩
set_option maxRecDepth 100000 in
set_option maxHeartbeats 4000000 in
theorem tscan_any (s : ByteArray) (hs : s.size ≤ 1048576) (w : World) (hT : Tab w) :
    Calls Tryd.prog 6 #[.string s] w fun e w' => ∃ v, e = .returned (.tuple #[v, .int .i64 (scanN (scanAll s)), .int .i64 (scanAll s).2.1]) ∧ TokGrow (w.heap.size + 1) (scanAll s).1 v w' ∧ Below w.heap.size w w' := by
  have HT := qhid hT
  have hne : 1 ≠ w.heap.size := by have := hT.lt; omega
  have EN := qhid (fun k W (hW : RdAt W w.heap.size s k) => tended_any w.heap.size s k W hW)
  have TK := qhid (fun k (hk : k < s.size) W (hW : RdAt W w.heap.size s k) (hTW : Tab W) => ttoken_any w.heap.size k s hk (by omega) W hW hTW hne)
  have dlen : decide ((1048576 : Int) < (s.size : Int)) = false := decide_eq_false (by omega)
  obtain ⟨i0, hif, hy0, hy1, hy2⟩ := info_parts Tryd.infoTok
  clear hT hne
  go_enter Tryd.func6, Tryd.ntmps6
  go_wp2_with fail
  go_loopg [5] s.size (fun n v wr => ∃ (k : Nat) (l : List (TokM × Nat × Nat)), k + n = s.size ∧ Hid (ScanAt s l k) ∧ l.length ≤ k ∧ Hid (RdAt wr w.heap.size s k) ∧ Hid (TokGrow (w.heap.size + 1) l v wr) ∧ Hid (Below w.heap.size w wr))
  case atStart =>
    refine ⟨0, [], by omega, qhid (ScanAt.start s), by simp, qhid ⟨?_, ?_, ?_, by simp⟩, qhid (TokGrow.start _ _), qhid (below1 _ _)⟩
    · exact Joins.cell_of_block (heap_new w _) 0
    · exact Joins.cell_of_block (heap_new w _) 1
    · exact Joins.unfrozen_of_block (heap_new w _) 0
  case round =>
    obtain ⟨k, l, hkn, HSA, hll, HR, HG, HB⟩ := hrel
    have ENk := qhid (EN.out k _ HR.out)
    by_cases hk : k < s.size
    · rw [decide_eq_false (by omega : ¬ s.size ≤ k)] at ENk
      have TKk := qhid (TK.out k hk)
      have hjle := (tokenR_tok hk).le
      have hjon := (tokenR_tok hk).on
      have HST := qhid (fun he => HSA.out.step hk he)
      have HBD := qhid (fun he => HSA.out.bad hk he)
      have herr := (tokenR_tok hk).err
      obtain ⟨r, hr⟩ : ∃ r, r = tokenR s k := ⟨_, rfl⟩
      rw [← hr] at TKk hjle hjon HST HBD herr
      clear hr
      obtain ⟨t, c, j⟩ := r
      have TKk : Hid (∀ W, RdAt W w.heap.size s k → Tab W → Calls Tryd.prog 13 #[.pointer (some ⟨w.heap.size, 0, none⟩)] W fun e w' => e = .returned (.tuple #[.agg #[.int .i64 t.kind, .int .i64 (k : Int), .int .i64 (j : Int), .int .u64 t.set.a, .int .u64 t.set.b, .int .u64 t.set.c, .int .u64 t.set.d, .int .i64 t.lo, .int .i64 t.hi, .bool t.lazy], .int .i64 c]) ∧ Rd W w' w.heap.size s j) := TKk
      go_wp2_with fail
      refine ENk.out.mono ?_
      rintro e w1 ⟨rfl, n1, hw1⟩
      have HR1 : Hid (RdAt w1 w.heap.size s k) := qhid (by rw [hw1]; exact only_rd HR.out n1)
      have HG1 : Hid (TokGrow (w.heap.size + 1) l _ w1) := qhid (by rw [hw1]; exact HG.out)
      have HB1 : Hid (Below w.heap.size w w1) := qhid (by rw [hw1]; exact ⟨HB.out.os, HB.out.tape, HB.out.output, HB.out.size, HB.out.block⟩)
      have HT1 : Hid (Tab w1) := qhid (HT.out.below HB1.out HT.out.lt)
      clear hw1 HR HG HB ENk
      go_wp2_with fail
      refine (TKk.out _ HR1.out HT1.out).mono ?_
      rintro e w2 ⟨rfl, hr2⟩
      have HR2 := qhid hr2.1
      have HG2 := qhid (HG1.out.rd hr2 (by omega))
      have HB2 := qhid (HB1.out.grown hr2.2 HB1.out.size (fun b hb => by injection hb with hb; omega))
      have hsz2 := HB2.out.size
      have hlt2 := HR2.out.lt
      clear hr2 HR1 HG1 HB1 HT1 TKk
      rcases errS herr with rfl | ⟨hc0, hc1, hc2⟩
      · have HS2 := qhid (HST.out rfl)
        have hjk : k < j := hjon rfl
        clear HST HBD herr hjon HSA
        go_wp2_with (at_builtin; go_must (refine wpList_append_own_at _ rfl (.tmp 26) (.tmp 28) 23 rfl (w.heap.size + 1) 35 i0 (.agg #[.int .i64 0, .int .i64 0, .int .i64 0, .int .u64 0, .int .u64 0, .int .u64 0, .int .u64 0, .int .i64 0, .int .i64 0, .bool false]) 10 80 Tryd.underlying23 hif hy0 hy1 hy2 rfl (by decide) _ l.length (flatT l) rfl (ownsAlloc (ownsAlloc HG2.out _) _) ⟨_, 0, none⟩ 1 1 (tcells (t, k, j)) rfl rfl (cell_ten_at _ _ t k j _ (by simp)) (ten_cells (t, k, j)) (by unfold maxLen; omega) (by omega) (by simp; omega) ?_; intro v4 w4 ho hg4 _ _))
        have hro : ∀ b, Value.ownBlock _ = some b → w.heap.size + 1 ≤ b := fun b hb => (ownsLt HG2.out hb).1
        have HR4 := qhid (rd_grown (rd_alloc (rd_alloc HR2.out _) _) hg4 (fun e => by have := hro _ e; omega))
        have HG4 : Hid (TokGrow (w.heap.size + 1) (l ++ [(t, k, j)]) v4 w4) := qhid (by unfold TokGrow; rw [List.length_append, flatT_snoc]; exact ho)
        have HB4 := qhid (((HB2.out.alloc hsz2 _).alloc (by simp; omega) _).grown hg4 (by simp; omega) (fun b hb => by have := hro _ hb; omega))
        clear ho hg4 hro
        go_wp2_with fail
        go_roundg (s.size - j)
        case measure => omega
        case rel => exact ⟨j, l ++ [(t, k, j)], by omega, HS2, by simp; omega, HR4, HG4, HB4⟩
      · have HSC := qhid (HBD.out hc0)
        clear HST HBD herr hjon HSA HT EN TK
        obtain ⟨y0, y1, yz, yl⟩ := HR2.out
        go_wp2_with fail
        go_region
        go_wp2_with fail
        refine bodyPost_ret (v := .tuple #[.slice none 0 0, .int .i64 (j : Int), .int .i64 c]) (by simp [results, Tryd.results6, go_sem]) rfl (fin3 HSC.out (by unfold scanN; rw [if_neg hc0]) (TokGrow.start _ _) ((HB2.out.alloc hsz2 _).drew))
    · have hke : s.size ≤ k := by omega
      rw [decide_eq_true hke] at ENk
      have HSC := qhid (HSA.out.done hke)
      clear HSA TK HT EN
      go_wp2_with fail
      refine ENk.out.mono ?_
      rintro e w1 ⟨rfl, n1, hw1⟩
      have HG1 : Hid (TokGrow (w.heap.size + 1) l _ w1) := qhid (by rw [hw1]; exact HG.out)
      have HB1 : Hid (Below w.heap.size w w1) := qhid (by rw [hw1]; exact ⟨HB.out.os, HB.out.tape, HB.out.output, HB.out.size, HB.out.block⟩)
      clear hw1
      obtain ⟨p4, cap4, rfl⟩ := own_slice HG1.out
      go_wp2_with fail
      refine bodyPost_ret (v := .tuple #[.slice p4 l.length cap4, .int .i64 (l.length : Int), .int .i64 0]) (by simp [results, Tryd.results6, go_sem]) rfl (fin3 HSC.out rfl HG1.out HB1.out)
end Go.Proofs.YtcicdiooifjcbaaDoor
