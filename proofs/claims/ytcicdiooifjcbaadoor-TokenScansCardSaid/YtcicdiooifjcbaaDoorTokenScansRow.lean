/- Contracts of the document's own answers on tokens: all tokens of a pattern. For any pattern the law TokenScans answers true, walked. For any text the law TokenScans answers true: the tokens of a pattern of at most three hundred bytes, the place and the error are the document's. The table of trailing zeros lies as its initialiser lays it; no other condition. -/
import Derived.Test.YtcicdiooifjcbaaDoorRfL
import Derived.Test.YtcicdiooifjcbaaDoorTokY
import Derived.Test.YtcicdiooifjcbaaDoorLaid
import Derived.Test.YtcicdiooifjcbaaDoorTie
import Derived.Test.YtcicdiooifjcbaaDoorCards
import Derived.ChangeMaps5
import Derived.ProofKit
import Derived.SevenTiedAt
namespace Go.Proofs.YtcicdiooifjcbaaDoor
section
open Go Go.RowKit
attribute [local go_sem ↓] Go.wp_at_zero Go.wp_at_succ
attribute [local go_sem] eq4
theorem Tryd.infoRTok : (Tryd.prog.info? 34).map (fun i => (i.zero, i.size, i.bytes)) = some (some (.agg #[.int .i64 0, .int .i64 0, .int .i64 0, .int .u64 0, .int .u64 0, .int .u64 0, .int .u64 0, .int .i64 0, .int .i64 0, .bool false]), 10, 80) := by kernel_rfl
/-- The document's tokens in a slice of the call's own, which may grow. -/
def RTGrow (B : Nat) (l : List (TokM × Nat × Nat)) (v : Value) (w : World) : Prop := w.ownsRow B 34 10 v l.length (flatT l)
theorem RTGrow.start (B : Nat) (w : World) : RTGrow B [] (.slice none 0 0) w := ⟨rfl, .inl ⟨rfl, rfl⟩⟩
theorem RTGrow.below {B : Nat} {l : List (TokM × Nat × Nat)} {v : Value} {w w1 : World} (h : RTGrow B l v w) (hb : Below w.heap.size w w1) : RTGrow B l v w1 := ownsBelow h hb
theorem RTGrow.at {B : Nat} {l : List (TokM × Nat × Nat)} {v : Value} {w : World} (h : RTGrow B l v w) : TokAt w v l := by
  rcases h.2 with ⟨rfl, h2⟩ | ⟨g, cap, cur, rfl, hb, hh, hcap, hmax, hcs, htake⟩
  · refine ⟨none, 0, by rw [h2], fun i x hi => ?_⟩
    rw [List.length_eq_zero_iff.1 h2] at hi; simp at hi
  · refine ⟨_, cap, rfl, fun i x hi => ⟨g, rfl, (Array.getElem?_eq_some_iff.1 hh).1, fun o u hu => ?_⟩⟩
    have hox := flatT_get l i o x u hi hu
    rw [Joins.cell_of_block hh, ← Array.getElem?_toList]
    rw [← htake] at hox
    obtain ⟨hl, _⟩ := List.getElem?_eq_some_iff.1 hox
    rw [List.getElem?_take_of_lt (by rw [List.length_take] at hl; omega)] at hox
    exact hox
theorem rfin3 {r : List (TokM × Nat × Nat) × Int × Nat} {l : List (TokM × Nat × Nat)} {c : Int} {j : Nat} {n : Int} {v : Value} {w w' : World} (h : r = (l, c, j)) (hn : scanN (l, c, j) = n) (hg : RTGrow w.heap.size l v w') (hb : Below w.heap.size w w') :
    ∃ u, Ending.returned (.tuple #[v, .int .i64 n, .int .i64 c]) = .returned (.tuple #[u, .int .i64 (scanN r), .int .i64 r.2.1]) ∧ RTGrow w.heap.size r.1 u w' ∧ Below w.heap.size w w' := by
  subst h; subst hn; exact ⟨v, rfl, hg, hb⟩
theorem rt_to {w : World} {b : Nat} {t : TokM} {i : Int} (h : w.heap[b]? = some (rtOb t i)) (j : Nat) : ∀ o u, (tcells (t, 0, j))[o]? = some u → o ≠ 1 → (w.setCell ⟨b, 2, none⟩ (.int .i64 (j : Int))).cell? ⟨b, o, none⟩ = some u := by
  intro o u ho h1
  have e := Joins.block_setCell (i := 2) h (.int .i64 (j : Int))
  rw [Joins.cell_of_block e o, ← ho]
  match o, h1 with
  | 0, _ => simp [tcells]
  | 2, _ => simp [tcells]
  | 3, _ => simp [tcells]
  | 4, _ => simp [tcells]
  | 5, _ => simp [tcells]
  | 6, _ => simp [tcells]
  | 7, _ => simp [tcells]
  | 8, _ => simp [tcells]
  | 9, _ => simp [tcells]
  | o + 10, _ => simp [tcells]
structure ScS (w : World) (b j : Nat) (c : Int) (listed : Array Bool) (X : World) : Prop where
  en : OwnEnd X b (j : Int) c
  bel : Below w.heap.size w X
theorem ScS.same {w : World} {b j : Nat} {c : Int} {listed listed' : Array Bool} {X : World} (h : ScS w b j c listed X) : ScS w b j c listed' X := ⟨h.en, h.bel⟩
theorem OwnEnd.grownBy_ {w w' : World} {b : Nat} {x y : Int} {row : Option Nat} (h : OwnEnd w b x y) (hg : w.grownBy w' row) (hne : row ≠ some b) : OwnEnd w' b x y := h.same (hg.block b h.lt (fun e => hne e.symm)) hg.size
def scTold (b j : Nat) (c : Int) : Nat → Value
  | 0 => .pointer (some ⟨b, 0, none⟩)
  | 1 => .int .i64 (j : Int)
  | 2 => .pointer (some ⟨b, 1, none⟩)
  | 3 => .int .i64 c
  | 4 => .slice none 0 0
  | 5 => .int .i64 (j : Int)
  | 6 => .int .i64 c
  | _ => undef
set_option maxRecDepth 100000 in
set_option maxHeartbeats 4000000 in
theorem refscan_any (s : ByteArray) (hs : s.size ≤ 1048576) (w : World) :
    Calls Tryd.prog 7 #[.string s] w fun e w' => ∃ v, e = .returned (.tuple #[v, .int .i64 (scanN (scanAll s)), .int .i64 (scanAll s).2.1]) ∧ RTGrow w.heap.size (scanAll s).1 v w' ∧ Below w.heap.size w w' := by
  have ONE := qhid (fun k (hk : k < s.size) W => refone_any s k hk (by omega) W)
  obtain ⟨i0, hif, hy0, hy1, hy2⟩ := info_parts Tryd.infoRTok
  go_enter Tryd.func7, Tryd.ntmps7
  go_wp2_with fail
  go_loopg [5, 6] s.size (fun n v at_ wr => ∃ (k : Nat) (l : List (TokM × Nat × Nat)), k + n = s.size ∧ at_ = .int .i64 (k : Int) ∧ Hid (ScanAt s l k) ∧ l.length ≤ k ∧ Hid (RTGrow w.heap.size l v wr) ∧ Hid (Below w.heap.size w wr))
  case atStart => exact ⟨0, [], by omega, rfl, qhid (ScanAt.start s), by simp, qhid (RTGrow.start _ _), qhid (Below.refl _ _)⟩
  case round =>
    obtain ⟨k, l, hkn, rfl, HSA, hll, HG, HB⟩ := hrel
    by_cases hk : k < s.size
    · have dk : decide (k < s.size) = true := decide_eq_true hk
      have TKk := qhid (ONE.out k hk)
      have hjle := (tokenR_tok hk).le
      have hjon := (tokenR_tok hk).on
      have HST := qhid (fun he => HSA.out.step hk he)
      have HBD := qhid (fun he => HSA.out.bad hk he)
      have herr := (tokenR_tok hk).err
      obtain ⟨r, hr⟩ : ∃ r, r = tokenR s k := ⟨_, rfl⟩
      rw [← hr] at TKk hjle hjon HST HBD herr
      clear hr
      obtain ⟨t0, c, j⟩ := r
      have TKk : Hid (∀ W, Calls Tryd.prog 14 #[.string s, .int .i64 (k : Int)] W fun e w' => OneOut (t0, c, j) (k : Int) e ∧ Below W.heap.size W w') := TKk
      have hjle : j ≤ s.size := hjle
      go_wp2_with fail
      refine (TKk.out _).mono ?_
      rintro e w2 ⟨⟨t, he, ht⟩, hb2⟩
      dsimp only at he ht
      subst he
      have HG2 := qhid ((HG.out.below hb2).below (below2 _ (rtOb t (k : Int)) (enOb j c)))
      have h2 := HB.out.trans (hb2.mono HB.out.size)
      have HB2 := qhid (h2.trans ((below2 w2 (rtOb t (k : Int)) (enOb j c)).mono h2.size))
      have HT2 : Hid (((w2.alloc (rtOb t (k : Int))).alloc (enOb j c)).heap[w2.heap.size]? = some (rtOb t (k : Int))) := qhid (below_kept (below1 _ _) (heap_new _ _))
      have HE2 : Hid (OwnEnd ((w2.alloc (rtOb t (k : Int))).alloc (enOb j c)) (w2.heap.size + 1) (j : Int) c) := qhid (by
        have h := heap_new (w2.alloc (rtOb t (k : Int))) (enOb j c)
        rw [World.size_alloc] at h
        exact OwnEnd.of h)
      have hb7 : w.heap.size ≤ w2.heap.size := h2.size
      have HNB := qhid (fun g hg => (ownsLt (HG.out.below hb2) (g := g) hg).2)
      clear hb2 h2 HG HB TKk
      go_upto_region 5 with fail
      obtain ⟨W, hW⟩ : ∃ W, W = (w2.alloc (rtOb t (k : Int))).alloc (enOb j c) := ⟨_, rfl⟩
      rw [← hW] at HG2 HB2 HT2 HE2
      change Code.wp _ _ _ _ ((w2.alloc (rtOb t (k : Int))).alloc (enOb j c))
      rw [← hW]
      clear hW
      generalize w2.heap.size = b7 at *
      obtain ⟨⟨z0, z1⟩, ⟨l0, l1⟩, hz⟩ := HE2.out
      have hne : ¬ b7 = b7 + 1 := by omega
      rcases errS herr with rfl | ⟨hc0, hc1, hc2⟩
      · have HS2 := qhid (HST.out rfl)
        have hjk : k < j := hjon rfl
        obtain rfl : t = t0 := ht rfl
        clear HST HBD herr hjon HSA ht
        obtain ⟨⟨v0, v1, v2, v3, v4, v5, v6, v7, v8, v9⟩, hv⟩ := rt_free HT2.out
        obtain ⟨⟨y0, y1, y2, y3, y4, y5, y6, y7, y8, y9⟩, hy⟩ := rt_cells HT2.out
        have HB3 : Hid (Below w.heap.size w (W.setCell ⟨b7, 2, none⟩ (.int .i64 (j : Int)))) := qhid (HB2.out.setCell (by simpa using hb7) _)
        have HT3 : Hid ((W.setCell ⟨b7, 2, none⟩ (.int .i64 (j : Int))).heap[b7]? = some (.cells #[.int .i64 t.kind, .int .i64 (k : Int), .int .i64 (j : Int), .int .u64 t.set.a, .int .u64 t.set.b, .int .u64 t.set.c, .int .u64 t.set.d, .int .i64 t.lo, .int .i64 t.hi, .bool t.lazy] 34)) := qhid ((Joins.block_setCell (i := 2) HT2.out (.int .i64 (j : Int))).trans (by simp))
        have HE3 : Hid (OwnEnd (W.setCell ⟨b7, 2, none⟩ (.int .i64 (j : Int))) (b7 + 1) (j : Int) 0) := qhid (HE2.out.same (heap_set _ (by omega)) (by simp [World.setCell]))
        have HG3 := qhid (ownsKeep HG2.out (only_setCell (only_refl W (some b7)) (p := ⟨b7, 2, none⟩) (.inl rfl) (.int .i64 (j : Int))) (fun g hg e => by have := HNB.out g hg; injection e with e; omega))
        go_upto_region 8 with fail
        obtain ⟨W3, hW3⟩ : ∃ X, X = W.setCell ⟨b7, 2, none⟩ (.int .i64 (j : Int)) := ⟨_, rfl⟩
        rw [← hW3] at HB3 HT3 HG3 HE3
        change Code.wp _ _ _ _ (W.setCell ⟨b7, 2, none⟩ (.int .i64 (j : Int)))
        rw [← hW3]
        clear hW3 v0 v1 v2 v3 v4 v5 v6 v7 v8 v9 hv y0 y1 y2 y3 y4 y5 y6 y7 y8 y9 hy z0 z1 l0 l1 hz HT2 HG2 HB2 HE2
        have y0 := Joins.cell_of_block HT3.out 0
        have y1 := Joins.cell_of_block HT3.out 1
        have y2 := Joins.cell_of_block HT3.out 2
        have y3 := Joins.cell_of_block HT3.out 3
        have y4 := Joins.cell_of_block HT3.out 4
        have y5 := Joins.cell_of_block HT3.out 5
        have y6 := Joins.cell_of_block HT3.out 6
        have y7 := Joins.cell_of_block HT3.out 7
        have y8 := Joins.cell_of_block HT3.out 8
        have y9 := Joins.cell_of_block HT3.out 9
        have hy := Reg.size_of_get HT3.out
        have hsz3 := HB3.out.size
        simp only [List.getElem?_toArray, List.getElem?_cons_zero, List.getElem?_cons_succ] at y0 y1 y2 y3 y4 y5 y6 y7 y8 y9
        go_wp2_with (at_builtin; go_must (refine wpList_append_own_at _ rfl (.tmp 29) (.tmp 31) 27 rfl w.heap.size 34 i0 (.agg #[.int .i64 0, .int .i64 0, .int .i64 0, .int .u64 0, .int .u64 0, .int .u64 0, .int .u64 0, .int .i64 0, .int .i64 0, .bool false]) 10 80 Tryd.underlying27 hif hy0 hy1 hy2 rfl (by decide) _ l.length (flatT l) rfl (ownsAlloc HG3.out _) ⟨_, 0, none⟩ 1 1 (tcells (t, k, j)) rfl rfl (cell_ten_at _ _ t k j _ (by simp)) (ten_cells (t, k, j)) (by unfold maxLen; omega) (by omega) (by simp; omega) ?_; intro v4 w4 ho hg4 _ _; have HE4 := qhid ((HE3.out.below (below1 _ _)).grownBy_ hg4 (fun e => Nat.lt_irrefl _ (Nat.lt_trans (HNB.out _ e) (Nat.lt_succ_self _)))); obtain ⟨⟨z0, z1⟩, ⟨l0, l1⟩, hz⟩ := HE4.out))
        have hro : ∀ b, Value.ownBlock _ = some b → w.heap.size ≤ b := fun b hb => (ownsLt HG3.out hb).1
        have HG4 : Hid (RTGrow w.heap.size (l ++ [(t, k, j)]) v4 w4) := qhid (by unfold RTGrow; rw [List.length_append, flatT_snoc]; exact ho)
        have HB4 := qhid ((HB3.out.alloc hsz3 _).grown hg4 (by simp; omega) (fun b hb => hro _ hb))
        go_roundg (s.size - j)
        case measure => omega
        case rel => exact ⟨j, l ++ [(t, k, j)], by omega, rfl, HS2, by simp; omega, HG4, HB4⟩
      · have HSC := qhid (HBD.out hc0)
        clear HST HBD herr hjon HSA ht ONE
        go_wp2_with fail
        refine Reg.wp_region_S (scTold (b7 + 1) j c) (ScS w (b7 + 1) j c) [0, 1, 2, 3, 4, 5, 6] (by rfl) (by kernel_rfl) (by kernel_rfl) ?_ ?_ ?_
        · exact ⟨⟨HE2.out.at_, HE2.out.free, HE2.out.lt⟩, ⟨HB2.out.os, HB2.out.tape, HB2.out.output, HB2.out.size, HB2.out.block⟩⟩
        · skip
          refine ⟨fun listed A X hI hin hun hall => .inl ⟨Reg.wanted_none rfl, ?_⟩, ?_⟩
          · have e8 := hI.evo (d := 8) (by kernel_rfl) rfl
            have HS := hI.st
            clear hI hall
            unfold Reg.Yields
            go_simp
            exact ⟨rfl, HS.same⟩
          refine ⟨fun listed A X hI hin hun hall => .inl ⟨Reg.wanted_none rfl, ?_⟩, ?_⟩
          · have e22 : A.tmps[22]? = some (.pointer (some ⟨b7 + 1, 0, none⟩)) := hI.ev (i := 0) (d := 22) (by rfl) (hall ⟨0, .data⟩ (by simp) rfl)
            have HS := hI.st
            obtain ⟨⟨z0, z1⟩, ⟨l0, l1⟩, hz⟩ := HS.en
            clear hI hall
            unfold Reg.Yields
            go_simp
            exact ⟨rfl, HS.same⟩
          refine ⟨fun listed A X hI hin hun hall => .inl ⟨Reg.wanted_none rfl, ?_⟩, ?_⟩
          · have e8 := hI.evo (d := 8) (by kernel_rfl) rfl
            have HS := hI.st
            clear hI hall
            unfold Reg.Yields
            go_simp
            exact ⟨rfl, HS.same⟩
          refine ⟨fun listed A X hI hin hun hall => .inl ⟨Reg.wanted_none rfl, ?_⟩, ?_⟩
          · have e24 : A.tmps[24]? = some (.pointer (some ⟨b7 + 1, 1, none⟩)) := hI.ev (i := 2) (d := 24) (by rfl) (hall ⟨2, .data⟩ (by simp) rfl)
            have HS := hI.st
            obtain ⟨⟨z0, z1⟩, ⟨l0, l1⟩, hz⟩ := HS.en
            clear hI hall
            unfold Reg.Yields
            go_simp
            exact ⟨rfl, HS.same⟩
          refine ⟨fun listed A X hI hin hun hall => .inl ⟨Reg.wanted_none rfl, ?_⟩, ?_⟩
          · skip
            have HS := hI.st
            clear hI hall
            unfold Reg.Yields
            go_simp
            exact ⟨rfl, HS.same⟩
          refine ⟨fun listed A X hI hin hun hall => .inl ⟨Reg.wanted_none rfl, ?_⟩, ?_⟩
          · have e23 : A.tmps[23]? = some (.int .i64 (j : Int)) := hI.ev (i := 1) (d := 23) (by rfl) (hall ⟨1, .data⟩ (by simp) rfl)
            have HS := hI.st
            clear hI hall
            unfold Reg.Yields
            go_simp
            exact ⟨rfl, HS.same⟩
          refine ⟨fun listed A X hI hin hun hall => .inl ⟨Reg.wanted_none rfl, ?_⟩, ?_⟩
          · have e25 : A.tmps[25]? = some (.int .i64 c) := hI.ev (i := 3) (d := 25) (by rfl) (hall ⟨3, .data⟩ (by simp) rfl)
            have HS := hI.st
            clear hI hall
            unfold Reg.Yields
            go_simp
            exact ⟨rfl, HS.same⟩
          trivial
        · intro W9 hS
          have HB9 := qhid hS.bel
          clear hS
          simp [Reg.finalTmps, Reg.dstAt, Reg.valOf, scTold]
          go_wp2_with fail
          refine bodyPost_ret (v := .tuple #[.slice none 0 0, .int .i64 (j : Int), .int .i64 c]) (by simp [results, Tryd.results7, go_sem]) rfl (rfin3 HSC.out (by unfold scanN; rw [if_neg hc0]) (RTGrow.start _ _) HB9.out)
    · have dk : decide (k < s.size) = false := decide_eq_false hk
      have hke : s.size ≤ k := by omega
      have HSC := qhid (HSA.out.done hke)
      clear HSA ONE
      obtain ⟨p4, cap4, rfl⟩ := own_slice HG.out
      go_wp2_with fail
      refine bodyPost_ret (v := .tuple #[.slice p4 l.length cap4, .int .i64 (l.length : Int), .int .i64 0]) (by simp [results, Tryd.results7, go_sem]) rfl (rfin3 HSC.out rfl HG.out HB.out)
end
section
open Go Go.RowKit
attribute [local go_sem ↓] Go.wp_at_zero Go.wp_at_succ
attribute [local go_sem] eq4
theorem eq4in (a b c d x y z u : Int) (w : World) : (Op.equalIn 9999 32 (.agg #[.int .u64 a, .int .u64 b, .int .u64 c, .int .u64 d]) (.agg #[.int .u64 x, .int .u64 y, .int .u64 z, .int .u64 u])).run Tryd.prog w = .ok (a == x && b == y && c == z && d == u) w := by
  have u3 := Tryd.underlying30
  have a3 := Tryd.isAgg30
  have z3 := Tryd.sizeOf30
  rw [show (9999 : Nat) = 9998 + 1 from rfl, Op.equalIn]
  simp only [Sem.run_bind, run_underlying Tryd.underlying32, Result.andThen_ok]
  simp only [Std.Legacy.Range.forIn_eq_forIn_range', Std.Legacy.Range.size, Nat.sub_zero, Nat.add_sub_cancel, Nat.div_one, List.range'_succ, List.range'_zero, List.forIn_cons, List.forIn_nil]
  go_simp
  by_cases h1 : a = x <;> by_cases h2 : b = y <;> by_cases h3 : c = z <;> by_cases h4 : d = u <;> simp [h1, h2, h3, h4]
attribute [local go_sem] eq4in
/-- What is held against one another: a token of the code's in its slice, the document's in a block of its own. -/
structure CmpS (w : World) (g b k : Nat) (t : TokM) (x y : Nat) (listed : Array Bool) (X : World) : Prop where
  code : X.cell? ⟨g, k * 10, none⟩ = some (.int .i64 t.kind) ∧ X.cell? ⟨g, k * 10 + 1, none⟩ = some (.int .i64 (x : Int)) ∧ X.cell? ⟨g, k * 10 + 2, none⟩ = some (.int .i64 (y : Int)) ∧ X.cell? ⟨g, k * 10 + 3, none⟩ = some (.int .u64 t.set.a) ∧
    X.cell? ⟨g, k * 10 + 4, none⟩ = some (.int .u64 t.set.b) ∧ X.cell? ⟨g, k * 10 + 5, none⟩ = some (.int .u64 t.set.c) ∧ X.cell? ⟨g, k * 10 + 6, none⟩ = some (.int .u64 t.set.d) ∧ X.cell? ⟨g, k * 10 + 7, none⟩ = some (.int .i64 t.lo) ∧
    X.cell? ⟨g, k * 10 + 8, none⟩ = some (.int .i64 t.hi) ∧ X.cell? ⟨g, k * 10 + 9, none⟩ = some (.bool t.lazy) ∧ g < X.heap.size
  own : (X.cell? ⟨b, 0, none⟩ = some (.int .i64 t.kind) ∧ X.cell? ⟨b, 1, none⟩ = some (.int .i64 (x : Int)) ∧ X.cell? ⟨b, 2, none⟩ = some (.int .i64 (y : Int)) ∧ X.cell? ⟨b, 3, none⟩ = some (.int .u64 t.set.a) ∧ X.cell? ⟨b, 4, none⟩ = some (.int .u64 t.set.b) ∧
    X.cell? ⟨b, 5, none⟩ = some (.int .u64 t.set.c) ∧ X.cell? ⟨b, 6, none⟩ = some (.int .u64 t.set.d) ∧ X.cell? ⟨b, 7, none⟩ = some (.int .i64 t.lo) ∧ X.cell? ⟨b, 8, none⟩ = some (.int .i64 t.hi) ∧ X.cell? ⟨b, 9, none⟩ = some (.bool t.lazy)) ∧ b < X.heap.size
  same_ : Below w.heap.size w X
theorem CmpS.same {w : World} {g b k : Nat} {t : TokM} {x y : Nat} {listed listed' : Array Bool} {X : World} (h : CmpS w g b k t x y listed X) : CmpS w g b k t x y listed' X := ⟨h.code, h.own, h.same_⟩
abbrev rtFull (t : TokM) (x y : Nat) : Obj := .cells #[.int .i64 t.kind, .int .i64 (x : Int), .int .i64 (y : Int), .int .u64 t.set.a, .int .u64 t.set.b, .int .u64 t.set.c, .int .u64 t.set.d, .int .i64 t.lo, .int .i64 t.hi, .bool t.lazy] 34
theorem full_cells {W : World} {b : Nat} {t : TokM} {x y : Nat} (h : W.heap[b]? = some (rtFull t x y)) : (W.cell? ⟨b, 0, none⟩ = some (.int .i64 t.kind) ∧ W.cell? ⟨b, 1, none⟩ = some (.int .i64 (x : Int)) ∧ W.cell? ⟨b, 2, none⟩ = some (.int .i64 (y : Int)) ∧ W.cell? ⟨b, 3, none⟩ = some (.int .u64 t.set.a) ∧ W.cell? ⟨b, 4, none⟩ = some (.int .u64 t.set.b) ∧
    W.cell? ⟨b, 5, none⟩ = some (.int .u64 t.set.c) ∧ W.cell? ⟨b, 6, none⟩ = some (.int .u64 t.set.d) ∧ W.cell? ⟨b, 7, none⟩ = some (.int .i64 t.lo) ∧ W.cell? ⟨b, 8, none⟩ = some (.int .i64 t.hi) ∧ W.cell? ⟨b, 9, none⟩ = some (.bool t.lazy)) ∧ b < W.heap.size :=
  ⟨⟨Joins.cell_of_block h 0, Joins.cell_of_block h 1, Joins.cell_of_block h 2, Joins.cell_of_block h 3, Joins.cell_of_block h 4, Joins.cell_of_block h 5, Joins.cell_of_block h 6, Joins.cell_of_block h 7, Joins.cell_of_block h 8, Joins.cell_of_block h 9⟩, Reg.size_of_get h⟩
theorem scanR_len (s : ByteArray) : ∀ (n k : Nat), k ≤ s.size → (scanR s n k).1.length + k ≤ s.size
  | 0, k, h => by simpa [scanR] using h
  | n + 1, k, h => by
    rw [scanR]
    split
    · simpa using h
    · next hk =>
      have ht := tokenR_tok (s := s) (k := k) (by omega)
      split
      · simpa using h
      · next he =>
        have hon := ht.on (by simpa using he)
        have ih := scanR_len s n _ ht.le
        split
        · simpa using h
        · simp only [List.length_cons]; omega
theorem scan_len (p : ByteArray) (hp : p.size ≤ 300) : (scanAll p).1.length ≤ 1099511627776 := by
  have h := scanR_len p (p.size + 1) 0 (Nat.zero_le _)
  show (scanR p (p.size + 1) 0).1.length ≤ _
  omega
def cmpTold (g b k n cap : Nat) (t : TokM) (x y : Nat) : Nat → Value
  | 0 => .slice (some ⟨g, 0, none⟩) n cap
  | 1 => .int .i64 (k : Int)
  | 2 => .pointer (some ⟨g, k * 10, none⟩)
  | 3 => .agg #[.int .i64 t.kind, .int .i64 (x : Int), .int .i64 (y : Int), .int .u64 t.set.a, .int .u64 t.set.b, .int .u64 t.set.c, .int .u64 t.set.d, .int .i64 t.lo, .int .i64 t.hi, .bool t.lazy]
  | 4 => .pointer (some ⟨b, 0, none⟩)
  | 5 => .int .i64 t.kind
  | 6 => .pointer (some ⟨b, 1, none⟩)
  | 7 => .int .i64 (x : Int)
  | 8 => .pointer (some ⟨b, 2, none⟩)
  | 9 => .int .i64 (y : Int)
  | 10 => .pointer (some ⟨b, 3, none⟩)
  | 11 => .agg #[.int .u64 t.set.a, .int .u64 t.set.b, .int .u64 t.set.c, .int .u64 t.set.d]
  | 12 => .pointer (some ⟨b, 7, none⟩)
  | 13 => .int .i64 t.lo
  | 14 => .pointer (some ⟨b, 8, none⟩)
  | 15 => .int .i64 t.hi
  | 16 => .pointer (some ⟨b, 9, none⟩)
  | 17 => .bool t.lazy
  | 18 => .agg #[.int .i64 t.kind, .int .i64 (x : Int), .int .i64 (y : Int), .int .u64 t.set.a, .int .u64 t.set.b, .int .u64 t.set.c, .int .u64 t.set.d, .int .i64 t.lo, .int .i64 t.hi, .bool t.lazy]
  | 19 => .bool false
  | _ => undef
theorem TokAt.ten {w : World} {p : Option Addr} {n cap : Nat} {l : List (TokM × Nat × Nat)} {i : Nat} {t : TokM} {x y : Nat} (h : TokAt w (.slice p n cap) l) (hi : l[i]? = some (t, x, y)) :
    ∃ g, p = some ⟨g, 0, none⟩ ∧ (w.cell? ⟨g, i * 10, none⟩ = some (.int .i64 t.kind) ∧ w.cell? ⟨g, i * 10 + 1, none⟩ = some (.int .i64 (x : Int)) ∧ w.cell? ⟨g, i * 10 + 2, none⟩ = some (.int .i64 (y : Int)) ∧ w.cell? ⟨g, i * 10 + 3, none⟩ = some (.int .u64 t.set.a) ∧
    w.cell? ⟨g, i * 10 + 4, none⟩ = some (.int .u64 t.set.b) ∧ w.cell? ⟨g, i * 10 + 5, none⟩ = some (.int .u64 t.set.c) ∧ w.cell? ⟨g, i * 10 + 6, none⟩ = some (.int .u64 t.set.d) ∧ w.cell? ⟨g, i * 10 + 7, none⟩ = some (.int .i64 t.lo) ∧
    w.cell? ⟨g, i * 10 + 8, none⟩ = some (.int .i64 t.hi) ∧ w.cell? ⟨g, i * 10 + 9, none⟩ = some (.bool t.lazy) ∧ g < w.heap.size) := by
  obtain ⟨p', cap', hv, hc⟩ := h
  injection hv with h1 h2 h3
  subst h1
  obtain ⟨g, hp, hg, hcell⟩ := hc i _ hi
  exact ⟨g, hp, hcell 0 _ rfl, hcell 1 _ rfl, hcell 2 _ rfl, hcell 3 _ rfl, hcell 4 _ rfl, hcell 5 _ rfl, hcell 6 _ rfl, hcell 7 _ rfl, hcell 8 _ rfl, hcell 9 _ rfl, hg⟩
set_option maxRecDepth 100000 in
set_option maxHeartbeats 8000000 in
theorem scans_any (p : ByteArray) (w : World) (hT : Tab w) :
    Calls Tryd.prog 3 #[.string p] w fun e w' => e = .returned (.bool true) ∧ Below w.heap.size w w' := by
  have AW := qhid (fun W (hW : Tab W) => tok_awake W hW)
  have HT := qhid hT
  clear hT
  by_cases hp : p.size ≤ 300
  · have dp : decide ((300 : Int) < (p.size : Int)) = false := decide_eq_false (by omega)
    have SC := qhid (fun W (hW : Tab W) => scan_all p (by omega) W hW)
    have RS := qhid (fun W => refscan_any p (by omega) W)
    have HLN := scan_len p (by omega)
    generalize scanN (scanAll p) = m at *
    generalize (scanAll p).2.1 = c at *
    generalize (scanAll p).1 = L at *
    go_enter Tryd.func3, Tryd.ntmps3
    go_wp2_with fail
    refine (SC.out _ HT.out).mono ?_
    rintro e w1 ⟨v1, rfl, hat1, hb1⟩
    have HAT1 := qhid hat1
    have HB1 := qhid hb1
    obtain ⟨p1, cap1, rfl, _⟩ := hat1
    clear hb1
    go_wp2_with fail
    refine (RS.out _).mono ?_
    rintro e w2 ⟨v2, rfl, hg2, hb2⟩
    have HAT2 := qhid hg2.at
    have HAT1 := qhid (HAT1.out.below hb2)
    have HB2 := qhid (HB1.out.trans (hb2.mono HB1.out.size))
    obtain ⟨p2, cap2, hv2, _⟩ := hg2.at
    subst hv2
    clear hb2 hg2 HB1 SC RS
    have HLN := qhid HLN
    go_wp2_with fail
    go_loopw [9] (fun i wr => ∃ k : Nat, k ≤ L.length ∧ i = .int .i64 k ∧ Hid (TokAt wr (.slice p1 L.length cap1) L) ∧ Hid (TokAt wr (.slice p2 L.length cap2) L) ∧ Hid (Below w.heap.size w wr)) (fun i _ => L.length - (intOf i).toNat)
    case atStart => exact ⟨0, by omega, rfl, HAT1, HAT2, HB2⟩
    case round =>
      clear HAT1 HAT2 HB2
      obtain ⟨k, hk, rfl, HAT1, HAT2, HB⟩ := hrel
      have hln := HLN.out
      by_cases hlk : k < L.length
      · obtain ⟨⟨t, x, y⟩, hx⟩ : ∃ z, L[k]? = some z := ⟨_, List.getElem?_eq_getElem hlk⟩
        obtain ⟨g1, hp1, hc1⟩ := (HAT1.out.below (below1 wr (rtFull t x y))).ten hx
        obtain ⟨g2, hp2, hc2⟩ := HAT2.out.ten hx
        subst hp1 hp2
        have HC1 := qhid hc1
        have HO := qhid (full_cells (heap_new wr (rtFull t x y)))
        have HBW := qhid (below1 wr (rtFull t x y))
        obtain ⟨a0, a1, a2, a3, a4, a5, a6, a7, a8, a9, ha⟩ := hc2
        clear hx hc1
        have dk : decide (k < L.length) = true := decide_eq_true hlk
        go_upto_region 11 with fail
        obtain ⟨W3, hW3⟩ : ∃ X, X = wr.alloc (rtFull t x y) := ⟨_, rfl⟩
        rw [← hW3] at HC1 HO HBW
        change Code.wp _ _ _ _ (wr.alloc (rtFull t x y))
        rw [← hW3]
        clear hW3 a0 a1 a2 a3 a4 a5 a6 a7 a8 a9 ha
        obtain ⟨b3, hb3⟩ : ∃ b, b = wr.heap.size := ⟨_, rfl⟩
        rw [← hb3] at HO ⊢
        clear hb3
        refine Reg.wp_region_S (cmpTold g1 b3 k L.length cap1 t x y) (CmpS wr g1 b3 k t x y) [0, 1, 2, 3, 4, 5, 6, 7, 8, 9, 10, 11, 12, 13, 14, 15, 16, 17, 18, 19] (by rfl) (by kernel_rfl) (by kernel_rfl) ?_ ?_ ?_
        · exact ⟨HC1.out, HO.out, ⟨HBW.out.os, HBW.out.tape, HBW.out.output, HBW.out.size, HBW.out.block⟩⟩
        · skip
          refine ⟨fun listed A X hI hin hun hall => .inl ⟨Reg.wanted_none rfl, ?_⟩, ?_⟩
          · have e3 := hI.evo (d := 3) (by kernel_rfl) rfl
            have HS := hI.st
            clear hI hall
            unfold Reg.Yields
            go_simp
            exact ⟨rfl, HS.same⟩
          refine ⟨fun listed A X hI hin hun hall => .inl ⟨Reg.wanted_none rfl, ?_⟩, ?_⟩
          · have e9 := hI.evo (d := 9) (by kernel_rfl) rfl
            have HS := hI.st
            clear hI hall
            unfold Reg.Yields
            go_simp
            exact ⟨rfl, HS.same⟩
          refine ⟨fun listed A X hI hin hun hall => .inl ⟨Reg.wanted_none rfl, ?_⟩, ?_⟩
          · have e52 : A.tmps[52]? = some (.slice (some ⟨g1, 0, none⟩) L.length cap1) := hI.ev (i := 0) (d := 52) (by rfl) (hall ⟨0, .data⟩ (by simp) rfl)
            have e53 : A.tmps[53]? = some (.int .i64 (k : Int)) := hI.ev (i := 1) (d := 53) (by rfl) (hall ⟨1, .data⟩ (by simp) rfl)
            have HS := hI.st
            obtain ⟨a0, a1, a2, a3, a4, a5, a6, a7, a8, a9, ha⟩ := HS.code
            clear hI hall
            unfold Reg.Yields
            go_simp
            exact ⟨rfl, HS.same⟩
          refine ⟨fun listed A X hI hin hun hall => .inl ⟨Reg.wanted_none rfl, ?_⟩, ?_⟩
          · have e54 : A.tmps[54]? = some (.pointer (some ⟨g1, k * 10, none⟩)) := hI.ev (i := 2) (d := 54) (by rfl) (hall ⟨2, .data⟩ (by simp) rfl)
            have HS := hI.st
            obtain ⟨a0, a1, a2, a3, a4, a5, a6, a7, a8, a9, ha⟩ := HS.code
            clear hI hall
            unfold Reg.Yields
            go_simp
            exact ⟨rfl, HS.same⟩
          refine ⟨fun listed A X hI hin hun hall => .inl ⟨Reg.wanted_none rfl, ?_⟩, ?_⟩
          · have e10 := hI.evo (d := 10) (by kernel_rfl) rfl
            have HS := hI.st
            obtain ⟨⟨z0, z1, z2, z3, z4, z5, z6, z7, z8, z9⟩, hz⟩ := HS.own
            clear hI hall
            unfold Reg.Yields
            go_simp
            exact ⟨rfl, HS.same⟩
          refine ⟨fun listed A X hI hin hun hall => .inl ⟨Reg.wanted_none rfl, ?_⟩, ?_⟩
          · have e56 : A.tmps[56]? = some (.pointer (some ⟨b3, 0, none⟩)) := hI.ev (i := 4) (d := 56) (by rfl) (hall ⟨4, .data⟩ (by simp) rfl)
            have HS := hI.st
            obtain ⟨⟨z0, z1, z2, z3, z4, z5, z6, z7, z8, z9⟩, hz⟩ := HS.own
            clear hI hall
            unfold Reg.Yields
            go_simp
            exact ⟨rfl, HS.same⟩
          refine ⟨fun listed A X hI hin hun hall => .inl ⟨Reg.wanted_none rfl, ?_⟩, ?_⟩
          · have e10 := hI.evo (d := 10) (by kernel_rfl) rfl
            have HS := hI.st
            obtain ⟨⟨z0, z1, z2, z3, z4, z5, z6, z7, z8, z9⟩, hz⟩ := HS.own
            clear hI hall
            unfold Reg.Yields
            go_simp
            exact ⟨rfl, HS.same⟩
          refine ⟨fun listed A X hI hin hun hall => .inl ⟨Reg.wanted_none rfl, ?_⟩, ?_⟩
          · have e58 : A.tmps[58]? = some (.pointer (some ⟨b3, 1, none⟩)) := hI.ev (i := 6) (d := 58) (by rfl) (hall ⟨6, .data⟩ (by simp) rfl)
            have HS := hI.st
            obtain ⟨⟨z0, z1, z2, z3, z4, z5, z6, z7, z8, z9⟩, hz⟩ := HS.own
            clear hI hall
            unfold Reg.Yields
            go_simp
            exact ⟨rfl, HS.same⟩
          refine ⟨fun listed A X hI hin hun hall => .inl ⟨Reg.wanted_none rfl, ?_⟩, ?_⟩
          · have e10 := hI.evo (d := 10) (by kernel_rfl) rfl
            have HS := hI.st
            obtain ⟨⟨z0, z1, z2, z3, z4, z5, z6, z7, z8, z9⟩, hz⟩ := HS.own
            clear hI hall
            unfold Reg.Yields
            go_simp
            exact ⟨rfl, HS.same⟩
          refine ⟨fun listed A X hI hin hun hall => .inl ⟨Reg.wanted_none rfl, ?_⟩, ?_⟩
          · have e60 : A.tmps[60]? = some (.pointer (some ⟨b3, 2, none⟩)) := hI.ev (i := 8) (d := 60) (by rfl) (hall ⟨8, .data⟩ (by simp) rfl)
            have HS := hI.st
            obtain ⟨⟨z0, z1, z2, z3, z4, z5, z6, z7, z8, z9⟩, hz⟩ := HS.own
            clear hI hall
            unfold Reg.Yields
            go_simp
            exact ⟨rfl, HS.same⟩
          refine ⟨fun listed A X hI hin hun hall => .inl ⟨Reg.wanted_none rfl, ?_⟩, ?_⟩
          · have e10 := hI.evo (d := 10) (by kernel_rfl) rfl
            have HS := hI.st
            obtain ⟨⟨z0, z1, z2, z3, z4, z5, z6, z7, z8, z9⟩, hz⟩ := HS.own
            clear hI hall
            unfold Reg.Yields
            go_simp
            exact ⟨rfl, HS.same⟩
          refine ⟨fun listed A X hI hin hun hall => .inl ⟨Reg.wanted_none rfl, ?_⟩, ?_⟩
          · have e62 : A.tmps[62]? = some (.pointer (some ⟨b3, 3, none⟩)) := hI.ev (i := 10) (d := 62) (by rfl) (hall ⟨10, .data⟩ (by simp) rfl)
            have HS := hI.st
            obtain ⟨⟨z0, z1, z2, z3, z4, z5, z6, z7, z8, z9⟩, hz⟩ := HS.own
            clear hI hall
            unfold Reg.Yields
            go_simp
            exact ⟨rfl, HS.same⟩
          refine ⟨fun listed A X hI hin hun hall => .inl ⟨Reg.wanted_none rfl, ?_⟩, ?_⟩
          · have e10 := hI.evo (d := 10) (by kernel_rfl) rfl
            have HS := hI.st
            obtain ⟨⟨z0, z1, z2, z3, z4, z5, z6, z7, z8, z9⟩, hz⟩ := HS.own
            clear hI hall
            unfold Reg.Yields
            go_simp
            exact ⟨rfl, HS.same⟩
          refine ⟨fun listed A X hI hin hun hall => .inl ⟨Reg.wanted_none rfl, ?_⟩, ?_⟩
          · have e64 : A.tmps[64]? = some (.pointer (some ⟨b3, 7, none⟩)) := hI.ev (i := 12) (d := 64) (by rfl) (hall ⟨12, .data⟩ (by simp) rfl)
            have HS := hI.st
            obtain ⟨⟨z0, z1, z2, z3, z4, z5, z6, z7, z8, z9⟩, hz⟩ := HS.own
            clear hI hall
            unfold Reg.Yields
            go_simp
            exact ⟨rfl, HS.same⟩
          refine ⟨fun listed A X hI hin hun hall => .inl ⟨Reg.wanted_none rfl, ?_⟩, ?_⟩
          · have e10 := hI.evo (d := 10) (by kernel_rfl) rfl
            have HS := hI.st
            obtain ⟨⟨z0, z1, z2, z3, z4, z5, z6, z7, z8, z9⟩, hz⟩ := HS.own
            clear hI hall
            unfold Reg.Yields
            go_simp
            exact ⟨rfl, HS.same⟩
          refine ⟨fun listed A X hI hin hun hall => .inl ⟨Reg.wanted_none rfl, ?_⟩, ?_⟩
          · have e66 : A.tmps[66]? = some (.pointer (some ⟨b3, 8, none⟩)) := hI.ev (i := 14) (d := 66) (by rfl) (hall ⟨14, .data⟩ (by simp) rfl)
            have HS := hI.st
            obtain ⟨⟨z0, z1, z2, z3, z4, z5, z6, z7, z8, z9⟩, hz⟩ := HS.own
            clear hI hall
            unfold Reg.Yields
            go_simp
            exact ⟨rfl, HS.same⟩
          refine ⟨fun listed A X hI hin hun hall => .inl ⟨Reg.wanted_none rfl, ?_⟩, ?_⟩
          · have e10 := hI.evo (d := 10) (by kernel_rfl) rfl
            have HS := hI.st
            obtain ⟨⟨z0, z1, z2, z3, z4, z5, z6, z7, z8, z9⟩, hz⟩ := HS.own
            clear hI hall
            unfold Reg.Yields
            go_simp
            exact ⟨rfl, HS.same⟩
          refine ⟨fun listed A X hI hin hun hall => .inl ⟨Reg.wanted_none rfl, ?_⟩, ?_⟩
          · have e68 : A.tmps[68]? = some (.pointer (some ⟨b3, 9, none⟩)) := hI.ev (i := 16) (d := 68) (by rfl) (hall ⟨16, .data⟩ (by simp) rfl)
            have HS := hI.st
            obtain ⟨⟨z0, z1, z2, z3, z4, z5, z6, z7, z8, z9⟩, hz⟩ := HS.own
            clear hI hall
            unfold Reg.Yields
            go_simp
            exact ⟨rfl, HS.same⟩
          refine ⟨fun listed A X hI hin hun hall => .inl ⟨Reg.wanted_none rfl, ?_⟩, ?_⟩
          · have e57 : A.tmps[57]? = some (.int .i64 t.kind) := hI.ev (i := 5) (d := 57) (by rfl) (hall ⟨5, .data⟩ (by simp) rfl)
            have e59 : A.tmps[59]? = some (.int .i64 (x : Int)) := hI.ev (i := 7) (d := 59) (by rfl) (hall ⟨7, .data⟩ (by simp) rfl)
            have e61 : A.tmps[61]? = some (.int .i64 (y : Int)) := hI.ev (i := 9) (d := 61) (by rfl) (hall ⟨9, .data⟩ (by simp) rfl)
            have e63 : A.tmps[63]? = some (.agg #[.int .u64 t.set.a, .int .u64 t.set.b, .int .u64 t.set.c, .int .u64 t.set.d]) := hI.ev (i := 11) (d := 63) (by rfl) (hall ⟨11, .data⟩ (by simp) rfl)
            have e65 : A.tmps[65]? = some (.int .i64 t.lo) := hI.ev (i := 13) (d := 65) (by rfl) (hall ⟨13, .data⟩ (by simp) rfl)
            have e67 : A.tmps[67]? = some (.int .i64 t.hi) := hI.ev (i := 15) (d := 67) (by rfl) (hall ⟨15, .data⟩ (by simp) rfl)
            have e69 : A.tmps[69]? = some (.bool t.lazy) := hI.ev (i := 17) (d := 69) (by rfl) (hall ⟨17, .data⟩ (by simp) rfl)
            have HS := hI.st
            clear hI hall
            unfold Reg.Yields
            go_simp
            exact ⟨rfl, HS.same⟩
          refine ⟨fun listed A X hI hin hun hall => .inl ⟨Reg.wanted_none rfl, ?_⟩, ?_⟩
          · have e55 : A.tmps[55]? = some (.agg #[.int .i64 t.kind, .int .i64 (x : Int), .int .i64 (y : Int), .int .u64 t.set.a, .int .u64 t.set.b, .int .u64 t.set.c, .int .u64 t.set.d, .int .i64 t.lo, .int .i64 t.hi, .bool t.lazy]) := hI.ev (i := 3) (d := 55) (by rfl) (hall ⟨3, .data⟩ (by simp) rfl)
            have e70 : A.tmps[70]? = some (.agg #[.int .i64 t.kind, .int .i64 (x : Int), .int .i64 (y : Int), .int .u64 t.set.a, .int .u64 t.set.b, .int .u64 t.set.c, .int .u64 t.set.d, .int .i64 t.lo, .int .i64 t.hi, .bool t.lazy]) := hI.ev (i := 18) (d := 70) (by rfl) (hall ⟨18, .data⟩ (by simp) rfl)
            have HS := hI.st
            clear hI hall
            unfold Reg.Yields
            go_simp
            exact ⟨rfl, HS.same⟩
          trivial
        · intro W9 hS
          have HX1 := qhid (HAT1.out.below hS.same_)
          have HX2 := qhid (HAT2.out.below hS.same_)
          have HX := qhid (HB.out.trans (hS.same_.mono HB.out.size))
          clear hS HC1 HO HBW HAT1 HAT2 HB
          simp [Reg.finalTmps, Reg.dstAt, Reg.valOf, cmpTold]
          go_wp2_with fail
          go_roundw
          case rel => exact ⟨k + 1, by omega, by go_num, HX1, HX2, HX⟩
          case measure => simp [intOf]; omega
      · obtain rfl : k = L.length := by omega
        have HTW := qhid (HT.out.up HB.out)
        go_wp2_with fail
        refine (AW.out _ HTW.out).mono ?_
        rintro e w4 ⟨rfl, hb4⟩
        have HB4 := qhid (HB.out.trans (hb4.mono HB.out.size))
        clear hb4
        go_wp2_with fail
        go_ret
        exact ⟨rfl, HB4.out⟩
  · have dp : decide ((300 : Int) < (p.size : Int)) = true := decide_eq_true (by omega)
    go_enter Tryd.func3, Tryd.ntmps3
    go_wp2_with fail
    refine (AW.out _ HT.out).mono ?_
    rintro e w1 ⟨rfl, hb1⟩
    have HB1 := qhid hb1
    clear hb1
    go_wp2_with fail
    go_ret
    exact ⟨rfl, HB1.out⟩
end
section
open Go.ChangeShapes Go.WideShapes Go.ChangeAt Go.WideMaps Go.WideElems Go.ChangeMaps Go.RowKit
set_option maxHeartbeats 400000 in
set_option maxRecDepth 100000 in
theorem tokenScans_lifted (os : Os) (started : os.Started) (H : Type) (enc : TypeId × Value → H) :
    ReturnsInHanded {} Tryd.checked os 3 .any (fun w args => (Rows.tokenScansSpec.pre enc Tryd.prog Tryd.f3 [] false w args ∧ laidMetH Tryd.prog laidL w) ∧ sizedMet enc Tryd.prog Tryd.f3 (OpenSpec.ofChange Rows.tokenScansSpec) false w args)
      (Rows.tokenScansSpec.post enc Tryd.prog Tryd.f3 false true false false) := by
  refine returnsInHanded_of_change_and (C := Tryd.checked) (X := fun w _ => laidMetH Tryd.prog laidL w) (fun _ _ _ hh h => h.of_heap hh) own started (by kernel_rfl) Tryd.func3
    (ChangeSpec.witness_shaped (enc := enc) (C := Tryd.checked) (os := os) (X := fun w _ => laidMetH Tryd.prog laidL w) false (World.doorLaid Tryd.prog 4000 os) #[.string ⟨#[]⟩] 8 rfl (World.shaped_of_RefB (by kernel_rfl) (by kernel_rfl)) (by kernel_rfl) (by kernel_rfl) (by kernel_rfl) (door_met os _)) ?_
  intro W base args ds gs before hval0 hW _ _ hL _
  have hval : ∀ (j : Nat) t v, Tryd.f3.params[j]? = some t → args[j]? = some v → Value.okWide Tryd.prog W .any base t v := hval0
  have hW' := hW
  obtain ⟨p, q, hA0, hV, rfl, hfz, hnd⟩ := hW
  have hA : DataW.TrodAll enc Tryd.prog W 0 (fun _ => true) true Tryd.f3.params.toList args.toList ds p := hA0
  rw [Tryd.params3] at hA hval
  obtain ⟨v0, vs0, d0, ds0, p0, q0, hargs, rfl, rfl, h0, r0⟩ := trodAll_cons hA
  obtain ⟨rfl, rfl, rfl⟩ := trodAll_nil r0
  obtain rfl : args = #[v0] := by cases args; simp_all
  obtain ⟨rfl, rfl⟩ := trodVars_none hV
  have k0 := h0
  obtain ⟨x0, rfl, rfl, rfl, _⟩ := open_string Tryd.underlying9 (hval 0 9 v0 rfl rfl) h0
  clear hA0 hval0
  have T := tab_of_laid hL
  refine (scans_any x0 _ T).mono fun e W' ⟨he, bel⟩ => ?_
  subst he
  exact ⟨_, rfl, _, _, _, [], _, [], hW', trodAll_mk1 (shut_bool Tryd.underlying4 _), (trodAll_cons_mk (Below.trod laidOut (by kernel_rfl) (of_decide_eq_true (by kernel_rfl)) k0 bel (trod_lt0 k0)) trodAll_mk0), rfl, bel.frame _, fun h => by cases h⟩
theorem tokenScans_holds : Rows.TokenScansSaid :=
  OpenClaim.holds_of_wide 3 Tryd.f3 rfl rfl rfl rfl rfl rfl rfl ⟨rfl, rfl, rfl, rfl, rfl⟩ rfl rfl rfl rfl rfl (by kernel_rfl) Tryd.func3 (by kernel_rfl)
    (of_decide_eq_true (by kernel_rfl)) (by unfold Func.isWrapper; first | (rw [if_pos (by decide +kernel)]; kernel_rfl) | (rw [if_neg (by decide +kernel)]; exact ⟨rfl, rfl⟩))
    (fun os started H enc _ => tokenScans_lifted os started H enc)
theorem tokenScans_card : Rows.TokenScansCardSaid :=
  Claim7.holds_tied_plain_at .later [] [.data] true _ false
    tokenScans_holds (fun _ h => by cases h) (by kernel_rfl) (fun _ h => by cases h) tokenScans_row_tie rfl ⟨rfl, rfl⟩ (by kernel_rfl) rfl
    (fun f fn hf hfn => by
      obtain rfl : f = 3 := Option.some.inj ((show Tryd.prog.funcNamed "caltrop/caltroplaw05.TokenScans" = some 3 by kernel_rfl).symm.trans hf) |>.symm
      obtain rfl : fn = Tryd.f3 := (Option.some.inj (Tryd.func3.symm.trans hfn)).symm
      exact ⟨by kernel_rfl, fun j t ht => by
        rw [Tryd.params3] at ht
        have hm := Array.mem_of_getElem? ht
        have hall : ([9].all fun u => !Tryd.prog.wantsStandIn u) = true := by kernel_rfl
        have hm' : t ∈ [9] := by simp at hm; simp; omega
        exact (show Tryd.prog.wantsStandIn t = false by simpa using List.all_eq_true.1 hall t hm')⟩)
    (by kernel_rfl)
#print axioms tokenScans_card
end
end Go.Proofs.YtcicdiooifjcbaaDoor
