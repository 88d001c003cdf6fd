/- graph: seek told. -/
import Derived.Test.YtghfodjefjijdaaGrQ
import Derived.Test.YtghfodjefjijdaaRegionN
namespace Go.Proofs.Ytghfodjefjijdaa
section
open Go Go.RowKit Go.Shelf
attribute [local go_sem ↓] Go.wp_at_zero Go.wp_at_succ
def seekT (gp lg gc n : Nat) (gh : Nat → Nat) : Nat → Value
  | 0 => .slice (some ⟨gp, 0, none⟩) lg gc
  | 1 => .int .i64 (n : Int)
  | 2 => .slice (some ⟨gh 2, 0, none⟩) n n
  | 3 => .int .i64 (n : Int)
  | 4 => .slice (some ⟨gh 4, 0, none⟩) n n
  | 5 => .slice (some ⟨gh 5, 0, none⟩) 1 1
  | 6 => .int .i64 (n : Int)
  | 7 => .slice (some ⟨gh 7, 0, none⟩) n n
  | 8 => .agg #[.slice (some ⟨gp, 0, none⟩) lg gc, .int .i64 0, .slice (some ⟨gh 2, 0, none⟩) n n, .slice (some ⟨gh 4, 0, none⟩) n n, .slice none 0 0, .slice none 0 0, .int .i64 0, .slice (some ⟨gh 7, 0, none⟩) n n, .slice none 0 0]
  | 9 => .pointer (some ⟨gh 9, 0, none⟩)
  | 10 => .pointer (some ⟨gh 9, 0, none⟩)
  | _ => undef
def seekOb (gp lg gc n : Nat) (gh : Nat → Nat) : Nat → Obj
  | 2 => .cells (vl n fun _ => .int .i64 0) 3 (0, 0)
  | 4 => .cells (vl n fun _ => .int .i64 0) 3 (0, 0)
  | 5 => .cells #[.int .i64 (-1)] 3 (0, 0)
  | 7 => .cells (vl n fun _ => .int .i64 (-1)) 3 (0, 0)
  | _ => skOb (.slice (some ⟨gp, 0, none⟩) lg gc) 0 (gh 2) (gh 4) (gh 7) n (.slice none 0 0) (.slice none 0 0) 0 (.slice none 0 0)
theorem seekT_2 {gp lg gc n b j : Nat} {gh : Nat → Nat} (h2 : j ≠ 2) (h8 : j ≠ 8) : seekT gp lg gc n (Reg.updN gh 2 b) j = seekT gp lg gc n gh j := by
  unfold seekT
  split <;> first | rfl | exact absurd rfl ‹_›
theorem seekOb_2 {gp lg gc n b j : Nat} {gh : Nat → Nat} (hj : j ∈ [2, 4, 5, 7, 9]) (h9 : j ≠ 9) : seekOb gp lg gc n (Reg.updN gh 2 b) j = seekOb gp lg gc n gh j := by
  simp only [List.mem_cons, List.not_mem_nil, or_false] at hj
  rcases hj with rfl | rfl | rfl | rfl | rfl
  · rfl
  · rfl
  · rfl
  · rfl
  · exact absurd rfl h9
theorem seekT_4 {gp lg gc n b j : Nat} {gh : Nat → Nat} (h4 : j ≠ 4) (h8 : j ≠ 8) : seekT gp lg gc n (Reg.updN gh 4 b) j = seekT gp lg gc n gh j := by
  unfold seekT
  split <;> first | rfl | exact absurd rfl ‹_›
theorem seekOb_4 {gp lg gc n b j : Nat} {gh : Nat → Nat} (hj : j ∈ [2, 4, 5, 7, 9]) (h9 : j ≠ 9) : seekOb gp lg gc n (Reg.updN gh 4 b) j = seekOb gp lg gc n gh j := by
  simp only [List.mem_cons, List.not_mem_nil, or_false] at hj
  rcases hj with rfl | rfl | rfl | rfl | rfl
  · rfl
  · rfl
  · rfl
  · rfl
  · exact absurd rfl h9
theorem seekT_5 {gp lg gc n b j : Nat} {gh : Nat → Nat} (h5 : j ≠ 5) : seekT gp lg gc n (Reg.updN gh 5 b) j = seekT gp lg gc n gh j := by
  unfold seekT
  split <;> first | rfl | exact absurd rfl ‹_›
theorem seekOb_5 {gp lg gc n b j : Nat} {gh : Nat → Nat} (hj : j ∈ [2, 4, 5, 7, 9]) : seekOb gp lg gc n (Reg.updN gh 5 b) j = seekOb gp lg gc n gh j := by
  simp only [List.mem_cons, List.not_mem_nil, or_false] at hj
  rcases hj with rfl | rfl | rfl | rfl | rfl
  · rfl
  · rfl
  · rfl
  · rfl
  · rfl
theorem seekT_7 {gp lg gc n b j : Nat} {gh : Nat → Nat} (h7 : j ≠ 7) (h8 : j ≠ 8) : seekT gp lg gc n (Reg.updN gh 7 b) j = seekT gp lg gc n gh j := by
  unfold seekT
  split <;> first | rfl | exact absurd rfl ‹_›
theorem seekOb_7 {gp lg gc n b j : Nat} {gh : Nat → Nat} (hj : j ∈ [2, 4, 5, 7, 9]) (h9 : j ≠ 9) : seekOb gp lg gc n (Reg.updN gh 7 b) j = seekOb gp lg gc n gh j := by
  simp only [List.mem_cons, List.not_mem_nil, or_false] at hj
  rcases hj with rfl | rfl | rfl | rfl | rfl
  · rfl
  · rfl
  · rfl
  · rfl
  · exact absurd rfl h9
theorem seekT_9 {gp lg gc n b j : Nat} {gh : Nat → Nat} (h9 : j ≠ 9) (h10 : j ≠ 10) : seekT gp lg gc n (Reg.updN gh 9 b) j = seekT gp lg gc n gh j := by
  unfold seekT
  split <;> first | rfl | exact absurd rfl ‹_›
theorem seekOb_9 {gp lg gc n b j : Nat} {gh : Nat → Nat} (hj : j ∈ [2, 4, 5, 7, 9]) : seekOb gp lg gc n (Reg.updN gh 9 b) j = seekOb gp lg gc n gh j := by
  simp only [List.mem_cons, List.not_mem_nil, or_false] at hj
  rcases hj with rfl | rfl | rfl | rfl | rfl
  · rfl
  · rfl
  · rfl
  · rfl
  · rfl
/-- seek, as it goes through the things. -/
structure SeekI (w : World) (B sb mb lb kb n : Nat) (gv : Value) (gs : List G0) (i : Nat) : Prop where
  ex : ∃ s pv ov dv, SkAt w B sb mb lb kb n gv pv ov dv [] s ∧ Inv (Es gs) n NoX s ∧ s.path = [] ∧ ∀ v, v < i → s.met v ≠ 0
theorem SeekI.mk' {w : World} {B sb mb lb kb n : Nat} {gv : Value} {gs : List G0} {i : Nat} (h : ∃ s pv ov dv, SkAt w B sb mb lb kb n gv pv ov dv [] s ∧ Inv (Es gs) n NoX s ∧ s.path = [] ∧ ∀ v, v < i → s.met v ≠ 0) : SeekI w B sb mb lb kb n gv gs i := ⟨h⟩
structure EnterTo (w w' : World) (B sb mb lb kb n : Nat) (gv : Value) (gs : List G0) (s : Sk) (i : Nat) : Prop where
  ex : ∃ F s2, (∃ pv ov dv, SkAt w' B sb mb lb kb n gv pv ov dv F s2) ∧ Below B w w' ∧ Inv (Es gs) n NoX s2 ∧ ∀ v, s2.met v ≠ 0 ↔ s.met v ≠ 0 ∨ v = i
  be : Below B w w'
/-- What seek answers. -/
structure SeekTo (w w' : World) (n : Nat) (gv : Value) (gs : List G0) (r : Value) : Prop where
  ex : ∃ sb mb lb kb s pv ov dv, r = .pointer (some ⟨sb, 0, none⟩) ∧ SkAt w' w.heap.size sb mb lb kb n gv pv ov dv [] s ∧ Tied (Es gs) n s
  be : Below w.heap.size w w'
set_option maxRecDepth 100000 in
set_option maxHeartbeats 8000000 in
theorem gseek_any {w : World} {n : Nat} (gp gc : Nat) (gs : List G0) (hG : GrsAt w w.heap.size n gp gs) (hn : n ≤ 1000) (hgs : gs.length ≤ 1000) (hE : ∀ u v, Es gs u v → v < n) :
    Calls Try.prog 19 #[.int .i64 (n : Int), .slice (some ⟨gp, 0, none⟩) gs.length gc] w fun e w' => ∃ r, e = .returned r ∧ SeekTo w w' n (.slice (some ⟨gp, 0, none⟩) gs.length gc) gs r := by
  have HG := qhid hG
  have HE0 := qhid hE
  obtain ⟨lg, hlg⟩ : ∃ k, k = gs.length := ⟨_, rfl⟩
  rw [← hlg] at hgs ⊢
  have HLG := qhid hlg
  clear hG hE hlg
  go_enter Try.func19, Try.ntmps19
  go_upto_region 1 with fail
  refine Reg.wp_region_H (seekT gp lg gc n) (Reg.MkN w [2, 4, 5, 7, 9] (seekOb gp lg gc n)) (fun _ => 0) [0, 1, 2, 3, 4, 5, 6, 7, 8, 9, 10] (by rfl) (by kernel_rfl) (by kernel_rfl) ?_ ?_ ?_
  · exact Reg.MkN.start _ _
  · skip
    refine ⟨fun gh listed A X hI hcl hin hun hall => ⟨Reg.wanted_none rfl, ?_⟩, ?_⟩
    · have e1 := hI.evo (d := 1) (by kernel_rfl) rfl
      have HS := hI.st
      clear hI
      have HS2 := qhid HS
      clear HS
      unfold Reg.Yields
      go_simp
      have HS := HS2.out
      exact ⟨gh, fun _ _ => rfl, rfl, HS.up (by decide) (Below.refl _ _)⟩
    refine ⟨fun gh listed A X hI hcl hin hun hall => ⟨Reg.wanted_none rfl, ?_⟩, ?_⟩
    · have e0 := hI.evo (d := 0) (by kernel_rfl) rfl
      have HS := hI.st
      clear hI
      have HS2 := qhid HS
      clear HS
      unfold Reg.Yields
      go_simp
      have HS := HS2.out
      exact ⟨gh, fun _ _ => rfl, rfl, HS.up (by decide) (Below.refl _ _)⟩
    refine ⟨fun gh listed A X hI hcl hin hun hall => ⟨Reg.wanted_none rfl, ?_⟩, ?_⟩
    · have e8 : A.tmps[8]? = some (.int .i64 (n : Int)) := hI.ev (i := 1) (d := 8) (by rfl) (hall ⟨1, .data⟩ (by simp) rfl)
      have HS := hI.st
      have hmk := mk_vec n (by omega) X
      clear hI
      have HS2 := qhid HS
      clear HS
      unfold Reg.Yields
      go_simp
      have HS := HS2.out
      exact ⟨Reg.updN gh 2 X.heap.size, fun j hj => seekT_2 (j := j) (fun e => by rw [e] at hj; rw [hj] at hun; cases hun) (fun e => by rw [e] at hj; rw [Reg.closed_reach hcl 60 8 2 (by kernel_rfl) hj] at hun; cases hun), rfl, HS.new X.heap.size (fun j hK _ hj => seekOb_2 hK (fun e => by rw [e] at hj; rw [Reg.closed_reach hcl 60 9 2 (by kernel_rfl) hj] at hun; cases hun)) (below1 _ _) (Nat.le_refl _) (heap_new _ _)⟩
    refine ⟨fun gh listed A X hI hcl hin hun hall => ⟨Reg.wanted_none rfl, ?_⟩, ?_⟩
    · have e0 := hI.evo (d := 0) (by kernel_rfl) rfl
      have HS := hI.st
      clear hI
      have HS2 := qhid HS
      clear HS
      unfold Reg.Yields
      go_simp
      have HS := HS2.out
      exact ⟨gh, fun _ _ => rfl, rfl, HS.up (by decide) (Below.refl _ _)⟩
    refine ⟨fun gh listed A X hI hcl hin hun hall => ⟨Reg.wanted_none rfl, ?_⟩, ?_⟩
    · have e10 : A.tmps[10]? = some (.int .i64 (n : Int)) := hI.ev (i := 3) (d := 10) (by rfl) (hall ⟨3, .data⟩ (by simp) rfl)
      have HS := hI.st
      have hmk := mk_vec n (by omega) X
      clear hI
      have HS2 := qhid HS
      clear HS
      unfold Reg.Yields
      go_simp
      have HS := HS2.out
      exact ⟨Reg.updN gh 4 X.heap.size, fun j hj => seekT_4 (j := j) (fun e => by rw [e] at hj; rw [hj] at hun; cases hun) (fun e => by rw [e] at hj; rw [Reg.closed_reach hcl 60 8 4 (by kernel_rfl) hj] at hun; cases hun), rfl, HS.new X.heap.size (fun j hK _ hj => seekOb_4 hK (fun e => by rw [e] at hj; rw [Reg.closed_reach hcl 60 9 4 (by kernel_rfl) hj] at hun; cases hun)) (below1 _ _) (Nat.le_refl _) (heap_new _ _)⟩
    refine ⟨fun gh listed A X hI hcl hin hun hall => ⟨Reg.wanted_none rfl, ?_⟩, ?_⟩
    · have HS := hI.st
      clear hI
      have HS2 := qhid HS
      clear HS
      unfold Reg.Yields
      go_simp
      have HS := HS2.out
      exact ⟨Reg.updN gh 5 X.heap.size, fun j hj => seekT_5 (j := j) (fun e => by rw [e] at hj; rw [hj] at hun; cases hun), rfl, HS.new X.heap.size (fun j hK _ hj => seekOb_5 hK ) (below1 _ _) (Nat.le_refl _) (heap_new _ _)⟩
    refine ⟨fun gh listed A X hI hcl hin hun hall => ⟨Reg.wanted_none rfl, ?_⟩, ?_⟩
    · have e0 := hI.evo (d := 0) (by kernel_rfl) rfl
      have HS := hI.st
      clear hI
      have HS2 := qhid HS
      clear HS
      unfold Reg.Yields
      go_simp
      have HS := HS2.out
      exact ⟨gh, fun _ _ => rfl, rfl, HS.up (by decide) (Below.refl _ _)⟩
    refine ⟨fun gh listed A X hI hcl hin hun hall => ⟨Reg.wanted_none rfl, ?_⟩, ?_⟩
    · have e12 : A.tmps[12]? = some (.slice (some ⟨gh 5, 0, none⟩) 1 1) := hI.ev (i := 5) (d := 12) (by rfl) (hall ⟨5, .data⟩ (by simp) rfl)
      have e13 : A.tmps[13]? = some (.int .i64 (n : Int)) := hI.ev (i := 6) (d := 13) (by rfl) (hall ⟨6, .data⟩ (by simp) rfl)
      have HS := hI.st
      have h5 := (HS.at_ 5 (by simp) (hall ⟨5, .data⟩ (by simp) rfl)).2
      have HR := grepeat_any (gh 5) 1 n (-1) X hn ((Joins.cell_of_block h5 0).trans rfl) (Reg.size_of_get h5)
      have HR := qhid HR
      clear h5
      clear hI
      have HS2 := qhid HS
      clear HS
      unfold Reg.Yields
      go_simp
      have HS := HS2.out
      exact HR.out.mono fun e w2 ⟨he, hb, hv⟩ => ⟨_, he, ⟨Reg.updN gh 7 X.heap.size, fun j hj => seekT_7 (j := j) (fun e => by rw [e] at hj; rw [hj] at hun; cases hun) (fun e => by rw [e] at hj; rw [Reg.closed_reach hcl 60 8 7 (by kernel_rfl) hj] at hun; cases hun), rfl, HS.new X.heap.size (fun j hK _ hj => seekOb_7 hK (fun e => by rw [e] at hj; rw [Reg.closed_reach hcl 60 9 7 (by kernel_rfl) hj] at hun; cases hun)) (hb) (Nat.le_refl _) (hv)⟩⟩
    refine ⟨fun gh listed A X hI hcl hin hun hall => ⟨Reg.wanted_none rfl, ?_⟩, ?_⟩
    · have e7 : A.tmps[7]? = some (.slice (some ⟨gp, 0, none⟩) lg gc) := hI.ev (i := 0) (d := 7) (by rfl) (hall ⟨0, .data⟩ (by simp) rfl)
      have e9 : A.tmps[9]? = some (.slice (some ⟨gh 2, 0, none⟩) n n) := hI.ev (i := 2) (d := 9) (by rfl) (hall ⟨2, .data⟩ (by simp) rfl)
      have e11 : A.tmps[11]? = some (.slice (some ⟨gh 4, 0, none⟩) n n) := hI.ev (i := 4) (d := 11) (by rfl) (hall ⟨4, .data⟩ (by simp) rfl)
      have e14 : A.tmps[14]? = some (.slice (some ⟨gh 7, 0, none⟩) n n) := hI.ev (i := 7) (d := 14) (by rfl) (hall ⟨7, .data⟩ (by simp) rfl)
      have HS := hI.st
      clear hI
      have HS2 := qhid HS
      clear HS
      unfold Reg.Yields
      go_simp
      have HS := HS2.out
      exact ⟨gh, fun _ _ => rfl, rfl, HS.up (by decide) (Below.refl _ _)⟩
    refine ⟨fun gh listed A X hI hcl hin hun hall => ⟨Reg.wanted_none rfl, ?_⟩, ?_⟩
    · have e15 : A.tmps[15]? = some (.agg #[.slice (some ⟨gp, 0, none⟩) lg gc, .int .i64 0, .slice (some ⟨gh 2, 0, none⟩) n n, .slice (some ⟨gh 4, 0, none⟩) n n, .slice none 0 0, .slice none 0 0, .int .i64 0, .slice (some ⟨gh 7, 0, none⟩) n n, .slice none 0 0]) := hI.ev (i := 8) (d := 15) (by rfl) (hall ⟨8, .data⟩ (by simp) rfl)
      have HS := hI.st
      clear hI
      have HS2 := qhid HS
      clear HS
      unfold Reg.Yields
      go_simp
      have HS := HS2.out
      exact ⟨Reg.updN gh 9 X.heap.size, fun j hj => seekT_9 (j := j) (fun e => by rw [e] at hj; rw [hj] at hun; cases hun) (fun e => by rw [e] at hj; rw [Reg.closed_reach hcl 60 10 9 (by kernel_rfl) hj] at hun; cases hun), rfl, HS.new X.heap.size (fun j hK _ hj => seekOb_9 hK ) (below1 _ _) (Nat.le_refl _) (heap_new _ _)⟩
    refine ⟨fun gh listed A X hI hcl hin hun hall => ⟨Reg.wanted_none rfl, ?_⟩, ?_⟩
    · have e16 : A.tmps[16]? = some (.pointer (some ⟨gh 9, 0, none⟩)) := hI.ev (i := 9) (d := 16) (by rfl) (hall ⟨9, .data⟩ (by simp) rfl)
      have HS := hI.st
      clear hI
      have HS2 := qhid HS
      clear HS
      unfold Reg.Yields
      go_simp
      have HS := HS2.out
      exact ⟨gh, fun _ _ => rfl, rfl, HS.up (by decide) (Below.refl _ _)⟩
    trivial
  · intro gh X hS
    have HX := qhid hS.bel
    have a2 := hS.at_ 2 (by simp) (by rfl)
    have a4 := hS.at_ 4 (by simp) (by rfl)
    have a7 := hS.at_ 7 (by simp) (by rfl)
    have a9 := hS.at_ 9 (by simp) (by rfl)
    have n24 := hS.ne 2 (by simp) 4 (by simp) (by decide) (by rfl) (by rfl)
    have n27 := hS.ne 2 (by simp) 7 (by simp) (by decide) (by rfl) (by rfl)
    have n47 := hS.ne 4 (by simp) 7 (by simp) (by decide) (by rfl) (by rfl)
    simp [Reg.finalTmps, Reg.dstAt, Reg.valOf, seekT]
    obtain ⟨sb, hsb⟩ : ∃ b, b = gh 9 := ⟨_, rfl⟩
    obtain ⟨mb, hmb⟩ : ∃ b, b = gh 2 := ⟨_, rfl⟩
    obtain ⟨lb, hlb⟩ : ∃ b, b = gh 4 := ⟨_, rfl⟩
    obtain ⟨kb, hkb⟩ : ∃ b, b = gh 7 := ⟨_, rfl⟩
    have HS0 : Hid (SkAt X w.heap.size sb mb lb kb n (.slice (some ⟨gp, 0, none⟩) lg gc) (.slice none 0 0) (.slice none 0 0) (.slice none 0 0) [] Sk.start) := qhid (by
      rw [hsb, hmb, hlb, hkb]
      exact { sk := a9.2, me := a2.2, lo := a4.2, kn := a7.2, fp := rfl, pr := World.ownsRow_nil _ _ _ _, opr := World.ownsRow_nil _ _ _ _, dr := World.ownsRow_nil _ _ _ _, lf := (fun f hf => by cases hf), a1 := ⟨n24, n27, n47⟩, a2 := (fun g e => by cases e), a3 := (fun g e => by cases e), bs := ⟨a9.1, a2.1, a4.1, a7.1, hS.bel.size⟩ })
    rw [← hsb, ← hmb, ← hlb, ← hkb]
    clear hS a2 a4 a7 a9 n24 n27 n47 hsb hmb hlb hkb
    go_wp2_with fail
    go_loopw [18] (fun kv wr => ∃ i : Nat, i ≤ n ∧ kv = .int .i64 (i : Int) ∧ Hid (SeekI wr w.heap.size sb mb lb kb n (.slice (some ⟨gp, 0, none⟩) lg gc) gs i) ∧ Hid (Below w.heap.size w wr)) (fun kv _ => n - (intOf kv).toNat)
    case atStart => exact ⟨0, Nat.zero_le _, rfl, qhid ⟨_, _, _, _, HS0.out, Inv.begin _ _, rfl, fun v hv => absurd hv (Nat.not_lt_zero _)⟩, HX⟩
    case round =>
      obtain ⟨i, hi, rfl, HI, HB⟩ := hrel
      by_cases hlt : i < n
      · obtain ⟨s, pv, ov, dv, hs, hI, hp, hm⟩ := HI.out
        have HM := qhid hm
        have HP := qhid hp
        have HIV := qhid hI
        have HSK := qhid hs
        clear hs hI hp hm HI HS0
        obtain ⟨_, _, c2, _⟩ := HSK.out.cells
        obtain ⟨_, cm⟩ := HSK.out.lowc hlt
        by_cases h0 : s.met i = 0
        · have cm' : wr.cell? ⟨mb, i, none⟩ = some (.int .i64 0) := by rw [cm, h0]; rfl
          have HEN : Hid (Calls Try.prog 27 #[.pointer (some ⟨sb, 0, none⟩), .int .i64 (i : Int)] wr fun e w' => e = .returned (.tuple #[]) ∧ EnterTo wr w' w.heap.size sb mb lb kb n (.slice (some ⟨gp, 0, none⟩) lg gc) gs s i) := qhid (by
            have htl := HIV.out.times_lt hlt h0
            have htm := HIV.out.tm
            have HE := genter_any gp gc gs (by have := HSK.out; rw [HLG.out] at this; exact this) (HG.out.low HB.out) i hlt hn (by rw [← HLG.out]; exact hgs) (by omega) (by omega) (by simp)
            refine HE.mono ?_
            rintro e w2 ⟨he, L, lv, hL, _, hs⟩
            refine ⟨he, ⟨_, _, hs.ex.imp (fun pv h => h.imp (fun ov h => h.imp (fun dv h => by rw [HLG.out]; exact h))), hs.be, ?_, fun v => ?_⟩, hs.be⟩
            · have h3 := HIV.out.enter hlt h0 (fun v w hx => hx.elim) (fun f hf => by rw [HP.out] at hf; cases hf) hL
              rw [HP.out] at h3
              exact h3
            · show upd s.met i (s.times + 1) v ≠ 0 ↔ _
              by_cases hvi : v = i
              · rw [hvi, upd_same]; simp
              · rw [upd_other _ _ hvi]
                exact ⟨fun h => .inl h, fun h => h.resolve_right hvi⟩)
          clear cm
          go_wp2_with fail
          refine HEN.out.mono ?_
          rintro e w2 ⟨rfl, hen⟩
          have HEN2 := qhid hen
          clear hen c2 cm' HEN
          have HWK : Hid (Calls Try.prog 28 #[.pointer (some ⟨sb, 0, none⟩)] w2 fun e w' => e = .returned (.tuple #[]) ∧ Below w.heap.size w2 w' ∧ SeekI w' w.heap.size sb mb lb kb n (.slice (some ⟨gp, 0, none⟩) lg gc) gs (i + 1)) := qhid (by
            obtain ⟨F2, s2, ⟨pv2, ov2, dv2, h2⟩, hb2, hI2, hm2⟩ := HEN2.out.ex
            refine (gwalk_any gp gc gs (by have := h2; rw [HLG.out] at this; exact this) hI2 (HG.out.low (HB.out.trans hb2)) hn (by rw [← HLG.out]; exact hgs) HE0.out).mono ?_
            rintro e w3 ⟨he, ⟨s3, pv3, ov3, dv3, h3, hI3, hp3, hm3⟩, hb3⟩
            refine ⟨he, hb3, ⟨s3, pv3, ov3, dv3, by rw [HLG.out]; exact h3, hI3, hp3, fun v hv => hm3 v ((hm2 v).2 ?_)⟩⟩
            by_cases hvi : v = i
            · exact .inr hvi
            · exact .inl (HM.out v (by omega)))
          go_wp2_with fail
          refine HWK.out.mono ?_
          rintro e w3 ⟨rfl, hb3, hs3⟩
          have HB3 := qhid ((HB.out.trans HEN2.out.be).trans hb3)
          have HS3 := qhid hs3
          clear hb3 hs3
          go_wp2_with fail
          go_roundw
          case rel => exact ⟨i + 1, hlt, rfl, HS3, HB3⟩
          case measure => simp [intOf]; omega
        · have hmf : ((s.met i : Int) == 0) = false := by simpa using h0
          go_wp2_with fail
          go_roundw
          case rel => exact ⟨i + 1, hlt, rfl, qhid ⟨s, pv, ov, dv, HSK.out, HIV.out, HP.out, fun v hv => by
            rcases Nat.lt_succ_iff_lt_or_eq.1 hv with h | rfl
            · exact HM.out v h
            · exact h0⟩, HB⟩
          case measure => simp [intOf]; omega
      · obtain rfl : i = n := by omega
        go_wp2_with fail
        go_ret
        obtain ⟨s, pv, ov, dv, hs, hI, hp, hm⟩ := HI.out
        exact ⟨_, rfl, ⟨⟨sb, mb, lb, kb, s, pv, ov, dv, rfl, hs, hI.tied hp hm⟩, HB.out⟩⟩
end
end Go.Proofs.Ytghfodjefjijdaa
