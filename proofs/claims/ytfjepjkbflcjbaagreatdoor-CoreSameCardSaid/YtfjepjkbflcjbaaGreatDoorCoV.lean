/- core.tally told. -/
import Derived.Test.YtfjepjkbflcjbaaGreatDoorCoU
import Derived.Test.YtfjepjkbflcjbaaGreatDoorRegionM
namespace Go.Proofs.YtfjepjkbflcjbaaGreatDoor
section
open Go Go.RowKit
attribute [local go_sem ↓] Go.wp_at_zero Go.wp_at_succ
attribute [local go_sem] eq4
theorem klookup1_ptr {w : World} {b : Nat} {q : Option Nat} {v : Int} {D : List (Option Nat × Int)} (h : kPtrMap w b D) (hq : IsK w q) (hD : ∀ p ∈ D, IsK w p.1) (hv : kgotD D q = (v, true)) :
    (Instr.lookup 79 (.map (some b)) (kPtr q) false).run Tryz.prog w = .ok (.int .i64 v) w := by
  obtain ⟨es, clock, hb, he⟩ := h
  have hf := kfindKey_ptr q w es.toList D hq hD he
  unfold Instr.lookup
  simp only [Sem.run_bind, run_underlying Tryz.underlying79, Result.andThen_ok, Sem.run_pure, MapKept.run_getObj_map hb, kcheckKey_ptr, hf]
  rcases klook_got D q 0 with ⟨h1, h2⟩ | ⟨j, v', h1, h2⟩
  · rw [hv] at h1; cases h1
  · rw [hv] at h1
    cases h1
    rw [h2]
    simp
theorem IsK.below {w w' : World} {B : Nat} {q : Option Nat} (h : IsK w q) (hb : Below B w w') (hB : w.heap.size ≤ B) : IsK w' q := by
  intro a e
  obtain ⟨c, t, hc⟩ := h a e
  have hl := Reg.size_of_get hc
  exact ⟨c, t, (hb.block a (by omega)).trans hc⟩
theorem co_size (x : KE) : coSize x.co = coSize x.a + coSize x.b + 1 := by
  unfold KE.co
  rw [coSize]
  omega
theorem meas_told (D : List (Option Nat × Int)) (P : List KE) (x : KE) (v : Int) : meas (kputD D (some x.q) v) P + 1 ≤ meas D (P ++ [x]) := by
  rw [meas_snoc]
  have := meas_put D (some x.q) v P
  omega
theorem meas_enter (D : List (Option Nat × Int)) (P : List KE) (x y : KE) (h : (x.pa = some y.q ∧ x.a = y.co) ∨ (x.pb = some y.q ∧ x.b = y.co)) (hn : (kgotD D (some y.q)).2 = false) : meas (kputD D (some y.q) (-1)) (P ++ [x] ++ [y]) + 1 ≤ meas D (P ++ [x]) := by
  rw [meas_snoc, meas_snoc, meas_snoc]
  have h1 := meas_put D (some y.q) (-1) P
  have ha := pend_put D (some y.q) (-1) x.pa x.a
  have hb := pend_put D (some y.q) (-1) x.pb x.b
  have ya := pend_le (kputD D (some y.q) (-1)) y.pa y.a
  have yb := pend_le (kputD D (some y.q) (-1)) y.pb y.b
  have hs := co_size y
  have hp : pend D (some y.q) y.co = 2 * coSize y.co := by unfold pend; rw [hn]; rfl
  rcases h with ⟨e1, e2⟩ | ⟨e1, e2⟩
  · have z := pend_hit D (some y.q) (-1) y.co
    rw [e1, e2] at ha ⊢
    omega
  · have z := pend_hit D (some y.q) (-1) y.co
    rw [e1, e2] at hb ⊢
    omega
theorem meas_len (D : List (Option Nat × Int)) (P : List KE) : P.length ≤ meas D P := by
  unfold meas
  induction P with
  | nil => exact Nat.le_refl _
  | cons x r ih =>
    simp only [List.map_cons, List.sum_cons, List.length_cons]
    omega
theorem meas_start (y : KE) (D : List (Option Nat × Int)) : meas D [y] ≤ 2 * coSize y.co := by
  have ya := pend_le D y.pa y.a
  have yb := pend_le D y.pb y.b
  have hs := co_size y
  unfold meas
  simp only [List.map_cons, List.map_nil, List.sum_cons, List.sum_nil]
  omega
theorem tallyM_nn {num : Co → Int → Int → Int} (hn : ∀ c a b, 0 ≤ num c a b ∧ num c a b ≤ top) : ∀ c, 0 ≤ tallyM num c ∧ tallyM num c ≤ top
  | .nil => by rw [tallyM]; unfold top; omega
  | .node k s z a b => by rw [tallyM]; exact hn _ _ _
def tk9 (mb q : Nat) (p : Option Addr) (a : Int) (h : Bool) : Nat → Value
  | 0 => .map (some mb)
  | 1 => .pointer (some ⟨q, 0, none⟩)
  | 2 => .pointer (some ⟨q, 0, none⟩)
  | 3 => .pointer (some ⟨q, 6, none⟩)
  | 4 => .pointer p
  | 5 => .tuple #[.int .i64 a, .bool h]
  | 6 => .tuple #[.int .i64 a, .bool h]
  | 7 => .int .i64 a
  | 8 => .bool h
  | 9 => .int .i64 a
  | 10 => .bool h
  | _ => undef
def tk10 (mb q : Nat) (p : Option Addr) (a : Int) (h : Bool) : Nat → Value
  | 0 => .map (some mb)
  | 1 => .pointer (some ⟨q, 0, none⟩)
  | 2 => .pointer (some ⟨q, 0, none⟩)
  | 3 => .pointer (some ⟨q, 7, none⟩)
  | 4 => .pointer p
  | 5 => .tuple #[.int .i64 a, .bool h]
  | 6 => .tuple #[.int .i64 a, .bool h]
  | 7 => .int .i64 a
  | 8 => .bool h
  | 9 => .int .i64 a
  | 10 => .bool h
  | _ => undef
def tk11 (mb q : Nat) (fn : FuncId) (a b n : Int) : Nat → Value
  | 0 => .map (some mb)
  | 1 => .pointer (some ⟨q, 0, none⟩)
  | 2 => .func (.func fn) #[] #[]
  | 3 => .pointer (some ⟨q, 0, none⟩)
  | 4 => .int .i64 a
  | 5 => .int .i64 b
  | 6 => .int .i64 n
  | 7 => undef
  | _ => undef
theorem TalI.known {num : Co → Int → Int → Int} (hn : ∀ c a b, 0 ≤ num c a b ∧ num c a b ≤ top) {w : World} {q0 : Nat} {D : List (Option Nat × Int)} {P : List KE} {x : KE} (h : TalI num w q0 D (P ++ [x])) {c : Co} {p : Option Nat} (hc : CoAt w c (kPtr p)) (hs : coSize c < coSize x.co) :
    ∃ v k, kgotD D p = (v, k) ∧ (0 ≤ v ∧ v ≤ top) ∧ (k = true → v = tallyM num c) ∧ (k = false → ∃ y : KE, KEAt w y ∧ y.co = c ∧ p = some y.q) := by
  rcases klook_got D p 0 with ⟨h1, _⟩ | ⟨j, v, h1, _⟩
  · refine ⟨0, false, h1, ⟨by omega, by unfold top; omega⟩, fun e => (by cases e), fun _ => ?_⟩
    cases p with
    | none => rw [h.nl] at h1; cases h1
    | some q =>
      obtain ⟨y, rfl, e2, hy⟩ := ke_of hc
      exact ⟨y, hy, e2, rfl⟩
  · have e := h.part hc hs h1
    exact ⟨v, true, h1, e ▸ tallyM_nn hn c, fun _ => e, fun e => by cases e⟩
set_option maxRecDepth 100000 in
set_option maxHeartbeats 8000000 in
theorem ctally_any (F : Co → Prop) (hF : ∀ k s z a b, F (.node k s z a b) → F a ∧ F b) (num : Co → Int → Int → Int) (fn : FuncId) (c0 : Co) (q0 : Nat) (w : World) (hnn : ∀ c a b, 0 ≤ num c a b ∧ num c a b ≤ top) (hcf : ∀ args W, (callFunc fn args).run Tryz.prog W = .ok (.enter fn args) W)
    (hK : ∀ (c : Co) (q : Nat) (a b : Int) (X : World), Below w.heap.size w X → F c → CoAt w c (kPtr (some q)) → (0 ≤ a ∧ a ≤ top) → (0 ≤ b ∧ b ≤ top) → Calls Tryz.prog fn #[kPtr (some q), .int .i64 a, .int .i64 b] X fun e w' => e = .returned (.int .i64 (num c a b)) ∧ Below X.heap.size X w')
    (hc : CoAt w c0 (kPtr (some q0))) (hF0 : F c0) (hsz : 2 * coSize c0 ≤ 1000000000) :
    Calls Tryz.prog 15 #[.pointer (some ⟨q0, 0, none⟩), .func (.func fn) #[] #[]] w fun e w' => e = .returned (.int .i64 (tallyM num c0)) ∧ Below w.heap.size w w' := by
  obtain ⟨y, hyq, hyc, hy⟩ := ke_of hc
  have hmm := @run_makeMap Tryz.prog
  obtain ⟨w1, hw1⟩ : ∃ X, X = w.alloc (.map #[] 0) := ⟨_, rfl⟩
  have b1 : Below w.heap.size w w1 := by rw [hw1]; exact below1 _ _
  have hmp : kPtrMap w1 w.heap.size [] := ⟨#[], 0, by rw [hw1]; exact heap_new w _, rfl⟩
  obtain ⟨w2, hup, hm2, hg2⟩ := kupdate_ptr 0 hmp (q := none) (fun a e => by cases e) (fun p h => by cases h)
  have hup : (Instr.mapUpdate 79 (.map (some w.heap.size)) (.pointer none) (.int .i64 0)).run Tryz.prog w1 = .ok () w2 := hup
  have b2 : Below w.heap.size w w2 := b1.grown hg2 b1.size (fun k e => by cases e; exact Nat.le_refl _)
  rw [hw1] at hup
  obtain ⟨mb, hmb⟩ : ∃ k, k = w.heap.size := ⟨_, rfl⟩
  obtain ⟨kB, hkB⟩ : ∃ k, k = w2.heap.size := ⟨_, rfl⟩
  obtain ⟨pB, hpB⟩ : ∃ k, k = w2.heap.size + 1 := ⟨_, rfl⟩
  obtain ⟨w3, hw3⟩ : ∃ X, X = (w2.alloc (.cells #[.map (some w.heap.size)] 79)).alloc (.cells #[.slice none 0 0] 80) := ⟨_, rfl⟩
  have hs2 : (w2.alloc (.cells #[.map (some w.heap.size)] 79)).heap.size = pB := by rw [hpB, World.size_alloc]
  have h3 : TalC w w3 kB pB mb [(none, 0)] [] (.slice none 0 0) := by
    have b3 : Below w2.heap.size w2 w3 := by rw [hw3]; exact (below1 _ _).trans ((below1 _ _).mono (by rw [World.size_alloc]; omega))
    have hsz2 := b2.size
    refine ⟨by omega, by omega, by omega, ?_, ?_, ?_, ⟨rfl, .inl ⟨rfl, rfl⟩⟩, b2.trans (b3.mono b2.size)⟩
    · show w3.heap[kB]? = _
      rw [hw3, hkB, hmb]
      exact below_kept (below1 _ _) (heap_new w2 _)
    · show w3.heap[pB]? = _
      rw [hw3, ← hs2]
      exact heap_new _ _
    · rw [hmb]
      exact kPtrMap.keep hm2 (grown_below none b3) (by simp)
  have hyk : IsK w3 (some q0) := (isK_of hc).below h3.be (Nat.le_refl _)
  have HE := qhid (tal_enter w w3 kB pB mb q0 [(none, 0)] [] (.slice none 0 0) h3 hyk (fun p hp => by
    obtain rfl : p = (none, 0) := by simpa using hp
    intro a e
    cases e) (by simp))
  have HNN := qhid hnn
  have HC0 := qhid hc
  have HK := qhid hK
  have HI0 : Hid (TalI num w q0 (kputD [(none, 0)] (some q0) (-1)) [y]) := qhid (hyq ▸ TalI.start num hy)
  have HM0 : Hid (meas (kputD [(none, 0)] (some q0) (-1)) [y] ≤ 2 * coSize c0) := qhid (hyc ▸ meas_start y _)
  have HYQ := qhid hyq
  have HFF0 : Hid (∀ x ∈ [y], F x.co) := qhid (fun x hx => by
    have e : x = y := (by simpa using hx)
    rw [e, hyc]; exact hF0)
  have HFH := qhid hF
  have HW3 := qhid hw3
  have HPB := qhid hpB
  have HKB := qhid hkB
  have HMB := qhid hmb
  clear hF0 hF hm2 hg2 hmp hw1 b1 hc hy hyc hK b2 hnn hyq hyk h3 hw3 hs2 hpB hkB hmb
  go_enter Tryz.func15, Tryz.ntmps15
  go_wp2_with fail
  rw [← HW3.out, ← HPB.out, ← HKB.out, ← HMB.out]
  clear hup hmm
  refine HE.out.mono ?_
  rintro e w4 ⟨rfl, pv4, h4⟩
  have H4 := qhid h4
  clear h4 HE
  go_wp2_with fail
  go_loopg [] (2 * coSize c0) (fun gk wr => ∃ (D : List (Option Nat × Int)) (P : List KE) (pv : Value), meas D P ≤ gk ∧ gk ≤ 1000000000 ∧ Hid (TalI num w q0 D P) ∧ Hid (∀ x ∈ P, F x.co) ∧ Hid (TalC w wr kB pB mb D (P.map KE.q) pv))
  case atStart => exact ⟨_, [y], pv4, HM0.out, hsz, HI0, HFF0, by rw [List.map_cons, List.map_nil, HYQ.out]; exact H4⟩
  case round =>
    clear HI0 HM0 H4 HFF0
    obtain ⟨D, P, pv, hme, hgk, HI, HFX, HC⟩ := hrel
    rcases List.eq_nil_or_concat P with rfl | ⟨P, x, rfl⟩
    · have hdn := HI.out.done HC0.out
      have LK := klookup1_ptr HC.out.mp ((isK_of HC0.out).below HC.out.be (Nat.le_refl _)) (fun p hp => (HI.out.ks p hp).below HC.out.be (Nat.le_refl _)) hdn
      have LK : (Instr.lookup 79 (.map (some mb)) (.pointer (some ⟨q0, 0, none⟩)) false).run Tryz.prog wr = .ok (.int .i64 (tallyM num c0)) wr := LK
      obtain ⟨bb, cc, rfl⟩ : ∃ b c, pv = .slice b 0 c := by rcases HC.out.row.2 with ⟨h, _⟩ | ⟨g, cap, cur, h, _⟩ <;> exact ⟨_, _, h⟩
      have hkb := HC.out.kb.cell
      have hpb := HC.out.pb.cell
      clear hdn
      go_wp2_with fail
      go_ret
      exact ⟨rfl, HC.out.be⟩
    · rw [List.concat_eq_append] at hme HI HFX HC
      obtain ⟨q, k, s, z, ca, cb, pa, pb⟩ := x
      obtain ⟨L, hL⟩ : ∃ L, L = P.map KE.q ++ [q] := ⟨_, rfl⟩
      rw [show (P ++ [(⟨q, k, s, z, ca, cb, pa, pb⟩ : KE)]).map KE.q = L by rw [hL]; simp] at HC
      have HL := qhid hL
      have hC := HC.out
      rw [hL] at hC
      obtain ⟨g, cap, hpv, hcap, hcell, hgl, _⟩ := hC.pop
      obtain ⟨ln, hln⟩ : ∃ n, n = (P.map KE.q).length := ⟨_, rfl⟩
      have HLN := qhid hln
      have HPV := qhid hpv
      have hl1 : L.length = ln + 1 := by rw [hL, hln]; simp
      have hll := meas_len D (P ++ [⟨q, k, s, z, ca, cb, pa, pb⟩])
      have hll : ln + 1 ≤ 1000000000 := by rw [List.length_append, List.length_singleton] at hll; rw [hln, List.length_map]; omega
      have HLL := qhid hl1
      have HX := HI.out.at_ ⟨q, k, s, z, ca, cb, pa, pb⟩ (by simp)
      have HQ : Hid (w.heap[q]? = some (coOb k s z (kPtr pa) (kPtr pb))) := qhid HX.hb
      have hsa := coSize_part ⟨q, k, s, z, ca, cb, pa, pb⟩
      obtain ⟨a, ha, hga, HAA, hta, hna⟩ := HI.out.known HNN.out HX.ca hsa.1
      obtain ⟨b, hb, hgb, HBB, htb, hnb⟩ := HI.out.known HNN.out HX.cb hsa.2
      obtain ⟨va, hva⟩ : ∃ v, kPtr pa = .pointer v := ⟨_, rfl⟩
      obtain ⟨vb, hvb⟩ : ∃ v, kPtr pb = .pointer v := ⟨_, rfl⟩
      have KQ : ∀ (p : Option Nat) (c : Co) (X : World), CoAt w c (kPtr p) → TalC w X kB pB mb D L pv → IsK X p := fun p c X hc hX => (isK_of hc).below hX.be (Nat.le_refl _)
      have KD : ∀ X, TalC w X kB pB mb D L pv → ∀ p ∈ D, IsK X p.1 := fun X hX p hp => (HI.out.ks p hp).below hX.be (Nat.le_refl _)
      have LKA : Hid (∀ X, TalC w X kB pB mb D L pv → (Instr.lookup 79 (.map (some mb)) (.pointer va) true).run Tryz.prog X = .ok (.tuple #[.int .i64 a, .bool ha]) X) := qhid (fun X hX => by
        have := klookup_ptr hX.mp (KQ pa ca X HX.ca hX) (KD X hX)
        rw [hga, hva] at this
        exact this)
      have LKB : Hid (∀ X, TalC w X kB pB mb D L pv → (Instr.lookup 79 (.map (some mb)) (.pointer vb) true).run Tryz.prog X = .ok (.tuple #[.int .i64 b, .bool hb]) X) := qhid (fun X hX => by
        have := klookup_ptr hX.mp (KQ pb cb X HX.cb hX) (KD X hX)
        rw [hgb, hvb] at this
        exact this)
      have HKQ : Hid (∀ X, TalC w X kB pB mb D L pv → IsK X (some q)) := qhid (fun X hX => KQ (some q) _ X HX.co hX)
      have HKD := qhid KD
      obtain ⟨n, hnv⟩ : ∃ n, n = num (KE.co ⟨q, k, s, z, ca, cb, pa, pb⟩) a b := ⟨_, rfl⟩
      have HNK : Hid (∀ X, TalC w X kB pB mb D L pv → Calls Tryz.prog fn #[.pointer (some ⟨q, 0, none⟩), .int .i64 a, .int .i64 b] X fun e w' => e = .returned (.int .i64 n) ∧ Below X.heap.size X w') := qhid (fun X hX => by
        rw [hnv]
        exact HK.out _ q a b X hX.be (HFX.out ⟨q, k, s, z, ca, cb, pa, pb⟩ (by simp)) HX.co HAA HBB)
      have HITT : ha = true → hb = true → Hid (TalI num w q0 (kputD D (some q) n) P) := fun e1 e2 => qhid (by
        have := HI.out.told
        rw [show tallyM num (KE.co ⟨q, k, s, z, ca, cb, pa, pb⟩) = n by rw [hnv, hta e1, htb e2]; rfl] at this
        exact this)
      have hmt : meas (kputD D (some q) n) P + 1 ≤ meas D (P ++ [⟨q, k, s, z, ca, cb, pa, pb⟩]) := meas_told D P ⟨q, k, s, z, ca, cb, pa, pb⟩ n
      have HIX := qhid HITT
      have hFk := HFH.out _ _ _ _ _ (HFX.out ⟨q, k, s, z, ca, cb, pa, pb⟩ (by simp))
      have HGP : Hid (∀ x ∈ P, F x.co) := qhid (fun x hx => HFX.out x (List.mem_append_left _ hx))
      have HGa2 : Hid (∀ y : KE, y.co = ca → ∀ x ∈ P ++ [(⟨q, k, s, z, ca, cb, pa, pb⟩ : KE)] ++ [y], F x.co) := qhid (fun y e x hx => by
        rcases List.mem_append.1 hx with hx | hx
        · exact HFX.out x hx
        · obtain rfl : x = y := by simpa using hx
          rw [e]; exact hFk.1)
      have HGb2 : Hid (∀ y : KE, y.co = cb → ∀ x ∈ P ++ [(⟨q, k, s, z, ca, cb, pa, pb⟩ : KE)] ++ [y], F x.co) := qhid (fun y e x hx => by
        rcases List.mem_append.1 hx with hx | hx
        · exact HFX.out x hx
        · obtain rfl : x = y := by simpa using hx
          rw [e]; exact hFk.2)
      have HNa := qhid hna
      have HNb := qhid hnb
      have HVa := qhid hva
      have HVb := qhid hvb
      have HSa := qhid hsa.1
      have HSb := qhid hsa.2
      have HGa := qhid hga
      have HGb := qhid hgb
      have HAA := qhid HAA
      have HBB := qhid HBB
      have HPa : Hid (∀ y : KE, y.co = ca → pa = some y.q → (pa = some y.q ∧ ca = y.co) ∨ (pb = some y.q ∧ cb = y.co)) := qhid (fun y e1 e2 => .inl ⟨e2, e1.symm⟩)
      have HPb : Hid (∀ y : KE, y.co = cb → pb = some y.q → (pa = some y.q ∧ ca = y.co) ∨ (pb = some y.q ∧ cb = y.co)) := qhid (fun y e1 e2 => .inr ⟨e2, e1.symm⟩)
      have hpb := HC.out.pb.cell
      have hkb := HC.out.kb.cell
      rw [hpv, ← hln] at hpb
      rw [← hln] at hcell hcap
      replace hcell : wr.cell? ⟨g, ln, none⟩ = some (.pointer (some ⟨q, 0, none⟩)) := hcell
      rw [hva, hvb] at HQ
      clear HITT hFk hL hC hln hpv hl1 HX hsa hga hta hna hgb htb hnb hva hvb KQ KD hnv
      go_upto_region 9 with fail
      clear hpb hkb hcell
      refine Reg.wp_region_C (tk9 mb q va a ha) (fun _ X => TalC w X kB pB mb D L pv) [0, 1, 2, 3, 4, 5, 6, 7, 8, 9, 10] (by rfl) (by kernel_rfl) (by kernel_rfl) ?_ ?_ ?_
      · exact HC.out.up (Below.drew (Below.refl _ _))
      · skip
        refine ⟨fun listed A X hI hcl hin hun hall => .inl ⟨Reg.wanted_none rfl, ?_⟩, ?_⟩
        · have e5 := hI.evo (d := 5) (by kernel_rfl) rfl
          have hX : TalC w X kB pB mb D L pv := hI.st
          have f := hX.kb.cell
          have HX := qhid hX
          clear hI hall hX hcl
          unfold Reg.Yields
          go_simp
          first | rfl | exact ⟨rfl, HX.out⟩ | (refine ⟨?_, HX.out⟩; simp [tk9]; done)
        refine ⟨fun listed A X hI hcl hin hun hall => .inl ⟨Reg.wanted_none rfl, ?_⟩, ?_⟩
        · have e8 := hI.evo (d := 8) (by kernel_rfl) rfl
          have hX : TalC w X kB pB mb D L pv := hI.st
          have HX := qhid hX
          clear hI hall hX hcl
          unfold Reg.Yields
          go_simp
          first | rfl | exact ⟨rfl, HX.out⟩ | (refine ⟨?_, HX.out⟩; simp [tk9]; done)
        refine ⟨fun listed A X hI hcl hin hun hall => .inl ⟨Reg.wanted_none rfl, ?_⟩, ?_⟩
        · have e32 : A.tmps[32]? = some (.pointer (some ⟨q, 0, none⟩)) := hI.ev (i := 1) (d := 32) (by rfl) (hall ⟨1, .data⟩ (by simp) rfl)
          have hX : TalC w X kB pB mb D L pv := hI.st
          have hb := (hX.be.block _ (Reg.size_of_get HQ.out)).trans HQ.out
          have y6 := Joins.cell_of_block hb 6
          have hyl := Reg.size_of_get hb
          simp only [List.getElem?_toArray, List.getElem?_cons_zero, List.getElem?_cons_succ] at y6
          clear hb
          have HX := qhid hX
          clear hI hall hX hcl
          unfold Reg.Yields
          go_simp
          first | rfl | exact ⟨rfl, HX.out⟩ | (refine ⟨?_, HX.out⟩; simp [tk9]; done)
        refine ⟨fun listed A X hI hcl hin hun hall => .inl ⟨Reg.wanted_none rfl, ?_⟩, ?_⟩
        · have e33 : A.tmps[33]? = some (.pointer (some ⟨q, 0, none⟩)) := hI.ev (i := 2) (d := 33) (by rfl) (hall ⟨2, .data⟩ (by simp) rfl)
          have hX : TalC w X kB pB mb D L pv := hI.st
          have hb := (hX.be.block _ (Reg.size_of_get HQ.out)).trans HQ.out
          have y6 := Joins.cell_of_block hb 6
          have hyl := Reg.size_of_get hb
          simp only [List.getElem?_toArray, List.getElem?_cons_zero, List.getElem?_cons_succ] at y6
          clear hb
          have HX := qhid hX
          clear hI hall hX hcl
          unfold Reg.Yields
          go_simp
          first | rfl | exact ⟨rfl, HX.out⟩ | (refine ⟨?_, HX.out⟩; simp [tk9]; done)
        refine ⟨fun listed A X hI hcl hin hun hall => .inl ⟨Reg.wanted_none rfl, ?_⟩, ?_⟩
        · have e34 : A.tmps[34]? = some (.pointer (some ⟨q, 6, none⟩)) := hI.ev (i := 3) (d := 34) (by rfl) (hall ⟨3, .data⟩ (by simp) rfl)
          have hX : TalC w X kB pB mb D L pv := hI.st
          have hb := (hX.be.block _ (Reg.size_of_get HQ.out)).trans HQ.out
          have y6 := Joins.cell_of_block hb 6
          have hyl := Reg.size_of_get hb
          simp only [List.getElem?_toArray, List.getElem?_cons_zero, List.getElem?_cons_succ] at y6
          clear hb
          have HX := qhid hX
          clear hI hall hX hcl
          unfold Reg.Yields
          go_simp
          first | rfl | exact ⟨rfl, HX.out⟩ | (refine ⟨?_, HX.out⟩; simp [tk9]; done)
        refine ⟨fun listed A X hI hcl hin hun hall => .inl ⟨Reg.wanted_none rfl, ?_⟩, ?_⟩
        · have e31 : A.tmps[31]? = some (.map (some mb)) := hI.ev (i := 0) (d := 31) (by rfl) (hall ⟨0, .data⟩ (by simp) rfl)
          have e35 : A.tmps[35]? = some (.pointer va) := hI.ev (i := 4) (d := 35) (by rfl) (hall ⟨4, .data⟩ (by simp) rfl)
          have hX : TalC w X kB pB mb D L pv := hI.st
          have lk := LKA.out X hX
          have HX := qhid hX
          clear hI hall hX hcl
          unfold Reg.Yields
          go_simp
          first | rfl | exact ⟨rfl, HX.out⟩ | (refine ⟨?_, HX.out⟩; simp [tk9]; done)
        refine ⟨fun listed A X hI hcl hin hun hall => .inl ⟨Reg.wanted_none rfl, ?_⟩, ?_⟩
        · have e36 : A.tmps[36]? = some (.tuple #[.int .i64 a, .bool ha]) := hI.ev (i := 5) (d := 36) (by rfl) (hall ⟨5, .data⟩ (by simp) rfl)
          have hX : TalC w X kB pB mb D L pv := hI.st
          have HX := qhid hX
          clear hI hall hX hcl
          unfold Reg.Yields
          go_simp
          first | rfl | exact ⟨rfl, HX.out⟩ | (refine ⟨?_, HX.out⟩; simp [tk9]; done)
        refine ⟨fun listed A X hI hcl hin hun hall => .inl ⟨Reg.wanted_none rfl, ?_⟩, ?_⟩
        · have e30 : A.tmps[30]? = some (.tuple #[.int .i64 a, .bool ha]) := hI.ev (i := 6) (d := 30) (by rfl) (hall ⟨6, .data⟩ (by simp) rfl)
          have hX : TalC w X kB pB mb D L pv := hI.st
          have HX := qhid hX
          clear hI hall hX hcl
          unfold Reg.Yields
          go_simp
          first | rfl | exact ⟨rfl, HX.out⟩ | (refine ⟨?_, HX.out⟩; simp [tk9]; done)
        refine ⟨fun listed A X hI hcl hin hun hall => .inl ⟨Reg.wanted_none rfl, ?_⟩, ?_⟩
        · have e30 : A.tmps[30]? = some (.tuple #[.int .i64 a, .bool ha]) := hI.ev (i := 6) (d := 30) (by rfl) (hall ⟨6, .data⟩ (by simp) rfl)
          have hX : TalC w X kB pB mb D L pv := hI.st
          have HX := qhid hX
          clear hI hall hX hcl
          unfold Reg.Yields
          go_simp
          first | rfl | exact ⟨rfl, HX.out⟩ | (refine ⟨?_, HX.out⟩; simp [tk9]; done)
        refine ⟨fun listed A X hI hcl hin hun hall => .inl ⟨Reg.wanted_none rfl, ?_⟩, ?_⟩
        · have e37 : A.tmps[37]? = some (.int .i64 a) := hI.ev (i := 7) (d := 37) (by rfl) (hall ⟨7, .data⟩ (by simp) rfl)
          have hX : TalC w X kB pB mb D L pv := hI.st
          have HX := qhid hX
          clear hI hall hX hcl
          unfold Reg.Yields
          go_simp
          first | rfl | exact ⟨rfl, HX.out⟩ | (refine ⟨?_, HX.out⟩; simp [tk9]; done)
        refine ⟨fun listed A X hI hcl hin hun hall => .inl ⟨Reg.wanted_none rfl, ?_⟩, ?_⟩
        · have e38 : A.tmps[38]? = some (.bool ha) := hI.ev (i := 8) (d := 38) (by rfl) (hall ⟨8, .data⟩ (by simp) rfl)
          have hX : TalC w X kB pB mb D L pv := hI.st
          have HX := qhid hX
          clear hI hall hX hcl
          unfold Reg.Yields
          go_simp
          first | rfl | exact ⟨rfl, HX.out⟩ | (refine ⟨?_, HX.out⟩; simp [tk9]; done)
        trivial
      · intro X hS
        have HX := qhid hS
        clear hS
        simp [Reg.finalTmps, Reg.dstAt, Reg.valOf, tk9]
        go_upto_region 10 with fail
        refine Reg.wp_region_C (tk10 mb q vb b hb) (fun _ X => TalC w X kB pB mb D L pv) [0, 1, 2, 3, 4, 5, 6, 7, 8, 9, 10] (by rfl) (by kernel_rfl) (by kernel_rfl) ?_ ?_ ?_
        · exact HX.out.up (Below.drew (Below.refl _ _))
        · skip
          refine ⟨fun listed A X hI hcl hin hun hall => .inl ⟨Reg.wanted_none rfl, ?_⟩, ?_⟩
          · have e5 := hI.evo (d := 5) (by kernel_rfl) rfl
            have hX : TalC w X kB pB mb D L pv := hI.st
            have f := hX.kb.cell
            have HX := qhid hX
            clear hI hall hX hcl
            unfold Reg.Yields
            go_simp
            first | rfl | exact ⟨rfl, HX.out⟩ | (refine ⟨?_, HX.out⟩; simp [tk10]; done)
          refine ⟨fun listed A X hI hcl hin hun hall => .inl ⟨Reg.wanted_none rfl, ?_⟩, ?_⟩
          · have e8 := hI.evo (d := 8) (by kernel_rfl) rfl
            have hX : TalC w X kB pB mb D L pv := hI.st
            have HX := qhid hX
            clear hI hall hX hcl
            unfold Reg.Yields
            go_simp
            first | rfl | exact ⟨rfl, HX.out⟩ | (refine ⟨?_, HX.out⟩; simp [tk10]; done)
          refine ⟨fun listed A X hI hcl hin hun hall => .inl ⟨Reg.wanted_none rfl, ?_⟩, ?_⟩
          · have e41 : A.tmps[41]? = some (.pointer (some ⟨q, 0, none⟩)) := hI.ev (i := 1) (d := 41) (by rfl) (hall ⟨1, .data⟩ (by simp) rfl)
            have hX : TalC w X kB pB mb D L pv := hI.st
            have hb := (hX.be.block _ (Reg.size_of_get HQ.out)).trans HQ.out
            have y7 := Joins.cell_of_block hb 7
            have hyl := Reg.size_of_get hb
            simp only [List.getElem?_toArray, List.getElem?_cons_zero, List.getElem?_cons_succ] at y7
            clear hb
            have HX := qhid hX
            clear hI hall hX hcl
            unfold Reg.Yields
            go_simp
            first | rfl | exact ⟨rfl, HX.out⟩ | (refine ⟨?_, HX.out⟩; simp [tk10]; done)
          refine ⟨fun listed A X hI hcl hin hun hall => .inl ⟨Reg.wanted_none rfl, ?_⟩, ?_⟩
          · have e42 : A.tmps[42]? = some (.pointer (some ⟨q, 0, none⟩)) := hI.ev (i := 2) (d := 42) (by rfl) (hall ⟨2, .data⟩ (by simp) rfl)
            have hX : TalC w X kB pB mb D L pv := hI.st
            have hb := (hX.be.block _ (Reg.size_of_get HQ.out)).trans HQ.out
            have y7 := Joins.cell_of_block hb 7
            have hyl := Reg.size_of_get hb
            simp only [List.getElem?_toArray, List.getElem?_cons_zero, List.getElem?_cons_succ] at y7
            clear hb
            have HX := qhid hX
            clear hI hall hX hcl
            unfold Reg.Yields
            go_simp
            first | rfl | exact ⟨rfl, HX.out⟩ | (refine ⟨?_, HX.out⟩; simp [tk10]; done)
          refine ⟨fun listed A X hI hcl hin hun hall => .inl ⟨Reg.wanted_none rfl, ?_⟩, ?_⟩
          · have e43 : A.tmps[43]? = some (.pointer (some ⟨q, 7, none⟩)) := hI.ev (i := 3) (d := 43) (by rfl) (hall ⟨3, .data⟩ (by simp) rfl)
            have hX : TalC w X kB pB mb D L pv := hI.st
            have hb := (hX.be.block _ (Reg.size_of_get HQ.out)).trans HQ.out
            have y7 := Joins.cell_of_block hb 7
            have hyl := Reg.size_of_get hb
            simp only [List.getElem?_toArray, List.getElem?_cons_zero, List.getElem?_cons_succ] at y7
            clear hb
            have HX := qhid hX
            clear hI hall hX hcl
            unfold Reg.Yields
            go_simp
            first | rfl | exact ⟨rfl, HX.out⟩ | (refine ⟨?_, HX.out⟩; simp [tk10]; done)
          refine ⟨fun listed A X hI hcl hin hun hall => .inl ⟨Reg.wanted_none rfl, ?_⟩, ?_⟩
          · have e40 : A.tmps[40]? = some (.map (some mb)) := hI.ev (i := 0) (d := 40) (by rfl) (hall ⟨0, .data⟩ (by simp) rfl)
            have e44 : A.tmps[44]? = some (.pointer vb) := hI.ev (i := 4) (d := 44) (by rfl) (hall ⟨4, .data⟩ (by simp) rfl)
            have hX : TalC w X kB pB mb D L pv := hI.st
            have lk := LKB.out X hX
            have HX := qhid hX
            clear hI hall hX hcl
            unfold Reg.Yields
            go_simp
            first | rfl | exact ⟨rfl, HX.out⟩ | (refine ⟨?_, HX.out⟩; simp [tk10]; done)
          refine ⟨fun listed A X hI hcl hin hun hall => .inl ⟨Reg.wanted_none rfl, ?_⟩, ?_⟩
          · have e45 : A.tmps[45]? = some (.tuple #[.int .i64 b, .bool hb]) := hI.ev (i := 5) (d := 45) (by rfl) (hall ⟨5, .data⟩ (by simp) rfl)
            have hX : TalC w X kB pB mb D L pv := hI.st
            have HX := qhid hX
            clear hI hall hX hcl
            unfold Reg.Yields
            go_simp
            first | rfl | exact ⟨rfl, HX.out⟩ | (refine ⟨?_, HX.out⟩; simp [tk10]; done)
          refine ⟨fun listed A X hI hcl hin hun hall => .inl ⟨Reg.wanted_none rfl, ?_⟩, ?_⟩
          · have e39 : A.tmps[39]? = some (.tuple #[.int .i64 b, .bool hb]) := hI.ev (i := 6) (d := 39) (by rfl) (hall ⟨6, .data⟩ (by simp) rfl)
            have hX : TalC w X kB pB mb D L pv := hI.st
            have HX := qhid hX
            clear hI hall hX hcl
            unfold Reg.Yields
            go_simp
            first | rfl | exact ⟨rfl, HX.out⟩ | (refine ⟨?_, HX.out⟩; simp [tk10]; done)
          refine ⟨fun listed A X hI hcl hin hun hall => .inl ⟨Reg.wanted_none rfl, ?_⟩, ?_⟩
          · have e39 : A.tmps[39]? = some (.tuple #[.int .i64 b, .bool hb]) := hI.ev (i := 6) (d := 39) (by rfl) (hall ⟨6, .data⟩ (by simp) rfl)
            have hX : TalC w X kB pB mb D L pv := hI.st
            have HX := qhid hX
            clear hI hall hX hcl
            unfold Reg.Yields
            go_simp
            first | rfl | exact ⟨rfl, HX.out⟩ | (refine ⟨?_, HX.out⟩; simp [tk10]; done)
          refine ⟨fun listed A X hI hcl hin hun hall => .inl ⟨Reg.wanted_none rfl, ?_⟩, ?_⟩
          · have e46 : A.tmps[46]? = some (.int .i64 b) := hI.ev (i := 7) (d := 46) (by rfl) (hall ⟨7, .data⟩ (by simp) rfl)
            have hX : TalC w X kB pB mb D L pv := hI.st
            have HX := qhid hX
            clear hI hall hX hcl
            unfold Reg.Yields
            go_simp
            first | rfl | exact ⟨rfl, HX.out⟩ | (refine ⟨?_, HX.out⟩; simp [tk10]; done)
          refine ⟨fun listed A X hI hcl hin hun hall => .inl ⟨Reg.wanted_none rfl, ?_⟩, ?_⟩
          · have e47 : A.tmps[47]? = some (.bool hb) := hI.ev (i := 8) (d := 47) (by rfl) (hall ⟨8, .data⟩ (by simp) rfl)
            have hX : TalC w X kB pB mb D L pv := hI.st
            have HX := qhid hX
            clear hI hall hX hcl
            unfold Reg.Yields
            go_simp
            first | rfl | exact ⟨rfl, HX.out⟩ | (refine ⟨?_, HX.out⟩; simp [tk10]; done)
          trivial
        · intro X hS
          have HX := qhid hS
          clear hS
          simp [Reg.finalTmps, Reg.dstAt, Reg.valOf, tk10]
          have ha1 : ((a : Int) == -1) = false := by have := HAA.out; simp; omega
          have hb1 : ((b : Int) == -1) = false := by have := HBB.out; simp; omega
          cases ha with
          | false =>
            obtain ⟨y', hy', hyc', rfl⟩ := HNa.out rfl
            obtain rfl : some ⟨y'.q, 0, none⟩ = va := by injection HVa.out
            have HE := qhid (tal_enter w X kB pB mb y'.q D L pv HX.out ((isK_of hy'.co).below HX.out.be (Nat.le_refl _)) (fun p hp => (HI.out.ks p hp).below HX.out.be (Nat.le_refl _)) (by rw [HLL.out]; omega))
            have HIe := qhid (HI.out.enter hy' (by rw [hyc']; exact HSa.out) (by rw [HGa.out]))
            have hm4 := meas_enter D P ⟨q, k, s, z, ca, cb, some y'.q, pb⟩ y' (HPa.out y' hyc' rfl) (by rw [HGa.out])
            have hb := (HX.out.be.block _ (Reg.size_of_get HQ.out)).trans HQ.out
            have y3 := Joins.cell_of_block hb 6
            have hyl := Reg.size_of_get hb
            have hkb := HX.out.kb.cell
            simp only [List.getElem?_toArray, List.getElem?_cons_zero, List.getElem?_cons_succ] at y3
            have HGF := qhid (HGa2.out y' hyc')
            clear hb hyc'
            go_wp2_with fail
            refine HE.out.mono ?_
            rintro e w4 ⟨rfl, pv4, h4⟩
            have H4 := qhid h4
            clear h4
            go_wp2_with fail
            go_roundg (meas (kputD D (some y'.q) (-1)) (P ++ [⟨q, k, s, z, ca, cb, some y'.q, pb⟩] ++ [y']))
            case rel => exact ⟨_, _, pv4, Nat.le_refl _, by omega, HIe, HGF, by rw [List.map_append, List.map_append]; rw [HL.out] at H4; exact H4⟩
            case measure => omega
          | true =>
            cases hb with
            | false =>
              obtain ⟨y', hy', hyc', rfl⟩ := HNb.out rfl
              obtain rfl : some ⟨y'.q, 0, none⟩ = vb := by injection HVb.out
              have HE := qhid (tal_enter w X kB pB mb y'.q D L pv HX.out ((isK_of hy'.co).below HX.out.be (Nat.le_refl _)) (fun p hp => (HI.out.ks p hp).below HX.out.be (Nat.le_refl _)) (by rw [HLL.out]; omega))
              have HIe := qhid (HI.out.enter hy' (by rw [hyc']; exact HSb.out) (by rw [HGb.out]))
              have hm4 := meas_enter D P ⟨q, k, s, z, ca, cb, pa, some y'.q⟩ y' (HPb.out y' hyc' rfl) (by rw [HGb.out])
              have hb := (HX.out.be.block _ (Reg.size_of_get HQ.out)).trans HQ.out
              have y3 := Joins.cell_of_block hb 7
              have hyl := Reg.size_of_get hb
              have hkb := HX.out.kb.cell
              simp only [List.getElem?_toArray, List.getElem?_cons_zero, List.getElem?_cons_succ] at y3
              have HGF := qhid (HGb2.out y' hyc')
              clear hb hyc'
              go_wp2_with fail
              refine HE.out.mono ?_
              rintro e w4 ⟨rfl, pv4, h4⟩
              have H4 := qhid h4
              clear h4
              go_wp2_with fail
              go_roundg (meas (kputD D (some y'.q) (-1)) (P ++ [⟨q, k, s, z, ca, cb, pa, some y'.q⟩] ++ [y']))
              case rel => exact ⟨_, _, pv4, Nat.le_refl _, by omega, HIe, HGF, by rw [List.map_append, List.map_append]; rw [HL.out] at H4; exact H4⟩
              case measure => omega
            | true =>
              have HIT := HIX.out rfl rfl
              go_upto_region 11 with fail
              refine Reg.wp_region_C (tk11 mb q fn a b n) (Reg.GenC 7 (fun X => TalC w X kB pB mb D L pv) (fun X => TalC w X kB pB mb (kputD D (some q) n) L pv)) [0, 1, 2, 3, 4, 5, 6, 7] (by rfl) (by kernel_rfl) (by kernel_rfl) ?_ ?_ ?_
              · exact Reg.GenC.start _ _ (HX.out.up (Below.drew (Below.refl _ _)))
              · skip
                refine ⟨fun listed A X hI hcl hin hun hall => .inl ⟨Reg.wanted_none rfl, ?_⟩, ?_⟩
                · have e5 := hI.evo (d := 5) (by kernel_rfl) rfl
                  have HS := hI.st
                  have hX := HS.at hcl (i := 0) (by kernel_rfl) (by simpa using hun)
                  have f := hX.kb.cell
                  clear hI hall hcl
                  have HX := qhid hX
                  clear hX
                  unfold Reg.Yields
                  go_simp
                  first | rfl | exact ⟨rfl, HS.up (by decide)⟩ | (refine ⟨?_, HS.up (by decide)⟩; simp [tk11])
                refine ⟨fun listed A X hI hcl hin hun hall => .inl ⟨Reg.wanted_none rfl, ?_⟩, ?_⟩
                · have e8 := hI.evo (d := 8) (by kernel_rfl) rfl
                  have HS := hI.st
                  clear hI hall hcl
                  unfold Reg.Yields
                  go_simp
                  first | rfl | exact ⟨rfl, HS.up (by decide)⟩ | (refine ⟨?_, HS.up (by decide)⟩; simp [tk11])
                refine ⟨fun listed A X hI hcl hin hun hall => .inl ⟨Reg.wanted_none rfl, ?_⟩, ?_⟩
                · have e1 := hI.evo (d := 1) (by kernel_rfl) rfl
                  have HS := hI.st
                  clear hI hall hcl
                  unfold Reg.Yields
                  go_simp
                  first | rfl | exact ⟨rfl, HS.up (by decide)⟩ | (refine ⟨?_, HS.up (by decide)⟩; simp [tk11])
                refine ⟨fun listed A X hI hcl hin hun hall => .inl ⟨Reg.wanted_none rfl, ?_⟩, ?_⟩
                · have e8 := hI.evo (d := 8) (by kernel_rfl) rfl
                  have HS := hI.st
                  clear hI hall hcl
                  unfold Reg.Yields
                  go_simp
                  first | rfl | exact ⟨rfl, HS.up (by decide)⟩ | (refine ⟨?_, HS.up (by decide)⟩; simp [tk11])
                refine ⟨fun listed A X hI hcl hin hun hall => .inl ⟨Reg.wanted_none rfl, ?_⟩, ?_⟩
                · have e9 := hI.evo (d := 9) (by kernel_rfl) rfl
                  have HS := hI.st
                  clear hI hall hcl
                  unfold Reg.Yields
                  go_simp
                  first | rfl | exact ⟨rfl, HS.up (by decide)⟩ | (refine ⟨?_, HS.up (by decide)⟩; simp [tk11])
                refine ⟨fun listed A X hI hcl hin hun hall => .inl ⟨Reg.wanted_none rfl, ?_⟩, ?_⟩
                · have e11 := hI.evo (d := 11) (by kernel_rfl) rfl
                  have HS := hI.st
                  clear hI hall hcl
                  unfold Reg.Yields
                  go_simp
                  first | rfl | exact ⟨rfl, HS.up (by decide)⟩ | (refine ⟨?_, HS.up (by decide)⟩; simp [tk11])
                refine ⟨fun listed A X hI hcl hin hun hall => .inl ⟨Reg.wanted_none rfl, ?_⟩, ?_⟩
                · have e50 : A.tmps[50]? = some (.func (.func fn) #[] #[]) := hI.ev (i := 2) (d := 50) (by rfl) (hall ⟨2, .data⟩ (by simp) rfl)
                  have e51 : A.tmps[51]? = some (.pointer (some ⟨q, 0, none⟩)) := hI.ev (i := 3) (d := 51) (by rfl) (hall ⟨3, .data⟩ (by simp) rfl)
                  have e52 : A.tmps[52]? = some (.int .i64 a) := hI.ev (i := 4) (d := 52) (by rfl) (hall ⟨4, .data⟩ (by simp) rfl)
                  have e53 : A.tmps[53]? = some (.int .i64 b) := hI.ev (i := 5) (d := 53) (by rfl) (hall ⟨5, .data⟩ (by simp) rfl)
                  have HS := hI.st
                  have hX := HS.at hcl (i := 6) (by kernel_rfl) (by simpa using hun)
                  clear hI hall
                  have HX := qhid hX
                  clear hX
                  unfold Reg.Yields
                  go_simp
                  exact (HNK.out X HX.out).mono fun e w2 h => ⟨_, h.1, rfl, HS.step hcl (by kernel_rfl) (by simpa using hun) (by decide) (HX.out.up h.2)⟩
                refine ⟨fun listed A X hI hcl hin hun hall => .inl ⟨Reg.wanted_none rfl, ?_⟩, ?_⟩
                · have e48 : A.tmps[48]? = some (.map (some mb)) := hI.ev (i := 0) (d := 48) (by rfl) (hall ⟨0, .data⟩ (by simp) rfl)
                  have e49 : A.tmps[49]? = some (.pointer (some ⟨q, 0, none⟩)) := hI.ev (i := 1) (d := 49) (by rfl) (hall ⟨1, .data⟩ (by simp) rfl)
                  have e54 : A.tmps[54]? = some (.int .i64 n) := hI.ev (i := 6) (d := 54) (by rfl) (hall ⟨6, .data⟩ (by simp) rfl)
                  have HS := hI.st
                  have hX := HS.ahead (by simpa using hun)
                  obtain ⟨X2, hup, hm2, hg2⟩ := kupdate_ptr n hX.mp (HKQ.out X hX) (HKD.out X hX)
                  have hup : (Instr.mapUpdate 79 (.map (some mb)) (.pointer (some ⟨q, 0, none⟩)) (.int .i64 n)).run Tryz.prog X = .ok () X2 := hup
                  have HC2 := qhid (hX.map hg2 hm2)
                  clear hI hall hcl
                  have HX := qhid hX
                  clear hX
                  unfold Reg.Yields
                  go_simp
                  exact ⟨rfl, Reg.GenC.put hin HC2.out⟩
                trivial
              · intro X hS
                have hR := hS.done (by rfl)
                clear hS
                simp [Reg.finalTmps, Reg.dstAt, Reg.valOf, tk11]
                have HR := qhid hR
                clear hR
                have hpop := HR.out
                rw [HL.out] at hpop
                obtain ⟨g', cap', e', hcap', _, hgl', hpop⟩ := hpop.pop
                rw [HPV.out] at e'
                injection e' with e1 _ e2
                injection e1 with e1
                injection e1 with e1
                subst e1
                subst e2
                have HPO := qhid hpop
                have hcap2 : ln + 1 ≤ cap := by rw [HLN.out]; exact hcap'
                have hpb := HR.out.pb.cell
                have hpf := HR.out.pb.frozen
                rw [HPV.out, ← HLN.out] at hpb
                clear hpop hcap' HR
                rw [← HLN.out] at HPO
                go_wp2_with fail
                go_roundg (meas (kputD D (some q) n) P)
                case rel => exact ⟨_, P, _, Nat.le_refl _, by omega, HIT, HGP, HPO⟩
                case measure => omega
end
end Go.Proofs.YtfjepjkbflcjbaaGreatDoor
