/- core.Size told. core's frames, told: frameOf, long; how long a core's text is. How long a core's text is: Text's tally. -/
import Derived.Test.YtfjepjkbflcjbaaGreatDoorCoV
namespace Go.Proofs.YtfjepjkbflcjbaaGreatDoor
section
section
open Go Go.RowKit
attribute [local go_sem ↓] Go.wp_at_zero Go.wp_at_succ
attribute [local go_sem] eq4
theorem cf_csize1 (args : Array Value) (W : World) : (callFunc 23 args).run Tryz.prog W = .ok (.enter 23 args) W := by
  simp [callFunc, go_sem, Tryz.func23]
  rfl
set_option maxRecDepth 100000 in
set_option maxHeartbeats 4000000 in
theorem csize1_any (v : Value) (a b : Int) (w : World) (ha : a ≤ top) (hb : b ≤ top) (_ha0 : 0 ≤ a) (_hb0 : 0 ≤ b) :
    Calls Tryz.prog 23 #[v, .int .i64 a, .int .i64 b] w fun e w' => e = .returned (.int .i64 (adL [1, a, b])) ∧ Below w.heap.size w w' := by
  obtain ⟨w3, hw3⟩ : ∃ Y, Y = w.alloc (.cells #[.int .i64 1, .int .i64 a, .int .i64 b] 3) := ⟨_, rfl⟩
  have b3 : Below w.heap.size w w3 := by rw [hw3]; exact below1 _ _
  have K3 := qhid (add_cells w.heap.size 3 [1, a, b] w3 (by simp) (fun z hz => by
    simp only [List.mem_cons, List.not_mem_nil, or_false] at hz
    rcases hz with h | h | h
    · rw [h]; unfold top; omega
    · rw [h]; exact ha
    · rw [h]; exact hb) (by rw [hw3]; exact heap_new w _))
  have HB3 := qhid b3
  clear b3 ha hb
  go_enter Tryz.func23, Tryz.ntmps23
  go_wp2_with fail
  rw [← hw3]
  clear hw3
  refine K3.out.mono ?_
  rintro e wz ⟨rfl, hz⟩
  obtain rfl : w3 = wz := hz
  clear K3
  go_wp2_with fail
  go_ret
  exact ⟨rfl, HB3.out⟩
/-- How many nodes a core has, as the program reckons. -/
def sizeM : Co → Int := tallyM fun _ a b => adL [1, a, b]
theorem pl_eq {a b : Int} (ha : 0 ≤ a) (hb : 0 ≤ b) (h : a + b ≤ top) : pl a b = a + b := by
  have h1 : ∀ {x : Int}, 0 ≤ x → cnt x = x := fun {x} hx => by unfold cnt; split <;> omega
  unfold pl
  rw [h1 ha, h1 hb]
  unfold sat
  rw [if_pos h]
theorem adL_three {n a b : Int} (hn : 0 ≤ n) (ha : 0 ≤ a) (hb : 0 ≤ b) (h : n + a + b ≤ top) : adL [n, a, b] = n + a + b := by
  show pl (pl (pl 0 n) a) b = _
  have h0 : pl 0 n = n := by rw [pl_eq (by omega) hn (by omega)]; omega
  rw [h0, pl_eq hn ha (by omega), pl_eq (by omega) hb h]
theorem sizeM_eq : ∀ c : Co, (coSize c : Int) ≤ top → sizeM c = coSize c
  | .nil, _ => by unfold sizeM; rw [tallyM, coSize]; rfl
  | .node k s z a b, h => by
    rw [coSize] at h ⊢
    have e : ((1 + coSize a + coSize b : Nat) : Int) = 1 + coSize a + coSize b := by omega
    rw [e] at h ⊢
    have h1 := sizeM_eq a (by omega)
    have h2 := sizeM_eq b (by omega)
    unfold sizeM at h1 h2 ⊢
    rw [tallyM, h1, h2, adL_three (by omega) (by omega) (by omega) (by omega)]
set_option maxRecDepth 100000 in
set_option maxHeartbeats 4000000 in
theorem csize_any (c : Co) (v : Value) (w : World) (hc : CoAt w c v) (hz : 2 * coSize c ≤ 1000000000) :
    Calls Tryz.prog 9 #[v] w fun e w' => e = .returned (.int .i64 (coSize c)) ∧ Below w.heap.size w w' := by
  have key : Calls Tryz.prog 15 #[v, .func (.func 23) #[] #[]] w fun e w' => e = .returned (.int .i64 (coSize c)) ∧ Below w.heap.size w w' := by
    rcases hc.nil_iff with ⟨rfl, rfl⟩ | ⟨hn, q, rfl⟩
    · go_enter Tryz.func15, Tryz.ntmps15
      go_wp2_with fail
      go_ret
      exact ⟨rfl, Below.refl _ _⟩
    · have := ctally_any (fun _ => True) (fun _ _ _ _ _ _ => ⟨trivial, trivial⟩) (fun _ a b => adL [1, a, b]) 23 c q w (fun _ a b => ⟨adL_nn _, adL_le _ _ _⟩) cf_csize1 (fun c q a b X _ _ _ ha hb => csize1_any _ a b X ha.2 hb.2 ha.1 hb.1) hc trivial hz
      rw [show tallyM (fun _ a b => adL [1, a, b]) c = _ from sizeM_eq c (by unfold top; omega)] at this
      exact this
  have HK := qhid key
  clear key hc
  go_enter Tryz.func9, Tryz.ntmps9
  go_wp2_with fail
  refine HK.out.mono ?_
  rintro e w2 ⟨rfl, hb⟩
  have HB := qhid hb
  clear hb
  go_wp2_with fail
  go_ret
  exact ⟨rfl, HB.out⟩
end
end
section
section
open Go Go.RowKit
attribute [local go_sem ↓] Go.wp_at_zero Go.wp_at_succ
attribute [local go_sem] eq4
/-- What is told ahead of a node's two, between them, and behind. -/
def frL (k : Int) (s : W4) (z : Bool) : List Nat × List Nat × List Nat :=
  if k = 1 then (setN s, [], []) else if k = 2 then ([40], [], [41]) else if k = 3 then ([40], [124], [41]) else if k = 4 then ([123], [], if z then [125, 63] else [125]) else ([40, 41], [], [])
def frV (k : Int) (s : W4) (z : Bool) : Value := .agg #[.string (baN (frL k s z).1), .string (baN (frL k s z).2.1), .string (baN (frL k s z).2.2)]
/-- How long they are. -/
def frN (k : Int) (s : W4) (z : Bool) : Int := (frL k s z).1.length + (frL k s z).2.1.length + (frL k s z).2.2.length
set_option maxRecDepth 100000 in
set_option maxHeartbeats 4000000 in
theorem cframe_any (k : Int) (s : W4) (z : Bool) (va vb : Value) (q : Nat) (w : World) (hq : w.heap[q]? = some (coOb k s z va vb)) (hs : s.fit) (hT : Tab w) :
    Calls Tryz.prog 18 #[.pointer (some ⟨q, 0, none⟩)] w fun e w' => e = .returned (frV k s z) ∧ Below w.heap.size w w' := by
  have x0 := Joins.cell_of_block hq 0
  have hql := Reg.size_of_get hq
  have x1 := Joins.cell_of_block hq 1
  have x2 := Joins.cell_of_block hq 2
  have x3 := Joins.cell_of_block hq 3
  have x4 := Joins.cell_of_block hq 4
  have x5 := Joins.cell_of_block hq 5
  simp only [List.getElem?_toArray, List.getElem?_cons_zero, List.getElem?_cons_succ] at x0 x1 x2 x3 x4 x5
  have HB := fun (o : Obj) => below1 w o
  have HB := qhid HB
  by_cases k1 : k = 1
  · subst k1
    have HS := qhid (fun X (hX : Below w.heap.size w X) => set_any s hs X (hT.below hX hT.lt))
    have e1 : frV 1 s z = .agg #[.string (baN (setN s)), .string ⟨#[]⟩, .string ⟨#[]⟩] := rfl
    have HE := qhid e1
    obtain ⟨w1, hw1⟩ : ∃ X, X = w.alloc (.cells #[.string ⟨#[]⟩, .string ⟨#[]⟩, .string ⟨#[]⟩] 53) := ⟨_, rfl⟩
    have b1 : Below w.heap.size w w1 := by rw [hw1]; exact below1 _ _
    have HS1 := qhid (HS.out w1 b1)
    have HB1 := qhid b1
    obtain ⟨rb, hrb⟩ : ∃ b, b = w.heap.size := ⟨_, rfl⟩
    have HRB := qhid hrb
    have hr : w1.heap[rb]? = some (.cells #[.string ⟨#[]⟩, .string ⟨#[]⟩, .string ⟨#[]⟩] 53) := by rw [hw1, hrb]; exact heap_new w _
    have HR := qhid hr
    obtain ⟨nm, hnm⟩ : ∃ n, n = baN (setN s) := ⟨_, rfl⟩
    rw [← hnm] at HS1 HE
    have HW1 := qhid hw1
    clear hw1 b1 hrb hr e1 hnm hq hT hs HS
    go_enter Tryz.func18, Tryz.ntmps18
    go_wp2_with fail
    rw [← HRB.out, ← HW1.out]
    refine HS1.out.mono ?_
    rintro e w2 ⟨rfl, hb2⟩
    have hr2 : w2.heap[rb]? = some (.cells #[.string ⟨#[]⟩, .string ⟨#[]⟩, .string ⟨#[]⟩] 53) := below_kept hb2 HR.out
    have hrl := Reg.size_of_get hr2
    have c0 := Joins.cell_of_block hr2 0
    have c1 := Joins.cell_of_block hr2 1
    have c2 := Joins.cell_of_block hr2 2
    have HB2 := qhid (HB1.out.trans (hb2.mono HB1.out.size))
    simp only [List.getElem?_toArray, List.getElem?_cons_zero, List.getElem?_cons_succ] at c0 c1 c2
    have z0 : w2.frozen? ⟨rb, 0, none⟩ = false := by simp [World.frozen?, hr2]
    have z1 : w2.frozen? ⟨rb, 1, none⟩ = false := by simp [World.frozen?, hr2]
    have z2 : w2.frozen? ⟨rb, 2, none⟩ = false := by simp [World.frozen?, hr2]
    have HRL : Hid (w.heap.size ≤ rb) := qhid (by rw [HRB.out]; exact Nat.le_refl _)
    clear hb2 hr2 x0 x1 x2 x3 x4 x5 HS1
    go_wp2_with fail
    refine bodyPost_ret (v := .agg #[.string nm, .string ⟨#[]⟩, .string ⟨#[]⟩]) (by simp [results, Tryz.results18, go_sem, c0, c1, c2]) rfl ⟨by rw [HE.out], ?_⟩
    exact ((HB2.out.setCell (p := ⟨rb, 0, none⟩) HRL.out _).setCell (p := ⟨rb, 1, none⟩) HRL.out _).setCell (p := ⟨rb, 2, none⟩) HRL.out _
  by_cases k2 : k = 2
  · subst k2
    have HE : Hid (frV 2 s z = .agg #[.string ⟨#[40]⟩, .string ⟨#[]⟩, .string ⟨#[41]⟩]) := qhid rfl
    clear hq hT hs k1
    go_enter Tryz.func18, Tryz.ntmps18
    go_wp2_with fail
    refine bodyPost_ret (v := .agg #[.string ⟨#[40]⟩, .string ⟨#[]⟩, .string ⟨#[41]⟩]) (by simp [results, Tryz.results18, go_sem]) rfl ⟨by rw [HE.out], HB.out _⟩
  by_cases k3 : k = 3
  · subst k3
    have HE : Hid (frV 3 s z = .agg #[.string ⟨#[40]⟩, .string ⟨#[124]⟩, .string ⟨#[41]⟩]) := qhid rfl
    clear hq hT hs k1
    go_enter Tryz.func18, Tryz.ntmps18
    go_wp2_with fail
    refine bodyPost_ret (v := .agg #[.string ⟨#[40]⟩, .string ⟨#[124]⟩, .string ⟨#[41]⟩]) (by simp [results, Tryz.results18, go_sem]) rfl ⟨by rw [HE.out], HB.out _⟩
  by_cases k4 : k = 4
  · subst k4
    cases z with
    | true =>
      have HE : Hid (frV 4 s true = .agg #[.string ⟨#[123]⟩, .string ⟨#[]⟩, .string ⟨#[125, 63]⟩]) := qhid rfl
      clear hq hT hs k1 k2 k3
      go_enter Tryz.func18, Tryz.ntmps18
      go_wp2_with fail
      refine bodyPost_ret (v := .agg #[.string ⟨#[123]⟩, .string ⟨#[]⟩, .string ⟨#[125, 63]⟩]) (by simp [results, Tryz.results18, go_sem]) rfl ⟨by rw [HE.out], HB.out _⟩
    | false =>
      have HE : Hid (frV 4 s false = .agg #[.string ⟨#[123]⟩, .string ⟨#[]⟩, .string ⟨#[125]⟩]) := qhid rfl
      clear hq hT hs k1 k2 k3
      go_enter Tryz.func18, Tryz.ntmps18
      go_wp2_with fail
      refine bodyPost_ret (v := .agg #[.string ⟨#[123]⟩, .string ⟨#[]⟩, .string ⟨#[125]⟩]) (by simp [results, Tryz.results18, go_sem]) rfl ⟨by rw [HE.out], HB.out _⟩
  · have HE : Hid (frV k s z = .agg #[.string ⟨#[40, 41]⟩, .string ⟨#[]⟩, .string ⟨#[]⟩]) := qhid (by unfold frV frL; rw [if_neg k1, if_neg k2, if_neg k3, if_neg k4]; rfl)
    have e1 : ((k : Int) == 1) = false := by simpa using k1
    have e2 : ((k : Int) == 2) = false := by simpa using k2
    have e3 : ((k : Int) == 3) = false := by simpa using k3
    have e4 : ((k : Int) == 4) = false := by simpa using k4
    clear hq hT hs k1 k2 k3 k4
    go_enter Tryz.func18, Tryz.ntmps18
    go_wp2_with fail
    refine bodyPost_ret (v := .agg #[.string ⟨#[40, 41]⟩, .string ⟨#[]⟩, .string ⟨#[]⟩]) (by simp [results, Tryz.results18, go_sem]) rfl ⟨by rw [HE.out], HB.out _⟩
set_option maxRecDepth 100000 in
set_option maxHeartbeats 4000000 in
theorem clong_any (k : Int) (s : W4) (z : Bool) (w : World) (hl : (frL k s z).1.length ≤ 100000 ∧ (frL k s z).2.1.length ≤ 100000 ∧ (frL k s z).2.2.length ≤ 100000) :
    Calls Tryz.prog 19 #[frV k s z] w fun e w' => e = .returned (.int .i64 (frN k s z)) ∧ Below w.heap.size w w' := by
  obtain ⟨l1, l2, l3⟩ : (frL k s z).1.length ≤ 100000 ∧ (frL k s z).2.1.length ≤ 100000 ∧ (frL k s z).2.2.length ≤ 100000 := hl
  have e1 := baN_size (frL k s z).1
  have e2 := baN_size (frL k s z).2.1
  have e3 := baN_size (frL k s z).2.2
  obtain ⟨N, hN⟩ : ∃ N, N = frN k s z := ⟨_, rfl⟩
  rw [← hN]
  unfold frN at hN
  unfold frV
  generalize baN (frL k s z).1 = s1 at *
  generalize baN (frL k s z).2.1 = s2 at *
  generalize baN (frL k s z).2.2 = s3 at *
  generalize (frL k s z).1.length = n1 at *
  generalize (frL k s z).2.1.length = n2 at *
  generalize (frL k s z).2.2.length = n3 at *
  have HB := qhid (fun (o : Obj) => below1 w o)
  have HN : Hid (N = ((s1.size : Int) + s2.size) + s3.size) := qhid (by omega)
  clear hN
  go_enter Tryz.func19, Tryz.ntmps19
  go_wp2_with fail
  go_ret
  exact ⟨by rw [HN.out, e1, e2, e3]; rfl, HB.out _⟩
end
end
section
section
open Go Go.RowKit
attribute [local go_sem ↓] Go.wp_at_zero Go.wp_at_succ
attribute [local go_sem] eq4
/-- A core, told. -/
def coN : Co → List Nat
  | .nil => []
  | .node k s z a b => (frL k s z).1 ++ (coN a ++ ((frL k s z).2.1 ++ (coN b ++ (frL k s z).2.2)))
def CoFit : Co → Prop
  | .nil => True
  | .node _ s _ a b => s.fit ∧ CoFit a ∧ CoFit b
def txNum (c : Co) (x y : Int) : Int := match c with
  | .nil => 0
  | .node k s z _ _ => adL [frN k s z, x, y]
theorem txNum_bd (c : Co) (x y : Int) : 0 ≤ txNum c x y ∧ txNum c x y ≤ top := by
  cases c with
  | nil => exact ⟨by show (0 : Int) ≤ 0; omega, by show (0 : Int) ≤ top; unfold top; omega⟩
  | node k s z a b => exact ⟨adL_nn _, adL_le _ _ _⟩
theorem frN_nn (k : Int) (s : W4) (z : Bool) : 0 ≤ frN k s z := by unfold frN; omega
theorem setN_pos (s : W4) : 0 < (setN s).length := by
  unfold setN
  split
  · simp
  · split
    · simp
    · exact br_len _
    · unfold clsN; simp
theorem frN_pos (k : Int) (s : W4) (z : Bool) : 0 < frN k s z := by
  unfold frN frL
  split
  · have := setN_pos s
    simp; omega
  · split
    · simp
    · split
      · simp
      · split
        · cases z <;> simp
        · simp
theorem text_eq : ∀ c : Co, ((coN c).length : Int) ≤ top → tallyM txNum c = (coN c).length
  | .nil, _ => rfl
  | .node k s z a b, h => by
    have e : ((coN (.node k s z a b)).length : Int) = frN k s z + (coN a).length + (coN b).length := by
      rw [coN]
      unfold frN
      simp only [List.length_append]
      omega
    rw [e] at h ⊢
    have h0 := frN_nn k s z
    have h1 := text_eq a (by omega)
    have h2 := text_eq b (by omega)
    rw [tallyM, h1, h2]
    exact adL_three h0 (by omega) (by omega) h
theorem cf_text1 (args : Array Value) (W : World) : (callFunc 16 args).run Tryz.prog W = .ok (.enter 16 args) W := by
  simp [callFunc, go_sem, Tryz.func16]
  rfl
theorem frL_len (k : Int) (s : W4) (z : Bool) (_hs : s.fit) : (frL k s z).1.length ≤ 100000 ∧ (frL k s z).2.1.length ≤ 100000 ∧ (frL k s z).2.2.length ≤ 100000 := by
  unfold frL
  have := setN_len s
  split
  · exact ⟨by show (setN s).length ≤ 100000; omega, by simp, by simp⟩
  · split
    · simp
    · split
      · simp
      · split
        · cases z <;> simp
        · simp
set_option maxRecDepth 100000 in
set_option maxHeartbeats 4000000 in
theorem ctext1_any (c : Co) (q : Nat) (a b : Int) (w : World) (hc : CoAt w c (.pointer (some ⟨q, 0, none⟩))) (hF : CoFit c) (hT : Tab w) (ha : 0 ≤ a ∧ a ≤ top) (hb : 0 ≤ b ∧ b ≤ top) :
    Calls Tryz.prog 16 #[.pointer (some ⟨q, 0, none⟩), .int .i64 a, .int .i64 b] w fun e w' => e = .returned (.int .i64 (txNum c a b)) ∧ Below w.heap.size w w' := by
  cases hc with
  | node k s z ca cb q va vb hq hca hcb =>
    have HFR := qhid (cframe_any k s z va vb q w hq hF.1 hT)
    have HLO := qhid (fun X => clong_any k s z X (frL_len k s z hF.1))
    have HLE : Hid (frN k s z ≤ top) := qhid (by have := frL_len k s z hF.1; unfold frN top; omega)
    have HAB := qhid (And.intro ha.2 hb.2)
    show Calls _ _ _ _ fun e w' => e = .returned (.int .i64 (adL [frN k s z, a, b])) ∧ _
    generalize frV k s z = FV at *
    generalize frN k s z = fn at *
    clear hq hca hcb hF hT ha hb
    go_enter Tryz.func16, Tryz.ntmps16
    go_wp2_with fail
    refine HFR.out.mono ?_
    rintro e w2 ⟨rfl, hb2⟩
    have HB2 := qhid hb2
    clear hb2 HFR
    go_wp2_with fail
    refine (HLO.out w2).mono ?_
    rintro e w3 ⟨rfl, hb3⟩
    have HB3 := qhid (HB2.out.trans (hb3.mono HB2.out.size))
    clear hb3 HLO HB2
    obtain ⟨w4, hw4⟩ : ∃ Y, Y = w3.alloc (.cells #[.int .i64 fn, .int .i64 a, .int .i64 b] 3) := ⟨_, rfl⟩
    have b4 : Below w3.heap.size w3 w4 := by rw [hw4]; exact below1 _ _
    have K4 := qhid (add_cells w3.heap.size 3 [fn, a, b] w4 (by simp) (fun z hz => by
      simp only [List.mem_cons, List.not_mem_nil, or_false] at hz
      rcases hz with h | h | h
      · rw [h]; exact HLE.out
      · rw [h]; exact HAB.out.1
      · rw [h]; exact HAB.out.2) (by rw [hw4]; exact heap_new w3 _))
    have HB4 := qhid (HB3.out.trans (b4.mono HB3.out.size))
    clear b4
    go_wp2_with fail
    rw [← hw4]
    clear hw4
    refine K4.out.mono ?_
    rintro e wz ⟨rfl, hz⟩
    obtain rfl : w4 = wz := hz
    clear K4
    go_wp2_with fail
    go_ret
    exact ⟨rfl, HB4.out⟩
/-- How long a core's text is, as Text reckons. -/
theorem clen_any (c : Co) (v : Value) (w : World) (hc : CoAt w c v) (hF : CoFit c) (hT : Tab w) (hz : 2 * coSize c ≤ 1000000000) (hl : ((coN c).length : Int) ≤ top) :
    Calls Tryz.prog 15 #[v, .func (.func 16) #[] #[]] w fun e w' => e = .returned (.int .i64 ((coN c).length : Int)) ∧ Below w.heap.size w w' := by
  rcases hc.nil_iff with ⟨rfl, rfl⟩ | ⟨hn, q, rfl⟩
  · go_enter Tryz.func15, Tryz.ntmps15
    go_wp2_with fail
    go_ret
    exact ⟨rfl, Below.refl _ _⟩
  · have := ctally_any CoFit (fun k s z a b h => h.2) txNum 16 c q w txNum_bd cf_text1 (fun c q a b X hX h1 h2 ha hb => ctext1_any c q a b X (h2.up hX) h1 (hT.below hX hT.lt) ha hb) hc hF hz
    rw [text_eq c hl] at this
    exact this
end
end
end Go.Proofs.YtfjepjkbflcjbaaGreatDoor
