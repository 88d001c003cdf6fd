/- Contracts of quote's reader: the two digits of a hidden byte. -/
import Derived.Test.YtglbhmhkeegpdaaDoorReadC
namespace Go.Proofs.YtglbhmhkeegpdaaDoor
open Go Go.RowKit
attribute [local go_sem ↓] Go.wp_at_zero Go.wp_at_succ
theorem hiddenI (x : Int) (b : Nat) (h : x = b) (w : World) :
    Calls Tryd.prog 47 #[.int .u8 x] w fun e w' => e = .returned (.bool (hidd b)) ∧ w = w' := by
  subst h; exact hidden_any b w
theorem or15 (v : Nat) (h : v < 16) : bits BinOp.or IntKind.u8 ((v : Int) * 16) 15 = ((16 * v + 15 : Nat) : Int) := by
  have hall : ∀ n : Fin 16, bits BinOp.or IntKind.u8 (((n.val : Nat) : Int) * 16) 15 = ((16 * n.val + 15 : Nat) : Int) := by decide +kernel
  exact hall ⟨v, h⟩
theorem or_low (h v : Nat) (hh : h < 16) (hv : v < 16) : bits BinOp.or IntKind.u8 ((h : Int) * 16) (v : Int) = ((16 * h + v : Nat) : Int) := by
  have hall : ∀ m n : Fin 16, bits BinOp.or IntKind.u8 (((m.val : Nat) : Int) * 16) ((n.val : Nat) : Int) = ((16 * m.val + n.val : Nat) : Int) := by decide +kernel
  exact hall ⟨h, hh⟩ ⟨v, hv⟩
theorem pair1_any (v : Nat) (hv : v < 16) (w : World) :
    Calls Tryd.prog 92 #[.int .u8 (v : Int)] w fun e w' => e = .returned (.bool (highOk v)) ∧ w' = w := by
  have ho := qhid (or15 v hv)
  unfold highOk
  cases h1 : hidd (16 * v) with
  | true =>
    go_enter Tryd.func92, Tryd.ntmps92
    go_wp2_with fail
    refine (hiddenI _ (16 * v) (by omega) _).mono ?_
    rintro e w1 ⟨rfl, rfl⟩
    go_wp2_with fail
    go_ret
    exact ⟨rfl, rfl⟩
  | false =>
    go_enter Tryd.func92, Tryd.ntmps92
    go_wp2_with fail
    refine (hiddenI _ (16 * v) (by omega) _).mono ?_
    rintro e w1 ⟨rfl, rfl⟩
    go_wp2_with fail
    refine (hiddenI _ (16 * v + 15) ho.out _).mono ?_
    rintro e w1 ⟨rfl, rfl⟩
    go_wp2_with fail
    go_ret
    exact ⟨rfl, rfl⟩
theorem pair2_any (h v : Nat) (hh : h < 16) (hv : v < 16) (c : Addr) (w : World) (hc : w.cell? c = some (.int .u8 (h : Int))) :
    Calls Tryd.prog 93 #[.int .u8 (v : Int), .pointer (some c)] w fun e w' => e = .returned (.bool (hidd (16 * h + v))) ∧ w' = w := by
  have ho := qhid (or_low h v hh hv)
  go_enter Tryd.func93, Tryd.ntmps93
  go_wp2_with fail
  refine (hiddenI _ (16 * h + v) ho.out _).mono ?_
  rintro e w1 ⟨rfl, rfl⟩
  go_wp2_with fail
  go_ret
  exact ⟨rfl, rfl⟩
theorem cf_pair1 (args : Array Value) (W : World) : (callFunc 92 args).run Tryd.prog W = .ok (.enter 92 args) W := by
  simp [callFunc, Tryd.func92, mark, Sem.run]; rfl
theorem cf_pair2 (args : Array Value) (W : World) : (callFunc 93 args).run Tryd.prog W = .ok (.enter 93 args) W := by
  simp [callFunc, Tryd.func93, mark, Sem.run]; rfl
/-- What a call that takes what tells a byte answers, and leaves. -/
def Took (w : World) (g : Nat) (s : ByteArray) (o : Option Nat × Nat) (e : Ending) (w' : World) : Prop :=
  (match o.1 with
  | none => e = .returned (.tuple #[.int .u8 0, .bool false])
  | some v => e = .returned (.tuple #[.int .u8 (v : Int), .bool true])) ∧ Rd w w' g s o.2
theorem cell_old {W : World} {g a o : Nat} {W' : World} (h : W.grownBy W' (some g)) (ha : a < W.heap.size) (hne : a ≠ g) : W'.cell? ⟨a, o, none⟩ = W.cell? ⟨a, o, none⟩ :=
  World.cell?_of_block (h.block a ha (fun e => hne (by injection e)))
theorem dg_lt {m : Nat → Bool} {o : Option Nat} {v : Nat} (h : dg m o = some v) : v < 16 := by
  obtain ⟨c, _, h2, _⟩ := dg_some h
  exact (hx_some h2).2
set_option maxHeartbeats 2000000 in
theorem pair_any (g : Nat) (s : ByteArray) (hs : s.size ≤ 1099511627776) (k : Nat) (w : World) (h : RdAt w g s k) (hk : k ≤ s.size) :
    Calls Tryd.prog 77 #[.pointer (some ⟨g, 0, none⟩)] w (Took w g s (pairF (nums s) k)) := by
  have hD1 := digit_any g 92 s hs k #[] highOk w h hk cf_pair1 (fun n v hv => pair1_any v hv _)
  cases hd1 : dg highOk (nums s)[k]? with
  | none =>
    have e0 : pairF (nums s) k = (none, k) := by unfold pairF; rw [hd1]
    rw [e0]
    rw [hd1] at hD1
    clear e0
    have HD1 := qhid hD1
    clear hD1 hd1
    go_enter Tryd.func77, Tryd.ntmps77
    go_wp2_with fail
    refine HD1.out.mono ?_
    rintro e w1 ⟨rfl, hr⟩
    have HR := qhid hr
    clear hr
    go_wp2_with fail
    go_ret2
    exact ⟨rfl, rd_alloc HR.out.1 _, only_alloc HR.out.2 _⟩
  | some hi =>
    have hi16 := dg_lt hd1
    have hkl : k < s.size := by
      obtain ⟨c, hc, _⟩ := dg_some hd1
      obtain ⟨hk2, _⟩ := List.getElem?_eq_some_iff.1 hc
      rwa [nums_len] at hk2
    rw [hd1] at hD1
    have HD1 := qhid hD1
    clear hD1
    cases hd2 : dg (fun v => hidd (16 * hi + v)) (nums s)[k + 1]? with
    | none =>
      have e0 : pairF (nums s) k = (none, k + 1) := by unfold pairF; rw [hd1]; dsimp only; rw [hd2]
      rw [e0]
      clear e0 hd1
      have HD2 := qhid hd2
      clear hd2
      go_enter Tryd.func77, Tryd.ntmps77
      go_wp2_with fail
      refine HD1.out.mono ?_
      rintro e w1 ⟨rfl, hr⟩
      have HR := qhid hr
      clear hr
      go_wp2_with fail
      refine (digit_any g 93 s hs (k + 1) #[.pointer (some ⟨w1.heap.size, 0, none⟩)] (fun v => hidd (16 * hi + v)) (w1.alloc (.cells #[.int .u8 (hi : Int)] 5)) (rd_alloc HR.out.1 _) hkl cf_pair2 (fun n v hv => pair2_any hi v hi16 hv _ _ (by
        show ((w1.alloc _).alloc _).cell? _ = _
        rw [World.cell?_alloc_past _ _ _ (by simp)]; simp))).mono ?_
      rw [HD2.out]
      rintro e w2 ⟨rfl, hr2⟩
      have HR2 := qhid hr2
      clear hr2
      go_wp2_with fail
      go_ret2
      exact ⟨rfl, HR2.out.1, only_trans (only_alloc HR.out.2 _) HR2.out.2⟩
    | some v =>
      have e0 : pairF (nums s) k = (some (16 * hi + v), k + 2) := by unfold pairF; rw [hd1]; dsimp only; rw [hd2]
      rw [e0]
      clear e0 hd1
      have hv16 := dg_lt hd2
      have ho := qhid (or_low hi v hi16 hv16)
      have HD2 := qhid hd2
      clear hd2
      go_enter Tryd.func77, Tryd.ntmps77
      go_wp2_with fail
      refine HD1.out.mono ?_
      rintro e w1 ⟨rfl, hr⟩
      have HR := qhid hr
      clear hr
      have hgs : w1.heap.size ≠ g := fun e => by have := HR.out.1.lt; omega
      go_wp2_with fail
      refine (digit_any g 93 s hs (k + 1) #[.pointer (some ⟨w1.heap.size, 0, none⟩)] (fun v => hidd (16 * hi + v)) (w1.alloc (.cells #[.int .u8 (hi : Int)] 5)) (rd_alloc HR.out.1 _) hkl cf_pair2 (fun n v hv => pair2_any hi v hi16 hv _ _ (by
        show ((w1.alloc _).alloc _).cell? _ = _
        rw [World.cell?_alloc_past _ _ _ (by simp)]; simp))).mono ?_
      rw [HD2.out]
      rintro e w2 ⟨rfl, hr2⟩
      have hcell : w2.cell? ⟨w1.heap.size, 0, none⟩ = some (.int .u8 (hi : Int)) := by
        rw [cell_old hr2.2 (by simp) hgs]; simp
      have HR2 := qhid hr2
      clear hr2
      go_wp2_with fail
      go_ret2
      refine ⟨?_, HR2.out.1, only_trans (only_alloc HR.out.2 _) HR2.out.2⟩
      exact congrArg (fun x => Ending.returned (Value.tuple #[Value.int .u8 x, .bool true])) ho.out
end Go.Proofs.YtglbhmhkeegpdaaDoor
