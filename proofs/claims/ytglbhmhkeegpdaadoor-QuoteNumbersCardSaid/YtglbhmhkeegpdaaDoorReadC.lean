/- Contracts of quote's reader: a digit, if its value may stand there. -/
import Derived.Test.YtglbhmhkeegpdaaDoorReadB
namespace Go.Proofs.YtglbhmhkeegpdaaDoor
open Go Go.RowKit
attribute [local go_sem ↓] Go.wp_at_zero Go.wp_at_succ
theorem hxI_none {b : Nat} (h : hx b = none) : hxI b = -1 := by unfold hxI; rw [h]
theorem hxI_some {b v : Nat} (h : hx b = some v) : hxI b = v := by unfold hxI; rw [h]
set_option maxHeartbeats 1000000 in
theorem dig1_any (F b : Nat) (hb : b < 256) (caps : Array Value) (m : Nat → Bool) (c : Addr) (w : World) (hc : w.cell? c = some (.func (.func F) #[] caps))
    (hcf : ∀ args W, (callFunc F args).run Tryd.prog W = .ok (.enter F args) W)
    (hF : ∀ v : Nat, v < 16 → Calls Tryd.prog F (#[.int .u8 (v : Int)] ++ caps) w fun e w' => e = .returned (.bool (m v)) ∧ w' = w) :
    Calls Tryd.prog 106 #[.int .u8 (b : Int), .pointer (some c)] w fun e w' => e = .returned (.bool (dg m (some b)).isSome) ∧ w' = w := by
  have HF := qhid hF
  clear hF
  cases hv : hx b with
  | none =>
    have e1 : (dg m (some b)).isSome = false := by unfold dg; rw [Option.bind_some, hv]; rfl
    rw [e1]
    have e2 := hxI_none hv
    have HI := idx_any b hb w
    rw [e2] at HI
    have HI := qhid HI
    clear hv e1 e2
    go_enter Tryd.func106, Tryd.ntmps106
    go_wp2_with fail
    refine HI.out.mono ?_
    rintro e w1 ⟨rfl, rfl⟩
    go_wp2_with fail
    go_ret
    exact ⟨rfl, rfl⟩
  | some v =>
    have hv16 := (hx_some hv).2
    have e1 : (dg m (some b)).isSome = m v := by
      unfold dg; rw [Option.bind_some, hv]
      cases hm : m v <;> simp [Option.filter, hm]
    rw [e1]
    have e2 := hxI_some hv
    have HI := idx_any b hb w
    rw [e2] at HI
    have HI := qhid HI
    clear hv e1 e2
    have HC := HF.out v hv16
    have HC := qhid HC
    have hw : IntKind.u8.wrap (v : Int) = (v : Int) := by simp [IntKind.wrap, IntKind.signed, IntKind.bits]; omega
    go_enter Tryd.func106, Tryd.ntmps106
    go_wp2_with fail
    refine HI.out.mono ?_
    rintro e w1 ⟨rfl, rfl⟩
    go_wp2_with fail
    refine HC.out.mono ?_
    rintro e w1 ⟨rfl, rfl⟩
    go_wp2_with fail
    go_ret
    exact ⟨rfl, rfl⟩
theorem cf_digit1 (args : Array Value) (W : World) : (callFunc 106 args).run Tryd.prog W = .ok (.enter 106 args) W := by
  simp [callFunc, Tryd.func106, mark, Sem.run]; rfl
/-- What the call of digit answers, and leaves. -/
def Digit (w : World) (g : Nat) (s : ByteArray) (k : Nat) (o : Option Nat) (e : Ending) (w' : World) : Prop :=
  match o with
  | none => e = .returned (.tuple #[.int .u8 0, .bool false]) ∧ Rd w w' g s k
  | some v => e = .returned (.tuple #[.int .u8 (v : Int), .bool true]) ∧ Rd w w' g s (k + 1)
theorem rd_alloc {w : World} {g : Nat} {s : ByteArray} {k : Nat} (h : RdAt w g s k) (o : Obj) : RdAt (w.alloc o) g s k :=
  ⟨by rw [World.cell?_alloc_past _ _ _ h.lt]; exact h.c0, by rw [World.cell?_alloc_past _ _ _ h.lt]; exact h.c1, by rw [World.frozen?_alloc_past _ _ _ h.lt]; exact h.fz, by simp; have := h.lt; omega⟩
set_option maxHeartbeats 1000000 in
theorem digit_any (g F : Nat) (s : ByteArray) (hs : s.size ≤ 1099511627776) (k : Nat) (caps : Array Value) (m : Nat → Bool) (w : World) (h : RdAt w g s k) (hk : k ≤ s.size)
    (hcf : ∀ args W, (callFunc F args).run Tryd.prog W = .ok (.enter F args) W)
    (hF : ∀ n (v : Nat), v < 16 → Calls Tryd.prog F (#[.int .u8 (v : Int)] ++ caps) ((w.alloc (.cells #[.func (.func F) #[] caps] 91)).drewN n) fun e w' => e = .returned (.bool (m v)) ∧ w' = (w.alloc (.cells #[.func (.func F) #[] caps] 91)).drewN n) :
    Calls Tryd.prog 91 #[.pointer (some ⟨g, 0, none⟩), .func (.func F) #[] caps] w (Digit w g s k (dg m (nums s)[k]?)) := by
  have HR := rd_alloc h (.cells #[.func (.func F) #[] caps] 91)
  have HG := qhid (only_alloc (only_refl w (some g)) (.cells #[.func (.func F) #[] caps] 91))
  have hcell : ∀ n, ((w.alloc (.cells #[.func (.func F) #[] caps] 91)).drewN n).cell? ⟨w.heap.size, 0, none⟩ = some (.func (.func F) #[] caps) := fun n => by
    show (w.alloc (.cells #[.func (.func F) #[] caps] 91)).cell? ⟨w.heap.size, 0, none⟩ = _
    simp
  by_cases hlt : k < s.size
  · have hb256 : (s[k]'hlt).toNat < 256 := (s[k]'hlt).toNat_lt
    rw [nums_at s k hlt]
    have HD := fun n => dig1_any F _ hb256 caps m _ _ (hcell n) hcf (hF n)
    cases hd : dg m (some (s[k]'hlt).toNat) with
    | none =>
      rw [hd] at HD
      have HT := qhid (take_no g s k _ 106 #[.pointer (some ⟨w.heap.size, 0, none⟩)] _ HR hlt rfl cf_digit1 HD)
      have HR := qhid HR
      clear hF hd HD hcell
      go_enter Tryd.func91, Tryd.ntmps91
      go_wp2_with fail
      refine HT.out.mono ?_
      rintro e w1 ⟨rfl, n, hw⟩
      have HW := qhid hw
      clear hw
      go_wp2_with fail
      go_ret2
      exact ⟨rfl, by rw [HW.out]; exact ⟨only_rd HR.out n, only_drewN HG.out n⟩⟩
    | some v =>
      rw [hd] at HD
      obtain ⟨b2, hb2, hv2, _⟩ := dg_some hd
      injection hb2 with hb2
      have hv16 := (hx_some hv2).2
      have hw : IntKind.u8.wrap (v : Int) = (v : Int) := by simp [IntKind.wrap, IntKind.signed, IntKind.bits]; omega
      have HT := qhid (take_yes g s k _ 106 #[.pointer (some ⟨w.heap.size, 0, none⟩)] _ HR hlt rfl hs cf_digit1 HD)
      have HI := fun W => idx_any (s[k]'hlt).toNat hb256 W
      rw [← hb2] at hv2
      simp only [hxI_some hv2] at HI
      have HI := qhid HI
      have HR := qhid HR
      clear hF hd HD hcell hb2 hv2
      go_enter Tryd.func91, Tryd.ntmps91
      go_wp2_with fail
      refine HT.out.mono ?_
      rintro e w1 ⟨rfl, n, hw1⟩
      have HW := qhid hw1
      clear hw1
      go_wp2_with fail
      refine (HI.out _).mono ?_
      rintro e w2 ⟨rfl, rfl⟩
      go_wp2_with fail
      go_ret2
      have R := Rd.of (j := 1) HR.out n HW.out
      exact ⟨rfl, R.1, only_trans HG.out R.2⟩
  · have e1 : k = s.size := by omega
    subst e1
    have e2 : dg m (nums s)[s.size]? = none := by
      rw [List.getElem?_eq_none (by rw [nums_len]; omega)]; rfl
    rw [e2]
    have HT := qhid (take_end g s _ HR (.func (.func 106) #[] #[.pointer (some ⟨w.heap.size, 0, none⟩)]))
    have HR := qhid HR
    clear hF hcell
    go_enter Tryd.func91, Tryd.ntmps91
    go_wp2_with fail
    refine HT.out.mono ?_
    rintro e w1 ⟨rfl, n, hw⟩
    have HW := qhid hw
    clear hw
    go_wp2_with fail
    go_ret2
    exact ⟨rfl, by rw [HW.out]; exact ⟨only_rd HR.out n, only_drewN HG.out n⟩⟩
end Go.Proofs.YtglbhmhkeegpdaaDoor
