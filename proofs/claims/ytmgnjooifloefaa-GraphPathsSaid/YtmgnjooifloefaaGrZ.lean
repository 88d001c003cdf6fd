/- graph: the document's answer for how far: Far told. -/
import Derived.Test.YtmgnjooifloefaaGrY
namespace Go.Proofs.Ytmgnjooifloefaa
section
open Go Go.RowKit Go.Shelf
attribute [local go_sem ↓] Go.wp_at_zero Go.wp_at_succ
/-- From such things arrows were followed, as far as step s, thing i and thing k. -/
def FarU (E : Nat → Nat → Prop) (a s i k v : Nat) : Prop := ∃ u, Rch E a u ∧ dst E a u = s ∧ E u v ∧ (u < i ∨ (u = i ∧ v < k))
structure FarI (E : Nat → Nat → Prop) (a n s i k : Nat) (out : Nat → Int) : Prop where
  near : ∀ v, v < n → Rch E a v → dst E a v ≤ s → out v = (dst E a v : Int)
  next : ∀ v, v < n → ¬ (Rch E a v ∧ dst E a v ≤ s) → FarU E a s i k v → out v = (s : Int) + 1
  no : ∀ v, v < n → ¬ (Rch E a v ∧ dst E a v ≤ s) → ¬ FarU E a s i k v → out v = -1
variable {E : Nat → Nat → Prop} {a n s i k : Nat} {out : Nat → Int}
theorem FarI.start (E : Nat → Nat → Prop) (a n : Nat) : FarI E a n 0 0 0 (upd (fun _ => -1) a 0) := by
  have h0 : ∀ v, ¬ FarU E a 0 0 0 v := fun v ⟨u, _, _, _, h⟩ => by omega
  refine ⟨fun v _ hr hd => ?_, fun v _ _ h => absurd h (h0 v), fun v _ h _ => ?_⟩
  · obtain rfl := dst_zero hr (Nat.le_zero.1 hd)
    rw [upd_same, dst_self]
    rfl
  · refine upd_other _ _ (fun e => h ?_)
    rw [e]
    exact ⟨.refl _, Nat.le_of_eq (dst_self E a)⟩
theorem FarI.at_ (h : FarI E a n s i k out) {u : Nat} (hu : u < n) : out u = (s : Int) ↔ Rch E a u ∧ dst E a u = s := by
  constructor
  · intro e
    by_cases h1 : Rch E a u ∧ dst E a u ≤ s
    · have := h.near u hu h1.1 h1.2
      exact ⟨h1.1, by omega⟩
    · by_cases h2 : FarU E a s i k u
      · have := h.next u hu h1 h2
        omega
      · have := h.no u hu h1 h2
        omega
  · rintro ⟨h1, h2⟩
    rw [h.near u hu h1 (by omega), h2]
/-- An arrow is followed. -/
theorem FarI.step (h : FarI E a n s i k out) (hi : Rch E a i ∧ dst E a i = s) : ((E i k ∧ out k < 0) → FarI E a n s i (k + 1) (upd out k ((s : Int) + 1))) ∧ (¬ (E i k ∧ out k < 0) → k < n → FarI E a n s i (k + 1) out) := by
  have hU : ∀ v, FarU E a s i (k + 1) v ↔ FarU E a s i k v ∨ (v = k ∧ E i k) := fun v => by
    constructor
    · rintro ⟨u, h1, h2, h3, h4 | ⟨h4, h5⟩⟩
      · exact .inl ⟨u, h1, h2, h3, .inl h4⟩
      · by_cases hv : v = k
        · rw [h4, hv] at h3
          exact .inr ⟨hv, h3⟩
        · exact .inl ⟨u, h1, h2, h3, .inr ⟨h4, by omega⟩⟩
    · rintro (⟨u, h1, h2, h3, h4⟩ | ⟨rfl, h3⟩)
      · exact ⟨u, h1, h2, h3, h4.imp id (fun h => ⟨h.1, by omega⟩)⟩
      · exact ⟨i, hi.1, hi.2, h3, .inr ⟨rfl, Nat.lt_succ_self _⟩⟩
  constructor
  · rintro ⟨he, ho⟩
    refine ⟨fun v hv h1 h2 => ?_, fun v hv h1 h2 => ?_, fun v hv h1 h2 => ?_⟩
    · by_cases hvk : v = k
      · have := h.near v hv h1 h2
        rw [hvk] at this
        omega
      · rw [upd_other _ _ hvk]
        exact h.near v hv h1 h2
    · by_cases hvk : v = k
      · rw [hvk, upd_same]
      · rw [upd_other _ _ hvk]
        exact h.next v hv h1 (((hU v).1 h2).resolve_right (fun e => hvk e.1))
    · have hvk : v ≠ k := fun e => h2 ((hU v).2 (.inr ⟨e, he⟩))
      rw [upd_other _ _ hvk]
      exact h.no v hv h1 (fun e => h2 ((hU v).2 (.inl e)))
  · intro hno hk
    refine ⟨h.near, fun v hv h1 h2 => ?_, fun v hv h1 h2 => h.no v hv h1 (fun e => h2 ((hU v).2 (.inl e)))⟩
    by_cases h3 : FarU E a s i k v
    · exact h.next v hv h1 h3
    · rcases (hU v).1 h2 with h4 | ⟨rfl, h4⟩
      · exact absurd h4 h3
      · have := h.no v hv h1 h3
        exact absurd ⟨h4, by omega⟩ hno
/-- All arrows of a thing were followed. -/
theorem FarI.thing (h : FarI E a n s i k out) (hi : i < n) (hk : n ≤ k ∨ out i ≠ (s : Int)) : FarI E a n s (i + 1) 0 out := by
  have hU : ∀ v, v < n → (FarU E a s (i + 1) 0 v ↔ FarU E a s i k v) := fun v hv => by
    constructor
    · rintro ⟨u, h1, h2, h3, h4 | ⟨_, h5⟩⟩
      · rcases Nat.lt_succ_iff_lt_or_eq.1 h4 with h4 | rfl
        · exact ⟨u, h1, h2, h3, .inl h4⟩
        · rcases hk with hk | hk
          · exact ⟨u, h1, h2, h3, .inr ⟨rfl, by omega⟩⟩
          · exact absurd ((h.at_ hi).2 ⟨h1, h2⟩) hk
      · omega
    · rintro ⟨u, h1, h2, h3, h4⟩
      exact ⟨u, h1, h2, h3, .inl (by omega)⟩
  exact ⟨h.near, fun v hv h1 h2 => h.next v hv h1 ((hU v hv).1 h2), fun v hv h1 h2 => h.no v hv h1 (fun e => h2 ((hU v hv).2 e))⟩
/-- A step is done. -/
theorem FarI.done (h : FarI E a n s n 0 out) (hE : ∀ u v, E u v → u < n) : FarI E a n (s + 1) 0 0 out := by
  have h0 : ∀ v, ¬ FarU E a (s + 1) 0 0 v := fun v ⟨u, _, _, _, h⟩ => by omega
  have hU : ∀ v, FarU E a s n 0 v → Rch E a v ∧ dst E a v ≤ s + 1 := fun v ⟨u, h1, h2, h3, _⟩ => by
    have := dst_step h1 h3
    exact ⟨.tail h1 h3, by omega⟩
  refine ⟨fun v hv h1 h2 => ?_, fun v _ _ h => absurd h (h0 v), fun v hv h1 _ => ?_⟩
  · by_cases h3 : dst E a v ≤ s
    · exact h.near v hv h1 h3
    · obtain ⟨u, h4, h5, h6⟩ := dst_pred h1 (show dst E a v = s + 1 by omega)
      rw [h.next v hv (fun e => h3 e.2) ⟨u, h4, h5, h6, .inl (hE u v h6)⟩]
      omega
  · exact h.no v hv (fun e => h1 ⟨e.1, by omega⟩) (fun e => h1 (hU v e))
end
section
open Go Go.RowKit Go.Shelf
attribute [local go_sem ↓] Go.wp_at_zero Go.wp_at_succ
/-- What lies there while numbers are written. -/
structure FaM (w W : World) (B ob lb n : Nat) (rb : Nat → Nat) (m : Nat → Nat → Bool) (out : Nat → Int) : Prop where
  tab : TbAt W B ob rb n n m
  li : Vec W lb 3 n (fun v => .int .i64 (out v))
  be : Below w.heap.size w W
  lw : w.heap.size ≤ lb
theorem FaM.set {w W : World} {B ob lb n : Nat} {rb : Nat → Nat} {m : Nat → Nat → Bool} {out : Nat → Int} (h : FaM w W B ob lb n rb m out) (k : Nat) (x : Int) : FaM w (W.setCell ⟨lb, k, none⟩ (.int .i64 x)) B ob lb n rb m (upd out k x) := by
  refine ⟨⟨heap_set_other _ h.tab.o (ne_of_types h.tab.o h.li (by decide)), fun j hj => heap_set_other _ (h.tab.r j hj) (ne_of_types (h.tab.r j hj) h.li (by decide)), h.tab.inj, h.tab.lb⟩, (h.li.set k _).trans ?_, h.be.setCell (p := ⟨lb, k, none⟩) h.lw _, h.lw⟩
  rw [vl_congr (fun v _ => ?_)]
  by_cases hv : v = k
  · rw [hv, upd_same, upd_same]
  · rw [upd_other _ _ hv, upd_other _ _ hv]
theorem FaM.up {w W W' : World} {B ob lb n : Nat} {rb : Nat → Nat} {m : Nat → Nat → Bool} {out : Nat → Int} (h : FaM w W B ob lb n rb m out) (hb : Below W.heap.size W W') : FaM w W' B ob lb n rb m out :=
  ⟨h.tab.up hb, heap_up h.li hb, h.be.trans (hb.mono h.be.size), h.lw⟩
set_option maxRecDepth 100000 in
set_option maxHeartbeats 8000000 in
theorem gfar_any {w : World} {B ob n a : Nat} {rb : Nat → Nat} {m : Nat → Nat → Bool} (ht : TbAt w B ob rb n n m) (ha : a < n) (hn : n ≤ 100) (hbd : ∀ i j, m i j = true → i < n ∧ j < n) :
    Calls Try.prog 19 #[.slice (some ⟨ob, 0, none⟩) n n, .int .i64 (a : Int)] w fun e w' => ∃ (lb : Nat) (out : Nat → Int), e = .returned (.slice (some ⟨lb, 0, none⟩) n n) ∧ FaM w w' B ob lb n rb m out ∧ FarI (Em m) a n n 0 0 out := by
  have hmk := mk_vec n (by omega) w
  obtain ⟨lb, hlb⟩ : ∃ b, b = w.heap.size := ⟨_, rfl⟩
  obtain ⟨w1, hw1⟩ : ∃ X, X = w.alloc (.cells (vl n fun _ => .int .i64 0) 3) := ⟨_, rfl⟩
  have HM1 : Hid (FaM w w1 B ob lb n rb m (fun v => if v < 0 then -1 else 0)) := qhid (by
    rw [hw1, hlb]
    exact ⟨ht.up (below1 w _), (heap_new w _).trans (by rw [vl_congr (g := fun v => .int .i64 (if v < 0 then -1 else 0)) (fun v _ => by rw [if_neg (Nat.not_lt_zero v)])]), below1 w _, Nat.le_refl _⟩)
  have HBD := qhid hbd
  rw [← hlb, ← hw1] at hmk
  have hlw : lb < w1.heap.size := HM1.out.li.lt
  clear hw1 hlb ht hbd
  go_enter Try.func19, Try.ntmps19
  go_wp2_with fail
  clear hmk
  go_loopw [6] (fun iv wr => ∃ i : Nat, i ≤ n ∧ iv = .int .i64 (i : Int) ∧ Hid (FaM w wr B ob lb n rb m (fun v => if v < i then -1 else 0))) (fun iv _ => n - (intOf iv).toNat)
  case atStart => exact ⟨0, Nat.zero_le _, rfl, HM1⟩
  case round =>
    obtain ⟨i, hi, rfl, HM⟩ := hrel
    clear HM1
    by_cases hlt : i < n
    · have co := HM.out.li.cell hlt
      have fo := HM.out.li.unfrozen i
      have HM2 : Hid (FaM w (wr.setCell ⟨lb, i, none⟩ (.int .i64 (-1))) B ob lb n rb m (fun v => if v < i + 1 then -1 else 0)) := qhid (by
        have h := HM.out.set i (-1)
        have e : (upd (fun v => if v < i then -1 else 0) i (-1) : Nat → Int) = fun v => if v < i + 1 then -1 else 0 := by
          funext v
          by_cases hv : v = i
          · rw [hv, upd_same, if_pos (Nat.lt_succ_self _)]
          · rw [upd_other _ _ hv]
            by_cases hl : v < i
            · rw [if_pos hl, if_pos (Nat.lt_succ_of_lt hl)]
            · rw [if_neg hl, if_neg (by omega)]
        rw [e] at h
        exact h)
      go_wp2_with fail
      go_roundw
      case rel => exact ⟨i + 1, hlt, rfl, HM2⟩
      case measure => simp [intOf]; omega
    · obtain rfl : i = n := by omega
      have co := HM.out.li.cell ha
      have fo := HM.out.li.unfrozen a
      obtain ⟨W3, hW3⟩ : ∃ X, X = wr.setCell ⟨lb, a, none⟩ (.int .i64 0) := ⟨_, rfl⟩
      have HM3 : Hid (∃ out, FaM w W3 B ob lb i rb m out ∧ FarI (Em m) a i 0 0 0 out) := qhid (by
        have h := HM.out.set a 0
        rw [← hW3] at h
        have e : vl i (fun v => .int .i64 (upd (fun v => if v < i then -1 else 0) a 0 v)) = vl i (fun v => .int .i64 (upd (fun _ => -1) a 0 v)) := vl_congr (fun v hv => by
          by_cases hva : v = a
          · rw [hva, upd_same, upd_same]
          · rw [upd_other _ _ hva, upd_other _ _ hva, if_pos hv])
        exact ⟨upd (fun _ => -1) a 0, ⟨h.tab, h.li.trans (by rw [e]), h.be, h.lw⟩, FarI.start _ _ _⟩)
      go_wp2_with fail
      rw [← hW3]
      clear hW3 co fo HM
      go_loopw [7] (fun sv wr => ∃ s : Nat, s ≤ i ∧ sv = .int .i64 (s : Int) ∧ Hid (∃ out, FaM w wr B ob lb i rb m out ∧ FarI (Em m) a i s 0 0 out)) (fun sv _ => i - (intOf sv).toNat)
      case atStart => exact ⟨0, Nat.zero_le _, rfl, HM3⟩
      case round =>
        obtain ⟨s, hs, rfl, HS⟩ := hrel
        clear HM3
        by_cases hsl : s < i
        · go_wp2_with fail
          go_loopw [8] (fun xv wr => ∃ x : Nat, x ≤ i ∧ xv = .int .i64 (x : Int) ∧ Hid (∃ out, FaM w wr B ob lb i rb m out ∧ FarI (Em m) a i s x 0 out)) (fun xv _ => i - (intOf xv).toNat)
          case atStart => exact ⟨0, Nat.zero_le _, rfl, HS⟩
          case round =>
            obtain ⟨x, hx, rfl, HX⟩ := hrel
            clear HS
            by_cases hxl : x < i
            · go_wp2_with fail
              go_loopw [9] (fun kv wr => ∃ k : Nat, k ≤ i ∧ kv = .int .i64 (k : Int) ∧ Hid (∃ out, FaM w wr B ob lb i rb m out ∧ FarI (Em m) a i s x k out)) (fun kv _ => i - (intOf kv).toNat)
              case atStart => exact ⟨0, Nat.zero_le _, rfl, HX⟩
              case round =>
                obtain ⟨k, hk, rfl, HK⟩ := hrel
                clear HX
                obtain ⟨out, hm, hf⟩ := HK.out
                have cx := hm.li.cell hxl
                by_cases hkl : k < i
                · by_cases hox : out x = (s : Int)
                  · have hat := (hf.at_ hxl).1 hox
                    have ck := hm.li.cell hkl
                    have fk := hm.li.unfrozen k
                    have ct : wr.cell? ⟨ob, x, none⟩ = some (.slice (some ⟨rb x, 0, none⟩) i i) := by rw [hm.tab.o.cell hxl, if_pos hxl]
                    have cr := (hm.tab.r x hxl).cell hkl
                    rw [hox] at cx
                    have HSET := qhid (hm.set k ((s : Int) + 1))
                    have HST := qhid (hf.step hat (k := k))
                    have HM := qhid hm
                    obtain ⟨ok, hok⟩ : ∃ u, u = out k := ⟨_, rfl⟩
                    obtain ⟨mk, hmk⟩ : ∃ u, u = m x k := ⟨_, rfl⟩
                    have HE : Hid (Em m x k ↔ mk = true) := qhid (by rw [hmk]; rfl)
                    rw [← hok] at ck HST
                    rw [← hmk] at cr
                    clear hmk hok hox hat hm hf HK
                    cases mk with
                    | false =>
                      have HNX : Hid (∃ out, FaM w wr B ob lb i rb m out ∧ FarI (Em m) a i s x (k + 1) out) := qhid ⟨_, HM.out, HST.out.2 (fun e => by have := HE.out.1 e.1; cases this) hkl⟩
                      go_wp2_with fail
                      go_roundw
                      case rel => exact ⟨k + 1, hkl, rfl, HNX⟩
                      case measure => simp [intOf]; omega
                    | true =>
                      by_cases hneg : ok < 0
                      · have HNX : Hid (∃ out, FaM w (wr.setCell ⟨lb, k, none⟩ (.int .i64 ((s : Int) + 1))) B ob lb i rb m out ∧ FarI (Em m) a i s x (k + 1) out) := qhid ⟨_, HSET.out, HST.out.1 ⟨HE.out.2 rfl, hneg⟩⟩
                        go_wp2_with fail
                        go_roundw
                        case rel => exact ⟨k + 1, hkl, rfl, HNX⟩
                        case measure => simp [intOf]; omega
                      · have HNX : Hid (∃ out, FaM w wr B ob lb i rb m out ∧ FarI (Em m) a i s x (k + 1) out) := qhid ⟨_, HM.out, HST.out.2 (fun e => hneg e.2) hkl⟩
                        go_wp2_with fail
                        go_roundw
                        case rel => exact ⟨k + 1, hkl, rfl, HNX⟩
                        case measure => simp [intOf]; omega
                  · have HTH := qhid (show ∃ out, FaM w wr B ob lb i rb m out ∧ FarI (Em m) a i s (x + 1) 0 out from ⟨_, hm, hf.thing hxl (.inr hox)⟩)
                    have hof : (out x == (s : Int)) = false := by simpa using hox
                    clear hox hm hf HK
                    go_wp2_with fail
                    go_roundw
                    case rel => exact ⟨x + 1, hxl, rfl, HTH⟩
                    case measure => simp [intOf]; omega
                · have HTH := qhid (show ∃ out, FaM w wr B ob lb i rb m out ∧ FarI (Em m) a i s (x + 1) 0 out from ⟨_, hm, hf.thing hxl (.inl (by omega))⟩)
                  clear cx hm hf HK
                  go_wp2_with fail
                  go_roundw
                  case rel => exact ⟨x + 1, hxl, rfl, HTH⟩
                  case measure => simp [intOf]; omega
            · obtain rfl : x = i := by omega
              have HD : Hid (∃ out, FaM w wr B ob lb x rb m out ∧ FarI (Em m) a x (s + 1) 0 0 out) := qhid (by
                obtain ⟨out, hm, hf⟩ := HX.out
                exact ⟨out, hm, hf.done (fun u v e => (HBD.out u v e).1)⟩)
              clear HX
              go_wp2_with fail
              go_roundw
              case rel => exact ⟨s + 1, hsl, rfl, HD⟩
              case measure => simp [intOf]; omega
        · obtain rfl : s = i := by omega
          go_wp2_with fail
          go_ret
          obtain ⟨out, hm, hf⟩ := HS.out
          exact ⟨lb, out, rfl, hm, hf⟩
end
end Go.Proofs.Ytmgnjooifloefaa
