/- For any text and any place what the code answers of the class, and of the escape, that begins there is the document's answer. For any text and any place the law TokenSets answers true: of the class, and of the escape, that begins there, or not, the code answers the document's set, place and error. The table of trailing zeros lies as its initialiser lays it; no other condition. -/
import Derived.Test.YtcicdiooifjcbaaDoorBeg
import Derived.Test.YtcicdiooifjcbaaDoorRfH
import Derived.Test.YtcicdiooifjcbaaDoorTokY
import Derived.Test.YtcicdiooifjcbaaDoorLaid
import Derived.Test.YtcicdiooifjcbaaDoorTie
import Derived.Test.YtcicdiooifjcbaaDoorCards
import Derived.ChangeMaps5
import Derived.ProofKit
import Derived.SevenTiedAt
namespace Go.Proofs.YtcicdiooifjcbaaDoor
section
open Go Go.RowKit
attribute [local go_sem ↓] Go.wp_at_zero Go.wp_at_succ
attribute [local go_sem] eq4
/-- What both answer of a set that begins with a byte m at a place z: whether there is one; the set, the place, and the error's number. -/
structure BegOf (p : ByteArray) (z : Int) (m : Nat) (b : Bool) : Prop where
  neg : z < 0 → b = false
  out : ∀ k : Nat, z = k → p.size ≤ k → b = false
  at_ : ∀ k : Nat, z = k → k < p.size → b = decide (bAt p k = m)
theorem begOf (p : ByteArray) (z : Int) (m : Nat) (hm : m < 256) : ∃ b, BegOf p z m b ∧ (b = true → ∃ k : Nat, z = k ∧ k < p.size ∧ bAt p k = m) ∧ (b = false → z < 0 ∨ ∃ k : Nat, z = k ∧ bAt p k ≠ m) := by
  by_cases hz : z < 0
  · exact ⟨false, ⟨fun _ => rfl, fun k hk => by omega, fun k hk => by omega⟩, (fun h => by cases h), fun _ => .inl hz⟩
  · obtain ⟨k, rfl⟩ : ∃ k : Nat, z = k := ⟨z.toNat, by omega⟩
    by_cases h : bAt p k = m
    · have hk := in_of_bAt h (by omega)
      refine ⟨true, ⟨fun h => by omega, fun j hj => by omega, fun j hj hp => ?_⟩, fun _ => ⟨k, rfl, hk, h⟩, (fun h => by cases h)⟩
      obtain rfl : k = j := by omega
      simp [h]
    · refine ⟨false, ⟨fun _ => rfl, fun _ _ _ => rfl, fun j hj hp => ?_⟩, (fun h => by cases h), fun _ => .inr ⟨k, rfl, h⟩⟩
      obtain rfl : k = j := by omega
      simp [h]
/-- What lies there beside the law: both sets of the code, both Ends, both sets of the document. -/
structure SW (X : World) (b5 b8 b11 b12 b13 b14 : Nat) (t1 t2 : W4) (x1 y1 x2 y2 : Int) (tx ty : W4) : Prop where
  s1 : OwnSet X b5 t1
  s2 : OwnSet X b8 t2
  e1 : OwnEnd X b11 x1 y1
  e2 : OwnEnd X b12 x2 y2
  r1 : OwnSet X b13 tx
  r2 : OwnSet X b14 ty
  ne : b5 < b8 ∧ b8 < b11 ∧ b11 < b12 ∧ b12 < b13 ∧ b13 < b14
theorem SW.below {X Y : World} {b5 b8 b11 b12 b13 b14 : Nat} {t1 t2 : W4} {x1 y1 x2 y2 : Int} {tx ty : W4} (h : SW X b5 b8 b11 b12 b13 b14 t1 t2 x1 y1 x2 y2 tx ty) (hb : Below X.heap.size X Y) : SW Y b5 b8 b11 b12 b13 b14 t1 t2 x1 y1 x2 y2 tx ty :=
  ⟨h.s1.below hb, h.s2.below hb, h.e1.below hb, h.e2.below hb, h.r1.below hb, h.r2.below hb, h.ne⟩
theorem SW.put1 {X : World} {b5 b8 b11 b12 b13 b14 : Nat} {t1 t2 : W4} {x1 y1 x2 y2 : Int} {tx ty : W4} (h : SW X b5 b8 b11 b12 b13 b14 t1 t2 x1 y1 x2 y2 tx ty) (t : W4) (x y : Int) : SW (endPut (setPut X b13 t) b11 x y) b5 b8 b11 b12 b13 b14 t1 t2 x y x2 y2 t ty := by
  have hn := h.ne
  exact ⟨(h.s1.other (by omega)).end_ (by omega), (h.s2.other (by omega)).end_ (by omega), (h.e1.set_ (by omega)).put x y, (h.e2.set_ (by omega)).other (by omega), (h.r1.put t).end_ (by omega), (h.r2.other (by omega)).end_ (by omega), hn⟩
theorem SW.put2 {X : World} {b5 b8 b11 b12 b13 b14 : Nat} {t1 t2 : W4} {x1 y1 x2 y2 : Int} {tx ty : W4} (h : SW X b5 b8 b11 b12 b13 b14 t1 t2 x1 y1 x2 y2 tx ty) (t : W4) (x y : Int) : SW (endPut (setPut X b14 t) b12 x y) b5 b8 b11 b12 b13 b14 t1 t2 x1 y1 x y tx t := by
  have hn := h.ne
  exact ⟨(h.s1.other (by omega)).end_ (by omega), (h.s2.other (by omega)).end_ (by omega), (h.e1.set_ (by omega)).other (by omega), (h.e2.set_ (by omega)).put x y, (h.r1.other (by omega)).end_ (by omega), (h.r2.put t).end_ (by omega), hn⟩
abbrev swWorld (w2 : World) (t2 : W4) : World := ((((w2.alloc (setOb t2)).alloc (enOb 0 2)).alloc (enOb 0 2)).alloc setObj).alloc setObj
theorem sw_start (w1 w2 : World) (t1 t2 : W4) (hb : Below (w1.alloc (setOb t1)).heap.size (w1.alloc (setOb t1)) w2) :
    SW (swWorld w2 t2) w1.heap.size w2.heap.size (w2.heap.size + 1) (w2.heap.size + 1 + 1) (w2.heap.size + 1 + 1 + 1) (w2.heap.size + 1 + 1 + 1 + 1) t1 t2 0 2 0 2 noW noW := by
  have hsz := hb.size
  rw [World.size_alloc] at hsz
  have a1 : OwnSet w2 w1.heap.size t1 := (OwnSet.of (heap_new w1 (setOb t1))).below hb
  obtain ⟨x1, h1⟩ : ∃ x, x = w2.alloc (setOb t2) := ⟨_, rfl⟩
  have n1 : x1.heap.size = w2.heap.size + 1 := by rw [h1, World.size_alloc]
  have s1 : OwnSet x1 w2.heap.size t2 := by rw [h1]; exact OwnSet.of (heap_new _ _)
  have d1 : Below w2.heap.size w2 x1 := by rw [h1]; exact below1 _ _
  obtain ⟨x2, h2⟩ : ∃ x, x = x1.alloc (enOb 0 2) := ⟨_, rfl⟩
  have n2 : x2.heap.size = x1.heap.size + 1 := by rw [h2, World.size_alloc]
  have s2 : OwnEnd x2 x1.heap.size 0 2 := by rw [h2]; exact OwnEnd.of (heap_new _ _)
  have d2 : Below x1.heap.size x1 x2 := by rw [h2]; exact below1 _ _
  obtain ⟨x3, h3⟩ : ∃ x, x = x2.alloc (enOb 0 2) := ⟨_, rfl⟩
  have n3 : x3.heap.size = x2.heap.size + 1 := by rw [h3, World.size_alloc]
  have s3 : OwnEnd x3 x2.heap.size 0 2 := by rw [h3]; exact OwnEnd.of (heap_new _ _)
  have d3 : Below x2.heap.size x2 x3 := by rw [h3]; exact below1 _ _
  obtain ⟨x4, h4⟩ : ∃ x, x = x3.alloc setObj := ⟨_, rfl⟩
  have n4 : x4.heap.size = x3.heap.size + 1 := by rw [h4, World.size_alloc]
  have s4 : OwnSet x4 x3.heap.size noW := by rw [h4]; exact OwnSet.of (t := noW) (heap_new _ _)
  have d4 : Below x3.heap.size x3 x4 := by rw [h4]; exact below1 _ _
  obtain ⟨x5, h5⟩ : ∃ x, x = x4.alloc setObj := ⟨_, rfl⟩
  have s5 : OwnSet x5 x4.heap.size noW := by rw [h5]; exact OwnSet.of (t := noW) (heap_new _ _)
  have d5 : Below x4.heap.size x4 x5 := by rw [h5]; exact below1 _ _
  unfold swWorld
  rw [← h1, ← h2, ← h3, ← h4, ← h5, show w2.heap.size + 1 + 1 + 1 + 1 = x4.heap.size by omega, show w2.heap.size + 1 + 1 + 1 = x3.heap.size by omega, show w2.heap.size + 1 + 1 = x2.heap.size by omega, show w2.heap.size + 1 = x1.heap.size by omega]
  exact ⟨((((a1.below d1).below d2).below d3).below d4).below d5, (((s1.below d2).below d3).below d4).below d5, ((s2.below d3).below d4).below d5, (s3.below d4).below d5, s4.below d5, s5, by omega⟩
theorem sets_cls (p : ByteArray) (z : Int) (hs : p.size ≤ 300) : ∃ (b : Bool) (t : W4) (j c : Int), BegOf p z 91 b ∧
    (∀ W, Tab W → Calls Tryd.prog 8 #[.string p, .int .i64 z] W fun e w' => e = .returned (.tuple #[.agg #[.int .u64 t.a, .int .u64 t.b, .int .u64 t.c, .int .u64 t.d], .int .i64 j, .int .i64 c]) ∧ Below W.heap.size W w') ∧
    (b = true → ∀ W, Calls Tryd.prog 10 #[.string p, .int .i64 z] W fun e w' => e = .returned (.tuple #[.agg #[.int .u64 t.a, .int .u64 t.b, .int .u64 t.c, .int .u64 t.d], .agg #[.int .i64 j, .int .i64 c]]) ∧ Below W.heap.size W w') ∧
    (b = false → t = noW ∧ j = 0 ∧ c = 2) := by
  obtain ⟨b, hb, h1, h2⟩ := begOf p z 91 (by omega)
  cases b
  · exact ⟨false, noW, 0, 2, hb, fun W _ => tClassAt_no p z (h2 rfl) W, (fun h => by cases h), fun _ => ⟨rfl, rfl, rfl⟩⟩
  · obtain ⟨k, rfl, hk, hm⟩ := h1 rfl
    exact ⟨true, (classR p k).1, ((classR p k).2.2 : Int), (classR p k).2.1, hb, fun W hW => tClassAt_yes p k hm (by omega) W hW, fun _ W => refclass_any p k hk (by omega) W, fun h => by cases h⟩
theorem sets_esc (p : ByteArray) (z : Int) (hs : p.size ≤ 300) : ∃ (b : Bool) (t : W4) (j c : Int), BegOf p z 92 b ∧
    (∀ W, Tab W → Calls Tryd.prog 9 #[.string p, .int .i64 z] W fun e w' => e = .returned (.tuple #[.agg #[.int .u64 t.a, .int .u64 t.b, .int .u64 t.c, .int .u64 t.d], .int .i64 j, .int .i64 c]) ∧ Below W.heap.size W w') ∧
    (b = true → ∀ W, Calls Tryd.prog 11 #[.string p, .int .i64 z] W fun e w' => e = .returned (.tuple #[.agg #[.int .u64 t.a, .int .u64 t.b, .int .u64 t.c, .int .u64 t.d], .agg #[.int .i64 j, .int .i64 c]]) ∧ Below W.heap.size W w') ∧
    (b = false → t = noW ∧ j = 0 ∧ c = 2) := by
  obtain ⟨b, hb, h1, h2⟩ := begOf p z 92 (by omega)
  cases b
  · exact ⟨false, noW, 0, 2, hb, fun W _ => tEscapeAt_no p z (h2 rfl) W, (fun h => by cases h), fun _ => ⟨rfl, rfl, rfl⟩⟩
  · obtain ⟨k, rfl, hk, hm⟩ := h1 rfl
    exact ⟨true, (escR p k).1, ((escR p k).2.2 : Int), (escR p k).2.1, hb, fun W hW => tEscapeAt_yes p k hm (by omega) W hW, fun _ W => refesc_any p k hk (by omega) W, fun h => by cases h⟩
set_option maxRecDepth 100000 in
set_option maxHeartbeats 8000000 in
theorem sets_any (p : ByteArray) (z : Int) (w : World) (hT : Tab w) :
    Calls Tryd.prog 4 #[.string p, .int .i64 z] w fun e w' => e = .returned (.bool true) ∧ Below w.heap.size w w' := by
  have AW := qhid (fun W (hW : Tab W) => tok_awake W hW)
  have HT := qhid hT
  clear hT
  by_cases hp : p.size ≤ 300
  · have dp : decide ((300 : Int) < (p.size : Int)) = false := decide_eq_false (by omega)
    obtain ⟨u1, t1, j1, c1, hu1, hCL, hRC, hN1⟩ := sets_cls p z hp
    obtain ⟨u2, t2, j2, c2, hu2, hES, hRE, hN2⟩ := sets_esc p z hp
    have HU1 := qhid hu1
    have HU2 := qhid hu2
    have CL := qhid hCL
    have ES := qhid hES
    have RC := qhid hRC
    have RE := qhid hRE
    have HN1 := qhid hN1
    have HN2 := qhid hN2
    clear hu1 hu2 hCL hES hRC hRE hN1 hN2
    go_enter Tryd.func4, Tryd.ntmps4
    go_wp2_with fail
    refine (CL.out _ HT.out).mono ?_
    rintro e w1 ⟨rfl, hb1⟩
    have HB1 := qhid hb1
    have HT1 : Hid (Tab (w1.alloc (setOb t1))) := qhid ((HT.out.up hb1).alloc _)
    clear hb1
    go_wp2_with fail
    refine (ES.out _ HT1.out).mono ?_
    rintro e w2 ⟨rfl, hb2⟩
    have HS := qhid (sw_start w1 w2 t1 t2 hb2)
    have HT2 : Hid (Tab (swWorld w2 t2)) := qhid ((((((HT1.out.up hb2).alloc _).alloc _).alloc _).alloc _).alloc _)
    have HB2 : Hid (Below w.heap.size w (swWorld w2 t2)) := qhid (by
      have h1 := HB1.out.trans ((below1 w1 (setOb t1)).mono HB1.out.size)
      have h2 := h1.trans (hb2.mono h1.size)
      exact h2.trans (((((below2 _ _ _).trans ((below1 _ _).mono (by simp; omega))).trans ((below1 _ _).mono (by simp; omega))).trans ((below1 _ _).mono (by simp; omega))).mono h2.size))
    have H5 : Hid (w.heap.size ≤ w1.heap.size) := qhid HB1.out.size
    clear hb2 HB1 HT1 CL ES
    go_upto_region 7 with fail
    change Code.wp _ _ _ _ (swWorld w2 t2)
    generalize swWorld w2 t2 = W at *
    generalize w2.heap.size + 1 + 1 + 1 + 1 = b14 at *
    generalize w2.heap.size + 1 + 1 + 1 = b13 at *
    generalize w2.heap.size + 1 + 1 = b12 at *
    generalize w2.heap.size + 1 = b11 at *
    generalize w2.heap.size = b8 at *
    generalize w1.heap.size = b5 at *
    have h5 : w.heap.size ≤ b5 := H5.out
    clear HT2
    have hne := HS.out.ne
    go_cut [48] (fun v wx => v = .bool u1 ∧ wx = W)
    case first =>
      by_cases hz : z < 0
      · have d0 : decide (0 ≤ z) = false := decide_eq_false (by omega)
        have HB := qhid (HU1.out.neg hz)
        go_wp2_with fail
        go_meet
        exact ⟨by rw [HB.out], rfl⟩
      · obtain ⟨k, rfl⟩ : ∃ k : Nat, z = k := ⟨z.toNat, by omega⟩
        clear hz
        by_cases hk : k < p.size
        · have d1 : decide (k < p.size) = true := decide_eq_true hk
          have HB := qhid (HU1.out.at_ k rfl hk)
          by_cases hb : bAt p k = 91
          · have hc : (((p[k]'hk).toNat : Int) == 91) = true := by rw [bAt_in hk] at hb; simp [hb]
            have HB : Hid (u1 = true) := qhid (by rw [HB.out]; simp [hb])
            clear hb
            go_wp2_with fail
            go_meet
            exact ⟨by rw [HB.out], rfl⟩
          · have hc : (((p[k]'hk).toNat : Int) == 91) = false := by rw [bAt_in hk] at hb; simp; omega
            have HB : Hid (u1 = false) := qhid (by rw [HB.out]; simp [hb])
            clear hb
            go_wp2_with fail
            go_meet
            exact ⟨by rw [HB.out], rfl⟩
        · have d1 : decide (k < p.size) = false := decide_eq_false hk
          have HB := qhid (HU1.out.out k rfl (by omega))
          go_wp2_with fail
          go_meet
          exact ⟨by rw [HB.out], rfl⟩
    case rest =>
      obtain ⟨rfl, rfl⟩ := hcut
      go_upto_if 48 with fail
      go_cut [] (fun wx => Hid (SW wx b5 b8 b11 b12 b13 b14 t1 t2 j1 c1 0 2 t1 noW) ∧ Hid (Below w.heap.size w wx))
      case first =>
        cases u1
        · obtain ⟨rfl, rfl, rfl⟩ := HN1.out rfl
          go_wp2_with fail
          go_meet
          exact ⟨HS, HB2⟩
        · go_wp2_with fail
          refine (RC.out (by trivial) _).mono ?_
          rintro e w3 ⟨rfl, hb3⟩
          have HS3 := qhid (HS.out.below hb3)
          have HB3 := qhid (HB2.out.trans (hb3.mono HB2.out.size))
          have HP := qhid (HS3.out.put1 t1 j1 c1)
          have HPB : Hid (Below w.heap.size w (endPut (setPut w3 b13 t1) b11 j1 c1)) := qhid (((below_set4 HB3.out (by omega) _ _ _ _).setCell (by simp; omega) _).setCell (by simp; omega) _)
          obtain ⟨⟨q0, q1, q2, q3⟩, ⟨f0, f1, f2, f3⟩, hsz⟩ := HS3.out.r1
          obtain ⟨⟨m0, m1⟩, ⟨g0, g1⟩, hsz2⟩ := HS3.out.e1
          clear hb3
          have n1 : ¬ b13 = b11 := by omega
          have n2 : ¬ b11 = b13 := by omega
          go_wp2_with fail
          go_meet
          exact ⟨HP, HPB⟩
      case rest =>
        clear HS HB2 RC HN1 HU1
        obtain ⟨HS, HB2⟩ := hcut
        go_upto_region 9 with fail
        go_cut [68] (fun v wx => v = .bool u2 ∧ Hid (SW wx b5 b8 b11 b12 b13 b14 t1 t2 j1 c1 0 2 t1 noW) ∧ Hid (Below w.heap.size w wx))
        case first =>
          by_cases hz : z < 0
          · have d0 : decide (0 ≤ z) = false := decide_eq_false (by omega)
            have HB := qhid (HU2.out.neg hz)
            go_wp2_with fail
            go_meet
            exact ⟨by rw [HB.out], HS, HB2⟩
          · obtain ⟨k, rfl⟩ : ∃ k : Nat, z = k := ⟨z.toNat, by omega⟩
            clear hz
            by_cases hk : k < p.size
            · have d1 : decide (k < p.size) = true := decide_eq_true hk
              have HB := qhid (HU2.out.at_ k rfl hk)
              by_cases hb : bAt p k = 92
              · have hc : (((p[k]'hk).toNat : Int) == 92) = true := by rw [bAt_in hk] at hb; simp [hb]
                have HB : Hid (u2 = true) := qhid (by rw [HB.out]; simp [hb])
                clear hb
                go_wp2_with fail
                go_meet
                exact ⟨by rw [HB.out], HS, HB2⟩
              · have hc : (((p[k]'hk).toNat : Int) == 92) = false := by rw [bAt_in hk] at hb; simp; omega
                have HB : Hid (u2 = false) := qhid (by rw [HB.out]; simp [hb])
                clear hb
                go_wp2_with fail
                go_meet
                exact ⟨by rw [HB.out], HS, HB2⟩
            · have d1 : decide (k < p.size) = false := decide_eq_false hk
              have HB := qhid (HU2.out.out k rfl (by omega))
              go_wp2_with fail
              go_meet
              exact ⟨by rw [HB.out], HS, HB2⟩
        case rest =>
          clear HS HB2
          obtain ⟨rfl, HS, HB2⟩ := hcut
          go_upto_if 68 with fail
          go_cut [] (fun wx => Hid (SW wx b5 b8 b11 b12 b13 b14 t1 t2 j1 c1 j2 c2 t1 t2) ∧ Hid (Below w.heap.size w wx))
          case first =>
            cases u2
            · obtain ⟨rfl, rfl, rfl⟩ := HN2.out rfl
              go_wp2_with fail
              go_meet
              exact ⟨HS, HB2⟩
            · go_wp2_with fail
              refine (RE.out (by trivial) _).mono ?_
              rintro e w3 ⟨rfl, hb3⟩
              have HS3 := qhid (HS.out.below hb3)
              have HB3 := qhid (HB2.out.trans (hb3.mono HB2.out.size))
              have HP := qhid (HS3.out.put2 t2 j2 c2)
              have HPB : Hid (Below w.heap.size w (endPut (setPut w3 b14 t2) b12 j2 c2)) := qhid (((below_set4 HB3.out (by omega) _ _ _ _).setCell (by simp; omega) _).setCell (by simp; omega) _)
              obtain ⟨⟨q0, q1, q2, q3⟩, ⟨f0, f1, f2, f3⟩, hsz⟩ := HS3.out.r2
              obtain ⟨⟨m0, m1⟩, ⟨g0, g1⟩, hsz2⟩ := HS3.out.e2
              clear hb3
              have n1 : ¬ b14 = b12 := by omega
              have n2 : ¬ b12 = b14 := by omega
              go_wp2_with fail
              go_meet
              exact ⟨HP, HPB⟩
          case rest =>
            clear HS HB2 RE HN2 HU2
            obtain ⟨HS, HB2⟩ := hcut
            obtain ⟨⟨a0, a1, a2, a3⟩, _, ha⟩ := HS.out.s1
            obtain ⟨⟨b0', b1', b2', b3'⟩, _, hb⟩ := HS.out.s2
            obtain ⟨⟨m0, m1⟩, _, hm⟩ := HS.out.e1
            obtain ⟨⟨n0, n1⟩, _, hn⟩ := HS.out.e2
            obtain ⟨⟨x0, x1, x2, x3⟩, _, hx⟩ := HS.out.r1
            obtain ⟨⟨y0, y1, y2, y3⟩, _, hy⟩ := HS.out.r2
            have HTW := qhid (HT.out.up HB2.out)
            clear HS HT
            go_wp2_with fail
            refine (AW.out _ HTW.out).mono ?_
            rintro e w4 ⟨rfl, hb4⟩
            have HB4 := qhid (HB2.out.trans (hb4.mono HB2.out.size))
            go_wp2_with fail
            go_ret
            exact ⟨rfl, HB4.out⟩
  · have dp : decide ((300 : Int) < (p.size : Int)) = true := decide_eq_true (by omega)
    go_enter Tryd.func4, Tryd.ntmps4
    go_wp2_with fail
    refine (AW.out _ HT.out).mono ?_
    rintro e w1 ⟨rfl, hb1⟩
    have HB1 := qhid hb1
    go_wp2_with fail
    go_ret
    exact ⟨rfl, HB1.out⟩
end
section
open Go.ChangeShapes Go.WideShapes Go.ChangeAt Go.WideMaps Go.WideElems Go.ChangeMaps Go.RowKit
set_option maxHeartbeats 400000 in
set_option maxRecDepth 100000 in
theorem tokenSets_lifted (os : Os) (started : os.Started) (H : Type) (enc : TypeId × Value → H) :
    ReturnsInHanded {} Tryd.checked os 4 .any (fun w args => (Rows.tokenSetsSpec.pre enc Tryd.prog Tryd.f4 [] false w args ∧ laidMetH Tryd.prog laidL w) ∧ sizedMet enc Tryd.prog Tryd.f4 (OpenSpec.ofChange Rows.tokenSetsSpec) false w args)
      (Rows.tokenSetsSpec.post enc Tryd.prog Tryd.f4 false true false false) := by
  refine returnsInHanded_of_change_and (C := Tryd.checked) (X := fun w _ => laidMetH Tryd.prog laidL w) (fun _ _ _ hh h => h.of_heap hh) own started (by kernel_rfl) Tryd.func4
    (ChangeSpec.witness_shaped (enc := enc) (C := Tryd.checked) (os := os) (X := fun w _ => laidMetH Tryd.prog laidL w) false (World.doorLaid Tryd.prog 4000 os) #[.string ⟨#[]⟩, .int .i64 0] 8 rfl (World.shaped_of_RefB (by kernel_rfl) (by kernel_rfl)) (by kernel_rfl) (by kernel_rfl) (by kernel_rfl) (door_met os _)) ?_
  intro W base args ds gs before hval0 hW _ _ hL _
  have hval : ∀ (j : Nat) t v, Tryd.f4.params[j]? = some t → args[j]? = some v → Value.okWide Tryd.prog W .any base t v := hval0
  have hW' := hW
  obtain ⟨p, q, hA0, hV, rfl, hfz, hnd⟩ := hW
  have hA : DataW.TrodAll enc Tryd.prog W 0 (fun _ => true) true Tryd.f4.params.toList args.toList ds p := hA0
  rw [Tryd.params4] at hA hval
  obtain ⟨v0, vs0, d0, ds0, p0, q0, hargs, rfl, rfl, h0, r0⟩ := trodAll_cons hA
  obtain ⟨v1, vs1, d1, ds1, p1, q1, rfl, rfl, rfl, h1, r1⟩ := trodAll_cons r0
  obtain ⟨rfl, rfl, rfl⟩ := trodAll_nil r1
  obtain rfl : args = #[v0, v1] := by cases args; simp_all
  obtain ⟨rfl, rfl⟩ := trodVars_none hV
  have k0 := h0
  have k1 := h1
  obtain ⟨x0, rfl, rfl, rfl, _⟩ := open_string Tryd.underlying9 (hval 0 9 v0 rfl rfl) h0
  obtain ⟨x1, rfl, rfl, rfl, wf1⟩ := open_int Tryd.underlying3 (hval 1 3 v1 rfl rfl) h1
  have b1 := bounds_i64 wf1
  clear hA0 hval0
  have T := tab_of_laid hL
  refine (sets_any x0 x1 _ T).mono fun e W' ⟨he, bel⟩ => ?_
  subst he
  exact ⟨_, rfl, _, _, _, [], _, [], hW', trodAll_mk1 (shut_bool Tryd.underlying4 _), (trodAll_cons_mk (Below.trod laidOut (by kernel_rfl) (of_decide_eq_true (by kernel_rfl)) k0 bel (trod_lt0 k0)) (trodAll_cons_mk (Below.trod laidOut (by kernel_rfl) (of_decide_eq_true (by kernel_rfl)) k1 bel (trod_lt0 k1)) trodAll_mk0)), rfl, bel.frame _, fun h => by cases h⟩
theorem tokenSets_holds : Rows.TokenSetsSaid :=
  OpenClaim.holds_of_wide 4 Tryd.f4 rfl rfl rfl rfl rfl rfl rfl ⟨rfl, rfl, rfl, rfl, rfl⟩ rfl rfl rfl rfl rfl (by kernel_rfl) Tryd.func4 (by kernel_rfl)
    (of_decide_eq_true (by kernel_rfl)) (by unfold Func.isWrapper; first | (rw [if_pos (by decide +kernel)]; kernel_rfl) | (rw [if_neg (by decide +kernel)]; exact ⟨rfl, rfl⟩))
    (fun os started H enc _ => tokenSets_lifted os started H enc)
theorem tokenSets_card : Rows.TokenSetsCardSaid :=
  Claim7.holds_tied_plain_at .later [] [.data] true _ false
    tokenSets_holds (fun _ h => by cases h) (by kernel_rfl) (fun _ h => by cases h) tokenSets_row_tie rfl ⟨rfl, rfl⟩ (by kernel_rfl) rfl
    (fun f fn hf hfn => by
      obtain rfl : f = 4 := Option.some.inj ((show Tryd.prog.funcNamed "caltrop/caltroplaw05.TokenSets" = some 4 by kernel_rfl).symm.trans hf) |>.symm
      obtain rfl : fn = Tryd.f4 := (Option.some.inj (Tryd.func4.symm.trans hfn)).symm
      exact ⟨by kernel_rfl, fun j t ht => by
        rw [Tryd.params4] at ht
        have hm := Array.mem_of_getElem? ht
        have hall : ([9, 3].all fun u => !Tryd.prog.wantsStandIn u) = true := by kernel_rfl
        have hm' : t ∈ [9, 3] := by simp at hm; simp; omega
        exact (show Tryd.prog.wantsStandIn t = false by simpa using List.all_eq_true.1 hall t hm')⟩)
    (by kernel_rfl)
#print axioms tokenSets_card
end
end Go.Proofs.YtcicdiooifjcbaaDoor
