/- graph: Most told (a graph's most marked steps). -/
import Derived.Test.YtghfodjefjijdaaGrMo
import Derived.Test.YtghfodjefjijdaaGrV
import Derived.Test.YtghfodjefjijdaaRegionR
namespace Go.Proofs.Ytghfodjefjijdaa
section
open Go Go.RowKit Go.Shelf
attribute [local go_sem ↓] Go.wp_at_zero Go.wp_at_succ
/-- The things that lead on raise a knot's most. -/
def foldA (κ : Nat → Nat) (k : Nat) (f : Nat → Nat) (mo : Nat → Nat) (l : List Nat) : Nat → Nat := l.foldl (fun mo t => raise mo k (mo (κ (f t)))) mo
def foldM (κ : Nat → Nat) (k : Nat) (f : Nat → Nat) (mo : Nat → Nat) (l : List Nat) : Nat → Nat := l.foldl (fun mo t => raise mo k (mo (κ (f t)) + 1)) mo
theorem foldA_snoc (κ : Nat → Nat) (k : Nat) (f : Nat → Nat) (mo : Nat → Nat) (l : List Nat) (t : Nat) : foldA κ k f mo (l ++ [t]) = raise (foldA κ k f mo l) k (foldA κ k f mo l (κ (f t))) := by
  unfold foldA
  rw [List.foldl_append]
  rfl
theorem foldM_snoc (κ : Nat → Nat) (k : Nat) (f : Nat → Nat) (mo : Nat → Nat) (l : List Nat) (t : Nat) : foldM κ k f mo (l ++ [t]) = raise (foldM κ k f mo l) k (foldM κ k f mo l (κ (f t)) + 1) := by
  unfold foldM
  rw [List.foldl_append]
  rfl
theorem raise_le {mo : Nat → Nat} {k x b : Nat} (h : ∀ j, mo j ≤ b) (hx : x ≤ b) (j : Nat) : raise mo k x j ≤ b := by
  by_cases e : j = k
  · rw [e, raise_same]; exact Nat.max_le.2 ⟨h k, hx⟩
  · rw [raise_other _ _ e]; exact h j
theorem foldA_le (κ : Nat → Nat) (k : Nat) (f : Nat → Nat) {b : Nat} : ∀ (l : List Nat) {mo : Nat → Nat}, (∀ j, mo j ≤ b) → ∀ j, foldA κ k f mo l j ≤ b
  | [], _, h => h
  | _ :: r, _, h => foldA_le κ k f r (raise_le h (h _))
theorem foldM_le (κ : Nat → Nat) (k : Nat) (f : Nat → Nat) : ∀ (l : List Nat) {b : Nat} {mo : Nat → Nat}, (∀ j, mo j ≤ b) → ∀ j, foldM κ k f mo l j ≤ b + l.length
  | [], _, _, h => h
  | t :: r, b, _, h => fun j => by
    have := foldM_le κ k f r (b := b + 1) (raise_le (k := k) (fun j => Nat.le_succ_of_le (h j)) (Nat.succ_le_succ (h (κ (f t))))) j
    rw [List.length_cons]
    show foldM κ k f (raise _ k (_ + 1)) r j ≤ _
    exact Nat.le_trans this (by omega)
theorem foldA_ok {A M : Nat → Nat → Prop} {n : Nat} {κ f : Nat → Nat} {P : Nat → Prop} (hk : KnT A M n κ) {v : Nat} (hP : ∀ u, P u → u < n ∧ κ u ≤ κ v) : ∀ (l : List Nat) {mo : Nat → Nat}, MoI A M n κ P mo → (∀ t ∈ l, A v (f t)) →
    MoI A M n κ P (foldA κ (κ v) f mo l) ∧ (∀ t, mo (κ t) ≤ mo (κ v) → foldA κ (κ v) f mo l (κ t) ≤ foldA κ (κ v) f mo l (κ v)) ∧ (∀ t ∈ l, foldA κ (κ v) f mo l (κ (f t)) ≤ foldA κ (κ v) f mo l (κ v)) ∧ ∀ j, j ≠ κ v → foldA κ (κ v) f mo l j = mo j
  | [], mo, h, _ => ⟨h, fun _ h => h, fun _ h => (by cases h), fun _ _ => rfl⟩
  | t :: r, mo, h, hl => by
    have ih := foldA_ok hk hP r (h.arrow hk hP (hl t (List.mem_cons_self ..))) (fun s hs => hl s (List.mem_cons_of_mem _ hs))
    refine ⟨ih.1, fun s hs => ih.2.1 s (raise_keep hs), fun s hs => ?_, fun j hj => (ih.2.2.2 j hj).trans (raise_other _ _ hj)⟩
    rcases List.mem_cons.1 hs with rfl | hs
    · exact ih.2.1 (f s) raise_new
    · exact ih.2.2.1 s hs
theorem foldM_ok {A M : Nat → Nat → Prop} {n : Nat} {κ f : Nat → Nat} {P : Nat → Prop} (hk : KnT A M n κ) {v : Nat} (hP : ∀ u, P u → u < n ∧ κ u ≤ κ v) : ∀ (l : List Nat) {mo : Nat → Nat}, MoI A M n κ P mo → (∀ t ∈ l, M v (f t) ∧ κ (f t) ≠ κ v) →
    MoI A M n κ P (foldM κ (κ v) f mo l) ∧ (∀ t, mo (κ t) ≤ mo (κ v) → foldM κ (κ v) f mo l (κ t) ≤ foldM κ (κ v) f mo l (κ v)) ∧ (∀ t, κ t < κ v ∧ mo (κ t) + 1 ≤ mo (κ v) → κ t < κ v ∧ foldM κ (κ v) f mo l (κ t) + 1 ≤ foldM κ (κ v) f mo l (κ v)) ∧ (∀ t ∈ l, κ (f t) < κ v ∧ foldM κ (κ v) f mo l (κ (f t)) + 1 ≤ foldM κ (κ v) f mo l (κ v)) ∧ ∀ j, j ≠ κ v → foldM κ (κ v) f mo l j = mo j
  | [], mo, h, _ => ⟨h, fun _ h => h, fun _ h => h, fun _ h => (by cases h), fun _ _ => rfl⟩
  | t :: r, mo, h, hl => by
    obtain ⟨h1, h2⟩ := hl t (List.mem_cons_self ..)
    have h3 := hk.le v (f t) (.inr h1)
    have ih := foldM_ok hk hP r (h.marked hk hP h1 h2) (fun s hs => hl s (List.mem_cons_of_mem _ hs))
    refine ⟨ih.1, fun s hs => ih.2.1 s (raise_keep hs), fun s hs => ih.2.2.1 s (raise_keepM hs), fun s hs => ?_, fun j hj => (ih.2.2.2.2 j hj).trans (raise_other _ _ hj)⟩
    rcases List.mem_cons.1 hs with rfl | hs
    · exact ih.2.2.1 (f s) (raise_newM (by omega))
    · exact ih.2.2.2.1 s hs
/-- A thing is gone through. -/
theorem MoI.thing {A M : Nat → Nat → Prop} {n : Nat} {κ mo : Nat → Nat} {P : Nat → Prop} (h : MoI A M n κ P mo) (hk : KnT A M n κ) {v : Nat} (hP : ∀ u, P u → u < n ∧ κ u ≤ κ v) (f g : Nat → Nat) (l l' : List Nat) (hl : ∀ t ∈ l, A v (f t)) (hl' : ∀ t ∈ l', M v (g t) ∧ κ (g t) ≠ κ v) (ha : ∀ t, A v t → ∃ s ∈ l, f s = t) (hm : ∀ t, M v t → ∃ s ∈ l', g s = t) :
    MoI A M n κ (fun u => P u ∨ u = v) (foldM κ (κ v) g (foldA κ (κ v) f mo l) l') ∧ MoI A M n κ P (foldM κ (κ v) g (foldA κ (κ v) f mo l) l') ∧ ∀ j, j ≠ κ v → foldM κ (κ v) g (foldA κ (κ v) f mo l) l' j = mo j := by
  obtain ⟨h1, h2, h3, h4⟩ := foldA_ok hk hP l h hl
  obtain ⟨k1, k2, k3, k4, k5⟩ := foldM_ok hk hP l' h1 hl'
  refine ⟨⟨k1.at_, k1.le, fun u hu => ?_⟩, k1, fun j hj => (k5 j hj).trans (h4 j hj)⟩
  rcases hu with hu | rfl
  · exact k1.old u hu
  · refine ⟨fun t ht => ?_, fun t ht => ?_⟩
    · obtain ⟨s, hs, rfl⟩ := ha t ht
      exact k2 _ (h3 s hs)
    · obtain ⟨s, hs, rfl⟩ := hm t ht
      exact k4 s hs
set_option maxRecDepth 100000 in
set_option maxHeartbeats 8000000 in
/-- Some mark's thing isn't there. -/
theorem gmost_bad {w : World} {B gb tb n K : Nat} {mp : Nat → Option Nat} {m : Nat → Nat → Bool} {cnt : Nat} (h : GrAt w B gb tb n K mp m cnt) (k c : Nat) (p : Option Addr) (xs ys : Nat → Int) (hp : PairsAt w p k xs ys) (hn : n ≤ 1000) (hk : k ≤ 1000) (hall : allIn n xs ys k = false) :
    Calls Try.prog 15 #[.pointer (some ⟨gb, 0, none⟩), .slice p k c] w fun e w' => e = .returned (.tuple #[.int .i64 0, .bool false]) ∧ Below w.heap.size w w' := by
  have HS := qhid (fun W (hb : Below w.heap.size w W) => gsteps_any (h.up hb) k c p xs ys (hp.up hb) hn hk)
  have HA := qhid hall
  clear h hp hall
  obtain ⟨W1, hW1⟩ : ∃ X, X = (w.alloc (.cells #[.int .i64 0] 3)).alloc (.cells #[.bool false] 4) := ⟨_, rfl⟩
  have b1 : Below w.heap.size w W1 := by rw [hW1]; exact below2 w _ _
  have x1 : Boxed W1 w.heap.size 3 (.int .i64 0) := by rw [hW1]; exact (Boxed.new w 3 _).alloc _
  have r1 : Boxed W1 (w.heap.size + 1) 4 (.bool false) := by
    rw [hW1]
    have := Boxed.new (w.alloc (.cells #[.int .i64 0] 3)) 4 (.bool false)
    rwa [World.size_alloc] at this
  have H1 := qhid (And.intro b1 (And.intro x1 r1))
  have HW1 := qhid hW1
  clear b1 x1 r1 hW1
  refine (callsIn_wide (n := 40)).1 ?_
  refine callsIn_of_wp_marks Try.func15 rfl trivial ?_ rfl
  simp only [Try.ntmps15, List.size_toArray, List.length_cons, List.length_nil, Nat.reduceAdd, Nat.reduceSub, Array.replicate_succ, Array.replicate_zero, List.push_toArray, List.append_toArray, List.nil_append, List.cons_append]
  gi_wp2_with fail
  rw [← HW1.out]
  refine ⟨trivial, ?_⟩
  refine (callsIn_wide.2 (HS.out W1 H1.out.1)).mono ?_
  rintro e w1 ⟨hex, hb⟩
  rcases hex with ⟨h1, _⟩ | ⟨_, rfl⟩
  · rw [HA.out] at h1
    cases h1
  · have hb1 : Below w.heap.size w w1 := H1.out.1.trans (hb.mono H1.out.1.size)
    have x2 : Boxed w1 w.heap.size 3 (.int .i64 0) := heap_up H1.out.2.1 hb
    have r2 : Boxed w1 (w.heap.size + 1) 4 (.bool false) := heap_up H1.out.2.2 hb
    have HB := qhid hb1
    have c1 := x2.cell
    have f1 := x2.frozen
    have c2 := r2.cell
    have f2 := r2.frozen
    have X2 := qhid (x2.set (.int .i64 0))
    have R2 := qhid (r2.set (.bool false))
    have HX := qhid x2
    have HR := qhid r2
    clear hb1 hb x2 r2
    gi_wp2_with fail
    exact ⟨_, results_ib rfl _ _ w.heap.size (w.heap.size + 1) _ _ rfl rfl (HX.out.set (.int .i64 0) |>.other (by omega) (.bool false)).cell ((HR.out.other (by omega) (.int .i64 0)).set (.bool false)).cell, rfl, (HB.out.setCell (p := ⟨w.heap.size, 0, none⟩) (Nat.le_refl _) _).setCell (p := ⟨w.heap.size + 1, 0, none⟩) (Nat.le_succ _) _⟩
theorem grs_two {w : World} {n : Nat} {g g2 : G0} {t : TypeId} (h : GrAt w g.B g.gb g.tb n g.K g.mp g.m g.cnt) (hK : g.K ≤ 1000000) (h2 : GrAt w g2.B g2.gb g2.tb n g2.K g2.mp g2.m g2.cnt) (hK2 : g2.K ≤ 1000000) : GrsAt (w.alloc (.cells #[.pointer (some ⟨g.gb, 0, none⟩), .pointer (some ⟨g2.gb, 0, none⟩)] t)) (w.alloc (.cells #[.pointer (some ⟨g.gb, 0, none⟩), .pointer (some ⟨g2.gb, 0, none⟩)] t)).heap.size n w.heap.size [g, g2] := by
  refine ⟨by rw [World.size_alloc]; omega, fun j g' hj => ?_⟩
  have hb := below1 w (.cells #[.pointer (some ⟨g.gb, 0, none⟩), .pointer (some ⟨g2.gb, 0, none⟩)] t)
  rcases j with _ | _ | j
  · obtain rfl : g = g' := by simpa using hj
    have e := h.up hb
    exact ⟨cell_two_at _ _ _ _ 0 _ rfl, e, e.lt, hK⟩
  · obtain rfl : g2 = g' := by simpa using hj
    have e := h2.up hb
    exact ⟨cell_two_at _ _ _ _ 1 _ rfl, e, e.lt, hK2⟩
  · simp at hj
theorem es_two {g g2 : G0} {u v : Nat} : Es [g, g2] u v ↔ g.m u v = true ∨ g2.m u v = true := by simp [Es]
/-- What lies there while Most goes on. -/
structure MoS (W : World) (n ra b8 b10 sb kb q mb gb sg : Nat) (dv : Value) (m m2 : Nat → Nat → Bool) (s : Sk) : Prop where
  r1 : Boxed W ra 3 (.int .i64 0) ∧ ra ≠ mb
  r2 : Boxed W (ra + 1) 4 (.bool false) ∧ ra + 1 ≠ mb
  b8 : Boxed W b8 51 (.pointer (some ⟨sb, 0, none⟩)) ∧ b8 ≠ mb
  b10 : Boxed W b10 30 (.slice (some ⟨mb, 0, none⟩) q q) ∧ b10 ≠ mb
  kn : Vec W kb 3 n (fun i => .int .i64 (s.kn i)) ∧ kb ≠ mb
  sk : (∃ o, W.heap[sb]? = some (.cells o 57 (0, 0)) ∧ o[7]? = some (.slice (some ⟨kb, 0, none⟩) n n) ∧ o[8]? = some dv) ∧ sb ≠ mb
  dn : W.ownsRow 0 3 1 dv s.done.length (intsV s.done) ∧ dv.ownBlock ≠ some mb
  gr : ∃ B tb K mp c, K ≤ 1000000 ∧ GrAt W B gb tb n K mp m c ∧ mb ≠ gb ∧ mb ≠ tb ∧ ∀ i b, i < n → mp i = some b → mb ≠ b
  sg : ∃ B tb K mp c, K ≤ 1000000 ∧ GrAt W B sg tb n K mp m2 c ∧ mb ≠ sg ∧ mb ≠ tb ∧ ∀ i b, i < n → mp i = some b → mb ≠ b
theorem MoS.at_ {W W' : World} {n ra b8 b10 sb kb q mb gb sg : Nat} {dv : Value} {m m2 : Nat → Nat → Bool} {s : Sk} (h : MoS W n ra b8 b10 sb kb q mb gb sg dv m m2 s) (hg : W.grownBy W' (some mb)) : MoS W' n ra b8 b10 sb kb q mb gb sg dv m m2 s where
  r1 := ⟨h.r1.1.kept hg (fun e => h.r1.2 (Option.some.inj e)), h.r1.2⟩
  r2 := ⟨h.r2.1.kept hg (fun e => h.r2.2 (Option.some.inj e)), h.r2.2⟩
  b8 := ⟨h.b8.1.kept hg (fun e => h.b8.2 (Option.some.inj e)), h.b8.2⟩
  b10 := ⟨h.b10.1.kept hg (fun e => h.b10.2 (Option.some.inj e)), h.b10.2⟩
  kn := ⟨heap_kept h.kn.1 hg (fun e => h.kn.2 (Option.some.inj e)), h.kn.2⟩
  sk := by
    obtain ⟨⟨o, h1, h2⟩, h3⟩ := h.sk
    exact ⟨⟨o, heap_kept h1 hg (fun e => h3 (Option.some.inj e)), h2⟩, h3⟩
  dn := ⟨ownsKeep h.dn.1 hg (fun g e e2 => h.dn.2 (by rw [e, ← e2])), h.dn.2⟩
  gr := by
    obtain ⟨B, tb, K, mp, c, h1, h2, h3, h4, h5⟩ := h.gr
    exact ⟨B, tb, K, mp, c, h1, h2.kept hg (fun r e => by cases e; exact ⟨h3, h4, h5⟩), h3, h4, h5⟩
  sg := by
    obtain ⟨B, tb, K, mp, c, h1, h2, h3, h4, h5⟩ := h.sg
    exact ⟨B, tb, K, mp, c, h1, h2.kept hg (fun r e => by cases e; exact ⟨h3, h4, h5⟩), h3, h4, h5⟩
theorem row_end {w : World} {B q e : Nat} {zs : List Value} {n : Nat} {p : Option Addr} {k c : Nat} (h : w.ownsRow B e q (.slice p k c) n zs) : k = n := by
  obtain ⟨b, c', e2⟩ := any_slice h
  injection e2
def kap (s : Sk) (v : Nat) : Nat := (s.kn v).toNat
def DoneTo (s : Sk) (i u : Nat) : Prop := ∃ j, j < i ∧ s.done[j]? = some u
/-- Most, as it goes through the things. -/
structure MoL (W0 : World) (A M : Nat → Nat → Prop) (n q mb : Nat) (s : Sk) (i b : Nat) (ml : List Nat) (W : World) : Prop where
  g : W0.grownBy W (some mb)
  v : ∃ mo : Nat → Nat, Vec W mb 3 q (fun j => .int .i64 (mo j : Int)) ∧ MoI A M n (kap s) (DoneTo s i) mo ∧ BeI A M n (kap s) mo (DoneTo s i) b
  ms : MarksAt W0.heap.size ml W
theorem MoI.congr {A M : Nat → Nat → Prop} {n : Nat} {κ mo : Nat → Nat} {P Q : Nat → Prop} (h : MoI A M n κ P mo) (hPQ : ∀ u, Q u → P u) : MoI A M n κ Q mo := ⟨h.at_, h.le, fun u hu => h.old u (hPQ u hu)⟩
theorem BeI.congr {A M : Nat → Nat → Prop} {n b : Nat} {κ mo : Nat → Nat} {P Q : Nat → Prop} (h : BeI A M n κ mo P b) (hPQ : ∀ u, Q u → P u) : BeI A M n κ mo Q b := ⟨h.at_, fun u hu => h.up u (hPQ u hu), h.le⟩
theorem MoL.start {W0 : World} {A M : Nat → Nat → Prop} {n q mb : Nat} {s : Sk} (h : Vec W0 mb 3 q (fun _ => .int .i64 ((0 : Nat) : Int))) : MoL W0 A M n q mb s 0 0 [] W0 :=
  ⟨World.grownBy.refl _ _, ⟨fun _ => 0, h, MoI.start.congr (fun _ ⟨_, h, _⟩ => Nat.not_lt_zero _ h), ⟨.inl rfl, fun _ _ => Nat.le_refl _, Nat.zero_le _⟩⟩, MarksAt.nil _ _⟩
theorem doneTo_succ {s : Sk} {i v u : Nat} (hv : s.done[i]? = some v) : DoneTo s (i + 1) u → DoneTo s i u ∨ u = v := by
  rintro ⟨j, hj, e⟩
  rcases Nat.lt_succ_iff_lt_or_eq.1 hj with hj | rfl
  · exact .inl ⟨j, hj, e⟩
  · rw [hv] at e
    exact .inr (Option.some.inj e).symm
theorem doneTo_le {A M : Nat → Nat → Prop} {n : Nat} {s : Sk} (h : Tied (AM A M) n s) {i v : Nat} (hv : s.done[i]? = some v) (u : Nat) (hu : DoneTo s i u) : u < n ∧ kap s u ≤ kap s v := by
  obtain ⟨j, hj, e⟩ := hu
  refine ⟨(h.dn u).1 (List.mem_of_getElem? e), ?_⟩
  have h1 := List.pairwise_iff_getElem.1 h.dsrt j i (List.getElem?_eq_some_iff.1 e).1 (List.getElem?_eq_some_iff.1 hv).1 hj
  rw [(List.getElem?_eq_some_iff.1 e).2, (List.getElem?_eq_some_iff.1 hv).2] at h1
  unfold kap
  omega
theorem Tied.knt {A M : Nat → Nat → Prop} {n : Nat} {s : Sk} (h : Tied (AM A M) n s) (hb : ∀ u t, AM A M u t → u < n ∧ t < n) : KnT A M n (kap s) where
  bd := hb
  le u t e := by
    have := h.le u t (hb u t e).1 (.one e)
    unfold kap
    omega
  rch u t hu ht e := by
    have h1 := h.kn u hu
    have h2 := h.kn t ht
    unfold kap at e
    exact h.rch u t hu (by omega)
  lt u hu := by
    have h1 := h.kn u hu
    have h2 := h.ks
    unfold kap
    omega
theorem kap_int {A M : Nat → Nat → Prop} {n : Nat} {s : Sk} (h : Tied (AM A M) n s) {v : Nat} (hv : v < n) : s.kn v = (kap s v : Int) ∧ kap s v < s.knots := by
  have h1 := h.kn v hv
  unfold kap
  omega
/-- Most, as it goes through what one thing leads to. -/
structure MoJ (W0 : World) (q mb b13 κ : Nat) (ml : List Nat) (mo : Nat → Nat) (X : World) : Prop where
  g : W0.grownBy X (some mb)
  v : Vec X mb 3 q (fun j => .int .i64 (mo j : Int))
  b : Boxed X b13 3 (.int .i64 (κ : Int))
  ms : MarksAt W0.heap.size ml X
theorem MoJ.kept {W0 X Y : World} {q mb b13 κ : Nat} {ml : List Nat} {mo : Nat → Nat} {row : Option Nat} (h : MoJ W0 q mb b13 κ ml mo X) (hg : X.grownBy Y row) (hr : ∀ r, row = some r → W0.heap.size ≤ r ∧ r ≠ mb ∧ r ≠ b13 ∧ r ∉ ml) : MoJ W0 q mb b13 κ ml mo Y where
  g := h.g.andThen hg (fun j e => .inl (hr j e).1)
  v := heap_kept h.v hg (fun e => (hr mb e.symm).2.1 rfl)
  b := h.b.kept hg (fun e => (hr b13 e.symm).2.2.1 rfl)
  ms := ⟨h.ms.nd, fun D hD => ⟨(h.ms.at_ D hD).1, heap_kept (h.ms.at_ D hD).2 hg (fun e => (hr D e.symm).2.2.2 hD)⟩⟩
theorem MoJ.up {W0 X Y : World} {q mb b13 κ : Nat} {ml : List Nat} {mo : Nat → Nat} (h : MoJ W0 q mb b13 κ ml mo X) (hb : Below X.heap.size X Y) : MoJ W0 q mb b13 κ ml mo Y := h.kept (grown_below none hb) (fun r e => by cases e)
theorem MoJ.own {W0 : World} {q mb b13 κ C : Nat} {ml : List Nat} {F : List Nat → Nat → Nat} (h0 : W0.heap.size ≤ C) (h1 : mb < C) (h2 : b13 < C) (h3 : ∀ D ∈ ml, D < C) : OwnFrom C (fun pre X => MoJ W0 q mb b13 κ ml (F pre) X) := fun pre X Y row h hg hr =>
  h.kept hg (fun r e => by
    have h4 := (hr r e).1
    exact ⟨by omega, by omega, by omega, fun hD => by have := h3 r hD; omega⟩)
theorem MoJ.put {W0 X : World} {q mb b13 κ k x : Nat} {ml : List Nat} {mo : Nat → Nat} (h : MoJ W0 q mb b13 κ ml mo X) (hne : b13 ≠ mb) : MoJ W0 q mb b13 κ ml (raise mo k x) (X.setCell ⟨mb, k, none⟩ (.int .i64 ((max (mo k) x : Nat) : Int))) := by
  have e : vl q (upd (fun j => Value.int .i64 (mo j : Int)) k (.int .i64 ((max (mo k) x : Nat) : Int))) = vl q (fun j => Value.int .i64 (raise mo k x j : Int)) := vl_congr (fun j _ => by
    by_cases e : j = k
    · rw [e, upd_same, raise_same]
    · rw [upd_other _ _ e, raise_other _ _ e])
  exact ⟨h.g.trans (set_grown _ _ _ _), (h.v.set k _).trans (by rw [e]), heap_set_other _ h.b hne, h.ms.grown (set_grown _ _ _ _) (fun r e => by cases e; exact ⟨_, h.v, rfl⟩)⟩
theorem drew_keeps (X : World) (a : Addr) (v : Value) : KeepsOthers X ((X.setCell a v).drew) := ⟨(KeepsOthers.setCell X a v).size, (KeepsOthers.setCell X a v).same⟩
theorem MoI.lt {A M : Nat → Nat → Prop} {n : Nat} {κ mo : Nat → Nat} {P : Nat → Prop} (h : MoI A M n κ P mo) (hk : KnT A M n κ) (j : Nat) : mo j ≤ n := by
  rcases h.at_ j with e | ⟨u, hu, e, _⟩
  · omega
  · have := h.le j
    have := hk.lt u hu
    omega
/-- A thing that is led to; without one the thing itself. -/
def sucOr (m : Nat → Nat → Bool) (v x : Nat) : Nat := if m v x then x else v
theorem sucOr_yes {m : Nat → Nat → Bool} {v x : Nat} (h : m v x = true) : sucOr m v x = x := if_pos h
theorem sucOr_lt {m : Nat → Nat → Bool} {n v x : Nat} (hb : ∀ i j, m i j = true → i < n ∧ j < n) (hv : v < n) : sucOr m v x < n := by
  unfold sucOr
  split
  case isTrue h => exact (hb v x h).2
  case isFalse => exact hv
/-- What Most leaves where it ends. -/
structure RetI (w : World) (ra : Nat) (u v : Value) (X : World) : Prop where
  r1 : Boxed X ra 3 u
  r2 : Boxed X (ra + 1) 4 v
  be : Below ra w X
theorem RetI.kept {w X Y : World} {ra : Nat} {u v : Value} {row : Option Nat} (h : RetI w ra u v X) (hg : X.grownBy Y row) (hr : ∀ r, row = some r → ra + 1 < r) : RetI w ra u v Y where
  r1 := h.r1.kept hg (fun e => by have := hr ra e.symm; omega)
  r2 := h.r2.kept hg (fun e => by have := hr (ra + 1) e.symm; omega)
  be := h.be.grown hg (by have := h.r1.lt; omega) (fun k e => by have := hr k e; omega)
theorem RetI.set {w X : World} {ra : Nat} {u v u' v' : Value} (h : RetI w ra u v X) : RetI w ra u' v' ((X.setCell ⟨ra, 0, none⟩ u').setCell ⟨ra + 1, 0, none⟩ v') where
  r1 := (h.r1.set u').other (by omega) v'
  r2 := (h.r2.other (by omega) u').set v'
  be := (h.be.setCell (p := ⟨ra, 0, none⟩) (Nat.le_refl _) _).setCell (p := ⟨ra + 1, 0, none⟩) (Nat.le_succ _) _
theorem RetI.drew {w X : World} {ra : Nat} {u v : Value} (h : RetI w ra u v X) : RetI w ra u v X.drew := ⟨h.r1, h.r2, h.be.drew⟩
theorem MarksAt.set2 {B : Nat} {L : List Nat} {X : World} {ra : Nat} {t1 t2 : TypeId} {u v u' v' : Value} (h : MarksAt B L X) (h1 : Boxed X ra t1 u) (h2 : Boxed X (ra + 1) t2 v) : MarksAt B L ((X.setCell ⟨ra, 0, none⟩ u').setCell ⟨ra + 1, 0, none⟩ v') :=
  (h.grown (set_grown X ra 0 u') (fun r e => by cases e; exact ⟨_, h1, rfl⟩)).grown (set_grown _ (ra + 1) 0 v') (fun r e => by cases e; exact ⟨_, h2.other (by omega) u', rfl⟩)
theorem keeps_set2 (X : World) (a b : Addr) (u v : Value) : KeepsOthers X ((X.setCell a u).setCell b v).drew := ⟨((KeepsOthers.setCell X a u).trans (KeepsOthers.setCell _ b v)).size, ((KeepsOthers.setCell X a u).trans (KeepsOthers.setCell _ b v)).same⟩
attribute [local go_sem] Oper.semAt_some
/-- .. and its frame. -/
def MostR (n ra b8 bw sb q gb sg k c : Nat) (p dp : Option Addr) (dc : Nat) (A M : Nat → Nat → Prop) (s : Sk) (W0 : World) (r : Nat) (a : Act) (W : World) : Prop :=
  ∃ (i b : Nat) (ml : List Nat) (u12 u13 u14 u15 u43 u44 u45 u46 u47 u48 u49 u50 u51 u52 u53 u54 u55 u56 u57 u58 u59 u60 u61 u62 u63 u64 u65 u66 u67 u68 u69 u70 u71 u72 u73 u74 u75 u76 u77 u78 u79 u80 u81 u82 u83 u84 u85 u86 u87 u88 u89 u90 u91 u92 u93 u94 u95 u96 u97 u98 u99 u100 u101 u102 u103 u104 u105 u106 u107 u108 u109 u110 u111 u112 u113 : Value), i + r = s.done.length ∧ a = { tmps := List.toArray (.pointer (some ⟨gb, 0, none⟩) :: .slice p k c :: undef :: undef :: .pointer (some ⟨ra, 0, none⟩) :: .pointer (some ⟨ra + 1, 0, none⟩) :: .pointer (some ⟨sg, 0, none⟩) :: .bool true :: .pointer (some ⟨b8, 0, none⟩) :: .int .i64 (b : Int) :: .pointer (some ⟨b8 + 1 + 1, 0, none⟩) :: undef :: u12 :: u13 :: u14 :: u15 :: .pointer (some ⟨gb, 0, none⟩) :: .bool false :: .tuple #[.pointer (some ⟨sg, 0, none⟩), .bool true] :: .pointer (some ⟨gb, 0, none⟩) :: .slice p k c :: .tuple #[.pointer (some ⟨sg, 0, none⟩), .bool true] :: .pointer (some ⟨sg, 0, none⟩) :: .bool true :: .bool true :: .bool false :: .pointer (some ⟨gb, 0, none⟩) :: .int .i64 (n : Int) :: .pointer (some ⟨gb, 0, none⟩) :: .pointer (some ⟨sg, 0, none⟩) :: .slice (some ⟨bw, 0, none⟩) 2 2 :: .pointer (some ⟨sb, 0, none⟩) :: .pointer (some ⟨sb, 0, none⟩) :: .pointer (some ⟨sb, 0, none⟩) :: .pointer (some ⟨sb, 6, none⟩) :: .int .i64 (q : Int) :: .slice (some ⟨b8 + 1, 0, none⟩) q q :: .pointer (some ⟨sb, 0, none⟩) :: .pointer (some ⟨sb, 0, none⟩) :: .pointer (some ⟨sb, 8, none⟩) :: .slice dp s.done.length dc :: .int .i64 (s.done.length : Int) :: .int .i64 (i : Int) :: u43 :: u44 :: u45 :: u46 :: u47 :: u48 :: u49 :: u50 :: u51 :: u52 :: u53 :: u54 :: u55 :: u56 :: u57 :: u58 :: u59 :: u60 :: u61 :: u62 :: u63 :: u64 :: u65 :: u66 :: u67 :: u68 :: u69 :: u70 :: u71 :: u72 :: u73 :: u74 :: u75 :: u76 :: u77 :: u78 :: u79 :: u80 :: u81 :: u82 :: u83 :: u84 :: u85 :: u86 :: u87 :: u88 :: u89 :: u90 :: u91 :: u92 :: u93 :: u94 :: u95 :: u96 :: u97 :: u98 :: u99 :: u100 :: u101 :: u102 :: u103 :: u104 :: u105 :: u106 :: u107 :: u108 :: u109 :: u110 :: u111 :: u112 :: u113 :: undef :: []), defers := ml.map mk1 } ∧ MoL W0 A M n q (b8 + 1) s i b ml W
set_option maxRecDepth 100000 in
set_option maxHeartbeats 8000000 in
theorem gmost_ok {w : World} {B gb tb n K : Nat} {mp : Nat → Option Nat} {m : Nat → Nat → Bool} {cnt : Nat} (h : GrAt w B gb tb n K mp m cnt) (k c : Nat) (p : Option Addr) (xs ys : Nat → Int) (hp : PairsAt w p k xs ys) (hn : n ≤ 1000) (hk : k ≤ 1000) (hK : K ≤ 1000000) (hall : allIn n xs ys k = true) :
    Calls Try.prog 15 #[.pointer (some ⟨gb, 0, none⟩), .slice p k c] w fun e w' => ∃ r ok, e = .returned (.tuple #[.int .i64 (r : Nat), .bool ok]) ∧ Below w.heap.size w w' ∧ MostTo (Em m) (Em (mOf n xs ys k)) n r ok := by
  have HS := qhid (fun W (hb : Below w.heap.size w W) => gsteps_any (h.up hb) k c p xs ys (hp.up hb) hn hk)
  have HA := qhid hall
  have HG := qhid h
  clear h hp hall
  obtain ⟨W1, hW1⟩ : ∃ X, X = (w.alloc (.cells #[.int .i64 0] 3)).alloc (.cells #[.bool false] 4) := ⟨_, rfl⟩
  have b1 : Below w.heap.size w W1 := by rw [hW1]; exact below2 w _ _
  have x1 : Boxed W1 w.heap.size 3 (.int .i64 0) := by rw [hW1]; exact (Boxed.new w 3 _).alloc _
  have r1 : Boxed W1 (w.heap.size + 1) 4 (.bool false) := by
    rw [hW1]
    have := Boxed.new (w.alloc (.cells #[.int .i64 0] 3)) 4 (.bool false)
    rwa [World.size_alloc] at this
  have H1 := qhid (And.intro b1 (And.intro x1 r1))
  have HW1 := qhid hW1
  clear b1 x1 r1 hW1
  refine (callsIn_wide (n := 40)).1 ?_
  refine callsIn_of_wp_marks Try.func15 rfl trivial ?_ rfl
  simp only [Try.ntmps15, List.size_toArray, List.length_cons, List.length_nil, Nat.reduceAdd, Nat.reduceSub, Array.replicate_succ, Array.replicate_zero, List.push_toArray, List.append_toArray, List.nil_append, List.cons_append]
  gi_wp2_with fail
  rw [← HW1.out]
  refine ⟨trivial, ?_⟩
  refine (callsIn_wide.2 (HS.out W1 H1.out.1)).mono ?_
  rintro e w1 ⟨hex, hb⟩
  rcases hex with ⟨_, sg, stb, sK, smp, rfl, hsK, hsg⟩ | ⟨h1, _⟩
  case inr =>
    rw [HA.out] at h1
    cases h1
  obtain ⟨m2, hm2⟩ : ∃ m2, m2 = mOf n xs ys k := ⟨_, rfl⟩
  obtain ⟨c2, hc2⟩ : ∃ c2, c2 = cOf n xs ys k := ⟨_, rfl⟩
  rw [← hm2, ← hc2] at hsg
  have HM2 := qhid hm2
  clear hm2 hc2 HS HA
  have hb1 : Below w.heap.size w w1 := H1.out.1.trans (hb.mono H1.out.1.size)
  have HG1 := qhid (HG.out.up hb1)
  have HX := qhid (And.intro (show Boxed w1 w.heap.size 3 (.int .i64 0) from heap_up H1.out.2.1 hb) (show Boxed w1 (w.heap.size + 1) 4 (.bool false) from heap_up H1.out.2.2 hb))
  have HB1 := qhid hb1
  have HSG := qhid hsg
  have HL := qhid (glen_any HG1.out)
  obtain ⟨ra, hra⟩ : ∃ b, b = w.heap.size := ⟨_, rfl⟩
  rw [← hra] at HX ⊢
  have HRA := qhid hra
  clear hb hb1 hsg H1 HW1 HG hra
  gi_wp2_with fail
  refine ⟨trivial, ?_⟩
  refine (callsIn_wide.2 HL.out).mono ?_
  rintro e wx ⟨rfl, hw⟩
  obtain rfl : w1 = wx := hw.symm
  clear hw HL
  have hgs := grs_two (t := 24) (g := G0.mk B gb tb K mp m cnt) (g2 := G0.mk W1.heap.size sg stb sK smp m2 c2) HG1.out hK HSG.out (show sK ≤ 1000000 by omega)
  have HSK := qhid (gseek_any w1.heap.size 2 [G0.mk B gb tb K mp m cnt, G0.mk W1.heap.size sg stb sK smp m2 c2] hgs hn (by simp) (fun u v e => (es_two.1 e).elim (fun e => (HG1.out.bd u v e).2) (fun e => (HSG.out.bd u v e).2)))
  clear hgs
  gi_wp2_with fail
  refine ⟨trivial, ?_⟩
  refine (callsIn_wide.2 HSK.out).mono ?_
  rintro e w2 ⟨r, rfl, ⟨⟨sb, mb0, lb, kb, s, pv, ov, dv, rfl, hs, ht⟩, hb⟩⟩
  have hb2 : Below w1.heap.size w1 w2 := (below1 w1 _).trans (hb.mono (by rw [World.size_alloc]; omega))
  have HT := qhid ht
  have HS := qhid hs
  have HB2 := qhid hb2
  have HG2 := qhid (HG1.out.up hb2)
  have HSG2 := qhid (HSG.out.up hb2)
  have HX2 := qhid (And.intro (show Boxed w2 ra 3 (.int .i64 0) from heap_up HX.out.1 hb2) (show Boxed w2 (ra + 1) 4 (.bool false) from heap_up HX.out.2 hb2))
  clear hb hb2 hs ht HSK HG1 HSG HX
  obtain ⟨_, _, _, _, _, _, c6, c7, c8⟩ := HS.out.cells
  have hsl := Reg.size_of_get HS.out.sk
  obtain ⟨q, hqe⟩ : ∃ q, q = s.knots := ⟨_, rfl⟩
  have hq : q ≤ 1000 := by have := HT.out.ks; omega
  rw [← hqe] at c6
  have hmk := mk_vec q (by omega) (w2.alloc (.cells #[.pointer (some ⟨sb, 0, none⟩)] 51))
  have HQ := qhid hqe
  obtain ⟨dp, dc, hdv⟩ := any_slice HS.out.dr
  subst hdv
  clear hqe
  gi_upto_region 9 with fail
  clear hmk c6 c7 hsl
  have c8k := HS.out.sk
  have hbl : Below w2.heap.size w2 (((w2.alloc (.cells #[.pointer (some ⟨sb, 0, none⟩)] 51)).alloc (.cells (vl q fun _ => .int .i64 0) 3)).alloc (.cells #[.slice (some ⟨w2.heap.size + 1, 0, none⟩) q q] 30)) := (below2 w2 _ _).alloc (by simp; omega) _
  have hz2 := HX2.out.2.lt
  have hk2 := HS.out.kn.lt
  have hs2 := Reg.size_of_get HS.out.sk
  have hd2 : ∀ g, Value.ownBlock (.slice dp s.done.length dc) = some g → g < w2.heap.size := fun g e => (ownsLt HS.out.dr e).2
  have HB0 : Hid (Below ra w (((w2.alloc (.cells #[.pointer (some ⟨sb, 0, none⟩)] 51)).alloc (.cells (vl q fun _ => .int .i64 0) 3)).alloc (.cells #[.slice (some ⟨w2.heap.size + 1, 0, none⟩) q q] 30))) := qhid (by
    have e1 := HB1.out
    rw [← HRA.out] at e1
    exact (e1.trans (HB2.out.mono (by rw [HRA.out]; exact HB1.out.size))).trans (hbl.mono (by omega)))
  have HM0 : Hid (MoS (((w2.alloc (.cells #[.pointer (some ⟨sb, 0, none⟩)] 51)).alloc (.cells (vl q fun _ => .int .i64 0) 3)).alloc (.cells #[.slice (some ⟨w2.heap.size + 1, 0, none⟩) q q] 30)) n ra w2.heap.size (w2.heap.size + 1 + 1) sb kb q (w2.heap.size + 1) gb sg (.slice dp s.done.length dc) m m2 s) := qhid {
    r1 := ⟨heap_up HX2.out.1 hbl, by omega⟩
    r2 := ⟨heap_up HX2.out.2 hbl, by omega⟩
    b8 := ⟨((Boxed.new w2 _ _).alloc _).alloc _, by omega⟩
    b10 := ⟨by
      have := Boxed.new ((w2.alloc (.cells #[.pointer (some ⟨sb, 0, none⟩)] 51)).alloc (.cells (vl q fun _ => .int .i64 0) 3)) 30 (.slice (some ⟨w2.heap.size + 1, 0, none⟩) q q)
      rwa [World.size_alloc, World.size_alloc] at this, by omega⟩
    kn := ⟨heap_up HS.out.kn hbl, by omega⟩
    sk := ⟨⟨_, heap_up HS.out.sk hbl, rfl, rfl⟩, by omega⟩
    dn := ⟨ownsMono (ownsBelow HS.out.dr hbl) (Nat.zero_le _), fun e => by have := hd2 _ e; omega⟩
    gr := ⟨B, tb, K, mp, cnt, hK, HG2.out.up hbl, by have := HG2.out.lt.1; omega, by have := HG2.out.lt.2.1; omega, fun i b hi e => by have := HG2.out.lt.2.2 i b hi e; omega⟩
    sg := ⟨W1.heap.size, stb, sK, smp, c2, by omega, HSG2.out.up hbl, by have := HSG2.out.lt.1; omega, by have := HSG2.out.lt.2.1; omega, fun i b hi e => by have := HSG2.out.lt.2.2 i b hi e; omega⟩ }
  have HV0 : Hid (Vec (((w2.alloc (.cells #[.pointer (some ⟨sb, 0, none⟩)] 51)).alloc (.cells (vl q fun _ => .int .i64 0) 3)).alloc (.cells #[.slice (some ⟨w2.heap.size + 1, 0, none⟩) q q] 30)) (w2.heap.size + 1) 3 q (fun _ => .int .i64 ((0 : Nat) : Int))) := qhid (heap_up (by
    have := heap_new (w2.alloc (.cells #[.pointer (some ⟨sb, 0, none⟩)] 51)) (.cells (vl q fun _ => .int .i64 0) 3)
    rw [World.size_alloc] at this
    exact this) (below1 _ _))
  obtain ⟨W0, hW0⟩ : ∃ X, X = ((w2.alloc (.cells #[.pointer (some ⟨sb, 0, none⟩)] 51)).alloc (.cells (vl q fun _ => .int .i64 0) 3)).alloc (.cells #[.slice (some ⟨w2.heap.size + 1, 0, none⟩) q q] 30) := ⟨_, rfl⟩
  rw [← hW0] at HB0 HM0 HV0 ⊢
  obtain ⟨b8, hb8⟩ : ∃ b, b = w2.heap.size := ⟨_, rfl⟩
  rw [← hb8] at HM0 HV0 ⊢
  obtain ⟨bw, hbw⟩ : ∃ b, b = w1.heap.size := ⟨_, rfl⟩
  rw [← hbw]
  have HQ2 := qhid (show ra + 1 < b8 by omega)
  clear hbl hz2 hk2 hs2 hd2 c8k hW0 hb8 hbw HS HB2 HG2 HSG2 HX2 HB1 c8
  have c8 := HM0.out.b8.1.cell
  obtain ⟨⟨o, ho, ho7, ho8⟩, _⟩ := HM0.out.sk
  have c88 := (Joins.cell_of_block ho 8).trans ho8
  have hsl := Reg.size_of_get ho
  clear ho ho7 ho8
  gi_wp2_with fail
  have hE : Es [G0.mk B gb tb K mp m cnt, G0.mk W1.heap.size sg stb sK smp m2 c2] = AM (Em m) (Em m2) := by
    funext u v
    exact propext es_two
  have ht := HT.out
  rw [hE] at ht
  have HTI := qhid ht
  have HKN := qhid (ht.knt (fun u t e => by
    rcases e with e | e
    · obtain ⟨_, _, _, _, _, _, h1, _⟩ := HM0.out.gr
      exact h1.bd u t e
    · obtain ⟨_, _, _, _, _, _, h1, _⟩ := HM0.out.sg
      exact h1.bd u t e))
  have hdl : s.done.length ≤ 1000 := Nat.le_trans (nodup_len n s.done ht.dnd (fun x hx => (ht.dn x).1 hx)) hn
  have HML := qhid (MoL.start (A := Em m) (M := Em m2) (n := n) (s := s) HV0.out)
  have HW0 := qhid (Nat.lt_of_lt_of_le HQ2.out (Nat.le_of_lt HM0.out.b8.1.lt))
  have HMB := qhid HV0.out.lt
  clear ht hE HT HV0 c8 c88 hsl
  refine wpIn_loopM (MostR n ra b8 bw sb q gb sg k c p dp dc (Em m) (Em m2) s W0) s.done.length ?_ ?_
  · exact ⟨0, 0, [], undef, undef, undef, undef, undef, undef, undef, undef, undef, undef, undef, undef, undef, undef, undef, undef, undef, undef, undef, undef, undef, undef, undef, undef, undef, undef, undef, undef, undef, undef, undef, undef, undef, undef, undef, undef, undef, undef, undef, undef, undef, undef, undef, undef, undef, undef, undef, undef, undef, undef, undef, undef, undef, undef, undef, undef, undef, undef, undef, undef, undef, undef, undef, undef, undef, undef, undef, undef, undef, undef, undef, undef, undef, undef, undef, Nat.zero_add _, rfl, HML.out⟩
  · rintro r a W ⟨i, b, ml, u12, u13, u14, u15, u43, u44, u45, u46, u47, u48, u49, u50, u51, u52, u53, u54, u55, u56, u57, u58, u59, u60, u61, u62, u63, u64, u65, u66, u67, u68, u69, u70, u71, u72, u73, u74, u75, u76, u77, u78, u79, u80, u81, u82, u83, u84, u85, u86, u87, u88, u89, u90, u91, u92, u93, u94, u95, u96, u97, u98, u99, u100, u101, u102, u103, u104, u105, u106, u107, u108, u109, u110, u111, u112, u113, hir, rfl, hI⟩
    have HI := qhid hI
    have HIR := qhid hir
    clear hI HML
    by_cases hil : i < s.done.length
    · have hdl1 : decide ((i : Int) < (s.done.length : Int)) = true := decide_eq_true (by omega)
      have hM := HM0.out.at_ HI.out.g
      obtain ⟨v, hv⟩ : ∃ v, s.done[i]? = some v := ⟨_, List.getElem?_eq_getElem hil⟩
      obtain ⟨g, cap, hdp, _, hgl, hgc⟩ := row_form hM.dn.1 (by omega)
      injection hdp with hdp _ hdc
      subst hdp
      subst hdc
      have c40 := hgc i v hv
      have hvn : v < n := (HTI.out.dn v).1 (List.mem_of_getElem? hv)
      obtain ⟨hkv, hkq⟩ := kap_int HTI.out hvn
      rw [← HQ.out] at hkq
      have ckn := hM.kn.1.cell hvn
      rw [hkv] at ckn
      obtain ⟨κ, hκ⟩ : ∃ x, x = kap s v := ⟨_, rfl⟩
      rw [← hκ] at ckn hkq
      have c8 := hM.b8.1.cell
      obtain ⟨⟨o, ho, ho7, ho8⟩, _⟩ := hM.sk
      have c87 := (Joins.cell_of_block ho 7).trans ho7
      have hsl := Reg.size_of_get ho
      have HV := qhid hv
      have HK := qhid hκ
      have HVN := qhid hvn
      clear ho ho7 ho8 hgc hv hκ hkv hir hM
      gi_wp2_with fail
      refine ⟨trivial, ?_⟩
      have HJA : Hid (∀ mo, Vec W (b8 + 1) 3 q (fun j => .int .i64 (mo j : Int)) → MoJ W0 q (b8 + 1) W.heap.size κ ml mo (W.alloc (.cells #[.int .i64 (κ : Int)] 3))) := qhid (fun mo hv => by
        have hb := below1 W (.cells #[.int .i64 (κ : Int)] 3)
        exact ⟨HI.out.g.andThen (grown_below none hb) (fun j e => by cases e), heap_up hv hb, Boxed.new W _ _, HI.out.ms.grown (grown_below none hb) (fun r e => by cases e)⟩)
      obtain ⟨mo, hvec, hmo, hbe⟩ := HI.out.v
      have HJA2 := qhid (HJA.out mo hvec)
      have HMO := qhid hmo
      have HBE := qhid hbe
      have hb13 : W.heap.size ≠ b8 + 1 := by have := hvec.lt; omega
      obtain ⟨Wa, hWa⟩ : ∃ X, X = W.alloc (.cells #[.int .i64 (κ : Int)] 3) := ⟨_, rfl⟩
      rw [← hWa] at HJA2 ⊢
      obtain ⟨b13, hb13e⟩ : ∃ b, b = W.heap.size := ⟨_, rfl⟩
      rw [← hb13e] at HJA2 hb13 ⊢
      have HB13 := qhid hb13
      clear hWa hvec hmo hbe HJA HI hb13e c40 ckn c8 c87 hsl hb13
      refine (callsIn_wide.2 (gnext_any _ _ Wa)).mono ?_
      rintro e W5 ⟨rfl, hW5⟩
      obtain ⟨z5, b5, bg, bn⟩ := spread_world hW5
      have HJ5 := qhid (HJA2.out.up b5)
      have hM5 := HM0.out.at_ HJ5.out.g
      obtain ⟨Bq, tbq, Kq, mpq, cq, hKq, hgq, _⟩ := hM5.gr
      have HST := qhid (gnext_stops (α := Nat) id (fun x : Nat => .int .i64 (sucOr m v x : Int)) 39 Wa.heap.size (Wa.heap.size + 1) hgq v HVN.out (fun j hj => by show Value.int .i64 ((sucOr m v j : Nat) : Int) = _; rw [sucOr_yes hj]) bg.cell bn.cell bg.lt bn.lt)
      have HBD := qhid hgq.bd
      have HC5 : Hid (W0.heap.size ≤ W5.heap.size ∧ b8 + 1 < W5.heap.size ∧ b13 < W5.heap.size ∧ ∀ D ∈ ml, D < W5.heap.size) := qhid ⟨HJ5.out.g.size, HJ5.out.v.lt, HJ5.out.b.lt, HJ5.out.ms.lt⟩
      obtain ⟨qa, hqa⟩ : ∃ q, q = Wa.heap.size := ⟨_, rfl⟩
      rw [← hqa] at HST ⊢
      clear hW5 z5 b5 bg bn hM5 hgq hqa HJA2
      gi_wp2_with fail
      refine wpIn_rangeFunc_ownG rfl (by omega) (gf := 32) (lb := #[.pointer (some ⟨qa, 0, none⟩), .pointer (some ⟨qa + 1, 0, none⟩)]) rfl trivial (enters_of Try.func32 (by kernel_rfl) rfl)
        HST.out (fun h k => h.trans k) (fun W l o o' h1 h2 h3 h4 => walksK_b W l o o' h1 h2 h3 h4) (Below.refl _ _) (fun _ => rfl)
        (fun pre X => MoJ W0 q (b8 + 1) b13 κ ml (foldA (kap s) κ (sucOr m v) mo pre) X)
        (fun _ _ _ => False)
        (MoJ.own HC5.out.1 HC5.out.2.1 HC5.out.2.2.1 HC5.out.2.2.2) (fun _ _ _ _ _ hs _ _ => hs)
        HJ5.out
        ?a1 ?assign ?body ?done ?stop
      case assign =>
        intro l' x X K hK
        gi_wp2
        exact hK
      case stop =>
        rintro D c' pre X _ _ h _
        exact h.elim
      case body =>
        rintro l' pre x X hJ hpl
        have hM := HM0.out.at_ hJ.g
        obtain ⟨y, hy⟩ : ∃ y, y = sucOr m v x := ⟨_, rfl⟩
        have hyn : y < n := by rw [hy]; exact sucOr_lt HBD.out HVN.out
        obtain ⟨hkv, hkt⟩ := kap_int HTI.out hyn
        rw [← HQ.out] at hkt
        have ckn := hM.kn.1.cell hyn
        rw [hkv] at ckn
        obtain ⟨fo, hfo⟩ : ∃ g, g = foldA (kap s) κ (sucOr m v) mo pre := ⟨_, rfl⟩
        have HFO : Hid (foldA (kap s) κ (sucOr m v) mo (pre ++ [x]) = raise fo κ (fo (kap s y))) := qhid (by rw [foldA_snoc, hfo, hy])
        have hle : ∀ j, fo j ≤ n := by rw [hfo]; exact foldA_le _ _ _ _ (HMO.out.lt HKN.out)
        rw [← hfo] at hJ
        rw [← hy]
        obtain ⟨κt, hκt⟩ : ∃ x, x = kap s y := ⟨_, rfl⟩
        rw [← hκt] at ckn hkt HFO
        have cm := hJ.v.cell hkq
        have ct := hJ.v.cell hkt
        have fm := hJ.v.unfrozen κ
        have l1 := hle κ
        have l2 := hle κt
        have HP := qhid ((hJ.put (k := κ) (x := fo κt) HB13.out).up (Below.drew (Below.refl _ _)))
        obtain ⟨x1, hx1⟩ : ∃ x, x = fo κ := ⟨_, rfl⟩
        obtain ⟨x2, hx2⟩ : ∃ x, x = fo κt := ⟨_, rfl⟩
        rw [← hx1] at cm l1 HP
        rw [← hx2] at ct l2 HP HFO
        have hmax : max (x1 : Int) (x2 : Int) = ((max x1 x2 : Nat) : Int) := by omega
        have c8 := hM.b8.1.cell
        have c10 := hM.b10.1.cell
        have c13 := hJ.b.cell
        obtain ⟨⟨o, ho, ho7, ho8⟩, _⟩ := hM.sk
        have c87 := (Joins.cell_of_block ho 7).trans ho7
        have hsl := Reg.size_of_get ho
        clear ho ho7 ho8 hM hkv hκt hy hfo hle hx1 hx2 hJ
        gi_upto_region 15 with fail
        refine Code.wpIn_mono (Q := fun e _ Y => e = .normal ∧ KeepsOthers X Y ∧ MoJ W0 q (b8 + 1) b13 κ ml (raise fo κ x2) Y) ?_ ?_
        · rintro e a Y ⟨rfl, h1, h2⟩
          show KeepsFrom _ X Y ∧ KeepsWalks X Y ∧ _
          refine ⟨h1.from _, h1.walks, ?_⟩
          show MoJ W0 q (b8 + 1) b13 κ ml (foldA (kap s) κ (sucOr m v) mo (pre ++ [x])) Y
          rw [HFO.out]
          exact h2
        · refine Reg.wpInR_region_still_tail 18 (fun ⟨_, _, h, _⟩ => (by cases h)) (by kernel_rfl) (by kernel_rfl) (by kernel_rfl) ?_
          simp only [List.take_succ_cons, List.take_zero, List.drop_succ_cons, List.drop_zero]
          repeat still_step
          refine wpStill_nil ?_
          go_wp2_with fail
          exact ⟨drew_keeps _ _ _, HP.out⟩
      case done =>
        rintro D1 zs X hD hys hJ hKD
        obtain ⟨l1, hl1, rfl⟩ := hys
        rw [List.map_id] at hJ
        have hms := hJ.ms.cons (by have := HC5.out.1; omega) (fun E hE => by have := HC5.out.2.2.2 E hE; omega) hKD
        have HJ6 : Hid (MoJ W0 q (b8 + 1) b13 κ (D1 :: ml) (foldA (kap s) κ (sucOr m v) mo l1) X) := qhid ⟨hJ.g, hJ.v, hJ.b, hms⟩
        have HL1 := qhid hl1
        clear hJ hl1 hKD hms HST HJ5 HBD
        gi_wp2_with fail
        refine ⟨trivial, ?_⟩
        refine (callsIn_wide.2 (gnext_any _ _ X)).mono ?_
        rintro e W7 ⟨rfl, hW7⟩
        obtain ⟨z7, b7, bg, bn⟩ := spread_world hW7
        have HJ7 := qhid (HJ6.out.up b7)
        have hM7 := HM0.out.at_ HJ7.out.g
        obtain ⟨Bq2, tbq2, Kq2, mpq2, cq2, hKq2, hgq2, _⟩ := hM7.sg
        have HST := qhid (gnext_stops (α := Nat) id (fun x : Nat => .int .i64 (sucOr m2 v x : Int)) 39 X.heap.size (X.heap.size + 1) hgq2 v HVN.out (fun j hj => by show Value.int .i64 ((sucOr m2 v j : Nat) : Int) = _; rw [sucOr_yes hj]) bg.cell bn.cell bg.lt bn.lt)
        have HBD := qhid hgq2.bd
        have HC7 : Hid (W0.heap.size ≤ W7.heap.size ∧ b8 + 1 < W7.heap.size ∧ b13 < W7.heap.size ∧ ∀ D ∈ D1 :: ml, D < W7.heap.size) := qhid ⟨HJ7.out.g.size, HJ7.out.v.lt, HJ7.out.b.lt, HJ7.out.ms.lt⟩
        obtain ⟨qb, hqb⟩ : ∃ q, q = X.heap.size := ⟨_, rfl⟩
        rw [← hqb] at HST ⊢
        obtain ⟨mo1, hmo1⟩ : ∃ g, g = foldA (kap s) κ (sucOr m v) mo l1 := ⟨_, rfl⟩
        rw [← hmo1] at HJ7
        have HMO1 := qhid hmo1
        clear hW7 z7 b7 bg bn hM7 hgq2 hqb HJ6 hmo1 HC5
        gi_wp2_with fail
        refine wpIn_rangeFunc_ownG rfl (by omega) (gf := 32) (lb := #[.pointer (some ⟨qb, 0, none⟩), .pointer (some ⟨qb + 1, 0, none⟩)]) rfl trivial (enters_of Try.func32 (by kernel_rfl) rfl)
          HST.out (fun h k => h.trans k) (fun W l o o' h1 h2 h3 h4 => walksK_b W l o o' h1 h2 h3 h4) (Below.refl _ _) (fun _ => rfl)
          (fun pre X => MoJ W0 q (b8 + 1) b13 κ (D1 :: ml) (foldM (kap s) κ (sucOr m2 v) mo1 pre) X ∧ ∀ t ∈ pre, kap s (sucOr m2 v t) ≠ κ)
          (fun c' pre X => c' = .ret ∧ (∃ t ∈ pre, kap s (sucOr m2 v t) = κ) ∧ RetI w ra (.int .i64 0) (.bool false) X ∧ MarksAt W0.heap.size (D1 :: ml) X)
          (fun pre X Y row h hg hr => ⟨MoJ.own (F := foldM (kap s) κ (sucOr m2 v) mo1) HC7.out.1 HC7.out.2.1 HC7.out.2.2.1 HC7.out.2.2.2 pre X Y row h.1 hg hr, h.2⟩)
          (fun _ pre X Y row h hg hr => ⟨h.1, h.2.1, h.2.2.1.kept hg (fun r e => by have := (hr r e).1; have := HC7.out.1; have := HW0.out; omega), MarksAt.ownFrom (β := Unit) _ _ _ HC7.out.2.2.2 () X Y row h.2.2.2 hg hr⟩)
          ⟨HJ7.out, fun _ h => (by cases h)⟩
          ?a2 ?assign2 ?body2 ?done2 ?stop2
        case assign2 =>
          intro l' x X K hK
          gi_wp2
          exact hK
        case body2 =>
          rintro l' pre x X ⟨hJ, hnk⟩ hpl
          have hM := HM0.out.at_ hJ.g
          obtain ⟨y, hy⟩ : ∃ y, y = sucOr m2 v x := ⟨_, rfl⟩
          have hyn : y < n := by rw [hy]; exact sucOr_lt HBD.out HVN.out
          obtain ⟨hkv, hkt⟩ := kap_int HTI.out hyn
          rw [← HQ.out] at hkt
          have ckn := hM.kn.1.cell hyn
          rw [hkv] at ckn
          obtain ⟨κt, hκt⟩ : ∃ x, x = kap s y := ⟨_, rfl⟩
          rw [← hκt] at ckn hkt
          have c8 := hM.b8.1.cell
          have c13 := hJ.b.cell
          obtain ⟨⟨o, ho, ho7, ho8⟩, _⟩ := hM.sk
          have c87 := (Joins.cell_of_block ho 7).trans ho7
          have hsl := Reg.size_of_get ho
          have HJX := qhid hJ
          have HNK := qhid hnk
          have HYE : Hid (κt = kap s (sucOr m2 v x)) := qhid (by rw [hκt, hy])
          clear ho ho7 ho8 hkv hnk hκt
          rw [← hy]
          by_cases hkk : κt = κ
          · have hd : ((κt : Int) == (κ : Int)) = true := by rw [hkk]; exact beq_self_eq_true _
            have HRI : Hid (RetI w ra (.int .i64 0) (.bool false) X) := qhid ⟨hM.r1.1, hM.r2.1, HB0.out.grown hJ.g (by have := HW0.out; omega) (fun k e => by have := HQ2.out; cases e; omega)⟩
            have HKK := qhid hkk
            have f1 := hM.r1.1.frozen
            have f2 := hM.r2.1.frozen
            have c1 := hM.r1.1.cell
            have c2 := hM.r2.1.cell
            clear hM hJ hkk hy
            gi_upto_region 18 with fail
            refine Reg.wpInR_region_still (fun ⟨_, _, h⟩ => (show False from h)) (by kernel_rfl) (by kernel_rfl) (by kernel_rfl) ?_
            repeat still_step
            refine wpStill_nil ?_
            gi_wp2_with fail
            exact ⟨(keeps_set2 X _ _ _ _).from _, rfl, ⟨x, by simp, by rw [← HYE.out]; exact HKK.out⟩, HRI.out.set.drew, ⟨HJX.out.ms.nd, (HJX.out.ms.set2 (u' := .int .i64 0) (v' := .bool false) HRI.out.r1 HRI.out.r2).at_⟩⟩
          · have hd : ((κt : Int) == (κ : Int)) = false := by simp; omega
            obtain ⟨fo, hfo⟩ : ∃ g, g = foldM (kap s) κ (sucOr m2 v) mo1 pre := ⟨_, rfl⟩
            have HFO : Hid (foldM (kap s) κ (sucOr m2 v) mo1 (pre ++ [x]) = raise fo κ (fo κt + 1)) := qhid (by rw [foldM_snoc, hfo, HYE.out])
            have hle : ∀ j, fo j ≤ n + pre.length := by rw [hfo]; exact foldM_le _ _ _ _ (by rw [HMO1.out]; exact foldA_le _ _ _ _ (HMO.out.lt HKN.out))
            rw [← hfo] at hJ
            have cm := hJ.v.cell hkq
            have ct := hJ.v.cell hkt
            have fm := hJ.v.unfrozen κ
            have l1 := hle κ
            have l2 := hle κt
            have c10 := hM.b10.1.cell
            have HP := qhid ((hJ.put (k := κ) (x := fo κt + 1) HB13.out).up (Below.drew (Below.refl _ _)))
            have HPP : Hid ((X.drew.setCell ⟨b8 + 1, κ, none⟩ (.int .i64 ((max (fo κ) (fo κt + 1) : Nat) : Int))).drew = (X.setCell ⟨b8 + 1, κ, none⟩ (.int .i64 ((max (fo κ) (fo κt + 1) : Nat) : Int))).drew.drew) := qhid rfl
            obtain ⟨x1, hx1⟩ : ∃ x, x = fo κ := ⟨_, rfl⟩
            obtain ⟨x2, hx2⟩ : ∃ x, x = fo κt := ⟨_, rfl⟩
            rw [← hx1] at cm l1 HP
            rw [← hx2] at ct l2 HP HFO
            have hmax : max (x1 : Int) (1 + (x2 : Int)) = ((max x1 (x2 + 1) : Nat) : Int) := by omega
            have HKK := qhid hkk
            have hb2 : x2 ≤ 1001000 := by omega
            clear hM hkk hy hfo hle hJ HJX hx1 hx2
            gi_upto_region 18 with fail
            refine Reg.wpInR_region_still (fun ⟨_, _, h⟩ => (show False from h)) (by kernel_rfl) (by kernel_rfl) (by kernel_rfl) ?_
            repeat still_step
            refine wpStill_nil ?_
            gi_upto_region 20 with fail
            refine Code.wpIn_mono (Q := fun e _ Y => e = .normal ∧ KeepsOthers X Y ∧ MoJ W0 q (b8 + 1) b13 κ (D1 :: ml) (raise fo κ (x2 + 1)) Y) ?_ ?_
            · rintro e a Y ⟨rfl, h1, h2⟩
              refine ⟨h1.from _, h1.walks, ?_, fun t ht => ?_⟩
              · show MoJ W0 q (b8 + 1) b13 κ (D1 :: ml) (foldM (kap s) κ (sucOr m2 v) mo1 (pre ++ [x])) Y
                rw [HFO.out]
                exact h2
              · rcases List.mem_append.1 ht with ht | ht
                · exact HNK.out t ht
                · rw [List.mem_singleton.1 ht, ← HYE.out]
                  exact HKK.out
            · refine Reg.wpInR_region_still_tail 19 (fun ⟨_, _, h, _⟩ => (by cases h)) (by kernel_rfl) (by kernel_rfl) (by kernel_rfl) ?_
              simp only [List.take_succ_cons, List.take_zero, List.drop_succ_cons, List.drop_zero]
              repeat still_step
              refine wpStill_nil ?_
              go_wp2_with fail
              exact ⟨⟨(drew_keeps _ _ _).size, (drew_keeps _ _ _).same⟩, HP.out.up (Below.drew (Below.refl _ _))⟩
        case done2 =>
          rintro D2 zs2 X2 hD2 hys2 ⟨hJ, hne⟩ hKD2
          obtain ⟨l2, hl2, rfl⟩ := hys2
          rw [List.map_id] at hJ hne
          have hms := hJ.ms.cons (by have := HC7.out.1; omega) (fun E hE => by have := HC7.out.2.2.2 E hE; omega) hKD2
          have hM := HM0.out.at_ hJ.g
          obtain ⟨mo2, hmo2⟩ : ∃ g, g = foldM (kap s) κ (sucOr m2 v) mo1 l2 := ⟨_, rfl⟩
          rw [← hmo2] at hJ
          have hth := HMO.out.thing HKN.out (v := v) (doneTo_le HTI.out HV.out) (sucOr m v) (sucOr m2 v) l1 l2
            (fun t ht => by have h := (HL1.out.2 t).1 ht; rw [sucOr_yes h]; exact h)
            (fun t ht => by have h := (hl2.2 t).1 ht; refine ⟨by rw [sucOr_yes h]; exact h, by rw [← HK.out]; exact hne t ht⟩)
            (fun t ht => ⟨t, (HL1.out.2 t).2 ht, sucOr_yes ht⟩)
            (fun t ht => ⟨t, (hl2.2 t).2 ht, sucOr_yes ht⟩)
          rw [← HK.out, ← HMO1.out, ← hmo2] at hth
          obtain ⟨k1, k2, k3⟩ := hth
          have hbl := HBE.out.add HKN.out HVN.out k2 (by rw [← HK.out]; exact k3)
          rw [← HK.out] at hbl
          have cm := hJ.v.cell hkq
          have c10 := hM.b10.1.cell
          have c13 := hJ.b.cell
          have bl := HBE.out.le
          have ml2 := k1.lt HKN.out κ
          have HML2 : Hid (MoL W0 (Em m) (Em m2) n q (b8 + 1) s (i + 1) (max b (mo2 κ)) (D2 :: D1 :: ml) X2) := qhid ⟨hJ.g, ⟨mo2, hJ.v, k1.congr (fun u hu => doneTo_succ HV.out hu), hbl.congr (fun u hu => doneTo_succ HV.out hu)⟩, hms⟩
          obtain ⟨x3, hx3⟩ : ∃ x, x = mo2 κ := ⟨_, rfl⟩
          rw [← hx3] at cm ml2 HML2
          have hmax : max (b : Int) (x3 : Int) = ((max b x3 : Nat) : Int) := by omega
          clear hJ hne hl2 hms hM hmo2 k1 k2 k3 hbl hx3 hKD2 HST HJ7 HBD
          gi_wp2_with fail
          refine ⟨r - 1, by have := HIR.out; omega, i + 1, max b x3, D2 :: D1 :: ml, _, _, _, _, _, _, _, _, _, _, _, _, _, _, _, _, _, _, _, _, _, _, _, _, _, _, _, _, _, _, _, _, _, _, _, _, _, _, _, _, _, _, _, _, _, _, _, _, _, _, _, _, _, _, _, _, _, _, _, _, _, _, _, _, _, _, _, _, _, _, _, _, _, _, _, by have := HIR.out; omega, rfl, HML2.out⟩
        case stop2 =>
          rintro D2 c' pre X2 hD2 hpre ⟨rfl, ⟨t, ht, hkt⟩, hR, hmk⟩ hKD2
          obtain ⟨ys2, hy2, rfl⟩ := hpre
          rw [List.map_id] at ht
          have hM2 : m2 v t = true := hy2.2 t ht
          rw [sucOr_yes hM2] at hkt
          have hms := hmk.cons (by have := HC7.out.1; omega) (fun E hE => by have := HC7.out.2.2.2 E hE; omega) hKD2
          have HR := qhid hR
          have HMS := qhid hms
          have HW : Hid (∀ c, Wy (Em m) (Em m2) v c) := qhid (Wy.ever (A := Em m) hM2 (HKN.out.rch t v (HKN.out.bd v t (.inr hM2)).2 HVN.out (by rw [hkt, HK.out])))
          clear hR hms hmk hKD2 hkt ht
          gi_wp2
          show LeavesInM _ _ _ _ _ _ ((D2 :: D1 :: ml).map mk1) .returning _
          refine leaves_marks W0.heap.size (RetI w ra (.int .i64 0) (.bool false)) ?_ ?_ _ _ HMS.out HR.out
          · intro Y l h hl hd
            exact h.kept (grownBy_putObj' Y l _) (fun r e => by cases e; have := HW0.out; omega)
          · intro Y h
            exact ⟨_, results_ib rfl _ _ ra (ra + 1) _ _ rfl rfl h.r1.cell h.r2.cell, 0, false, rfl, by have := h.be; rw [HRA.out] at this; exact this, ⟨fun e => (by cases e), fun _ => ⟨rfl, v, HVN.out, by rw [← HM2.out]; exact HW.out⟩⟩⟩
    · obtain rfl : i = s.done.length := by omega
      have hM := HM0.out.at_ HI.out.g
      have hRI : RetI w ra (.int .i64 0) (.bool false) W := ⟨hM.r1.1, hM.r2.1, HB0.out.grown HI.out.g (by have := HW0.out; omega) (fun k e => by have := HQ2.out; cases e; omega)⟩
      obtain ⟨mo, hvec, hmo, hbe⟩ := HI.out.v
      have HMT : Hid (IsMost (Em m) (Em m2) n b ∧ b ≤ n) := qhid (hbe.most HKN.out hmo (fun u hu => by
        obtain ⟨j, hj⟩ := List.mem_iff_getElem?.1 ((HTI.out.dn u).2 hu)
        exact ⟨j, (List.getElem?_eq_some_iff.1 hj).1, hj⟩))
      have HRI := qhid hRI
      have HMS := qhid HI.out.ms
      have c1 := hM.r1.1.cell
      have c2 := hM.r2.1.cell
      have f1 := hM.r1.1.frozen
      have f2 := hM.r2.1.frozen
      have hdl1 : decide ((s.done.length : Int) < (s.done.length : Int)) = false := decide_eq_false (by omega)
      clear hM hRI hvec hmo hbe hir
      gi_wp2_with fail
      show LeavesInM _ _ _ _ _ _ (ml.map mk1) .returning _
      refine leaves_marks W0.heap.size (RetI w ra (.int .i64 (b : Int)) (.bool true)) ?_ ?_ _ _ (HMS.out.set2 HRI.out.r1 HRI.out.r2) HRI.out.set
      · intro Y l h hl hd
        exact h.kept (grownBy_putObj' Y l _) (fun r e => by cases e; have := HW0.out; omega)
      · intro Y h
        exact ⟨_, results_ib rfl _ _ ra (ra + 1) _ _ rfl rfl h.r1.cell h.r2.cell, b, true, rfl, by have := h.be; rw [HRA.out] at this; exact this, ⟨fun _ => by rw [← HM2.out]; exact HMT.out, fun e => (by cases e)⟩⟩
end
end Go.Proofs.Ytghfodjefjijdaa
