/- A part of the proof. -/
import Derived.Test.YtnmalggmbeipaaaGreatDoorWeG
import Derived.Test.YtnmalggmbeipaaaGreatDoorRegion
set_option maxRecDepth 100000
set_option maxHeartbeats 16000000
namespace Go.Proofs.YtnmalggmbeipaaaGreatDoor
section
open Go Go.RowKit
attribute [local go_sem ↓] Go.wp_at_zero Go.wp_at_succ
attribute [local go_sem] eq4
theorem ccells_h {w : World} {g : Nat} {xs : List Value} {t : TypeId} (h : w.heap[g]? = some (.cells xs.toArray t (0,0))) : ∀ j u,xs[j]? = some u -> w.cell? ((⟨g,0,none⟩ : Addr).add j) = some u := by
 intro j u hj;have ha : (⟨g,0,none⟩ : Addr).add j = ⟨g,j,none⟩ := by unfold Addr.add;split <;> simp_all
 rw [ha,jC h j,List.getElem?_toArray,hj]
theorem Tryz.infoWt : (Tryz.prog.info? 194).map (fun i => (i.zero,i.size,i.bytes)) = some (some (.map none),1,8) := by kernel_rfl
theorem Tryz.infoPlace : (Tryz.prog.info? 325).map (fun i => (i.zero,i.size,i.bytes)) = some (some (.agg #[.pointer none,.map none]),2,16) := by kernel_rfl
theorem place_cells {w : World} {b : Nat} {p : Option Addr} {m : Option Nat} (h : w.heap[b]? = some (.cells #[.pointer p,.map m] 325 (0,0))) : w.cell? ⟨b,0,none⟩ = some (.pointer p) /\ w.cell? ⟨b,1,none⟩ = some (.map m) :=
 ⟨(jC h 0).trans rfl,(jC h 1).trans rfl⟩
theorem wg_cells {w : World} {b : Nat} {p v : Int} {mf ml : Option Nat} {sv fv : Value} (h : w.heap[b]? = some (wgOb p v mf ml sv fv)) : w.cell? ⟨b,0,none⟩ = some (.int .i64 p) /\ w.cell? ⟨b,1,none⟩ = some (.int .i64 v) /\ w.cell? ⟨b,2,none⟩ = some (.map mf) /\ w.cell? ⟨b,3,none⟩ = some (.map ml) /\ w.cell? ⟨b,4,none⟩ = some sv /\ w.cell? ⟨b,5,none⟩ = some fv :=
 ⟨(jC h 0).trans rfl,(jC h 1).trans rfl,(jC h 2).trans rfl,(jC h 3).trans rfl,(jC h 4).trans rfl,(jC h 5).trans rfl⟩
theorem co_set {w : World} {q : Nat} {k : Int} {s : W4} {z : Bool} {va vb : Value} (h : w.heap[q]? = some (coOb k s z va vb)) :
  w.cell? ⟨q,1,none⟩ = some (.int .u64 s.a) /\ w.cell? ⟨q,2,none⟩ = some (.int .u64 s.b) /\ w.cell? ⟨q,3,none⟩ = some (.int .u64 s.c) /\ w.cell? ⟨q,4,none⟩ = some (.int .u64 s.d) :=
 ⟨(jC h 1).trans rfl,(jC h 2).trans rfl,(jC h 3).trans rfl,(jC h 4).trans rfl⟩
theorem wg_grew {w Y X : World} {wb : Nat} {o : Obj} {u : Option Nat} (h : w.heap[wb]? = some o) (hY : Below w.heap.size w Y) (hg : Y.grownBy X u) (hu : u ≠ some wb) : X.heap[wb]? = some o :=
 (hg.block wb (Nat.lt_of_lt_of_le (jS h) hY.size) (fun e => hu e.symm)).trans (below_kept hY h)
def KW (w w' : World) : Prop := ∀ m f,WtAt w (.map m) f -> WtAt w' (.map m) f
theorem KW.below {w w' : World} (hb : Below w.heap.size w w') : KW w w' := fun _ _ h => h.up hb
theorem KW.trans {a b c : World} (h : KW a b) (h' : KW b c) : KW a c := fun m f x => h' m f (h m f x)
theorem KW.cells {w w' : World} {r : Option Nat} (hg : w.grownBy w' r) (hr : ∀ g,r = some g -> ∃ c t fr,w.heap[g]? = some (.cells c t fr)) : KW w w' := fun _ _ h => h.cells hg hr
theorem set_only (w : World) (b i : Nat) (v : Value) : w.grownBy (w.setCell ⟨b,i,none⟩ v) (some b) := only_setCell (only_refl w (some b)) (.inl rfl) _
section
variable {W1 wr : World} {wb : Nat} {p v : Int} {mf ml : Option Nat} {S : List EntN} {ss : List W4} {fs : List (Option Nat)} {lv sv fv : Value}
theorem NmAt.setS {Y Z : World} {s : W4} {sv' : Value} (h : NmAt W1 wr wb p v mf ml S ss fs lv sv fv) (hwb : wb < W1.heap.size) (hY : Below wr.heap.size wr Y) (hg : Y.grownBy Z sv.ownBlock) (ho : Z.ownsRow W1.heap.size 29 4 sv' (ss.length + 1) (ss.flatMap setV ++ setV s)) :
  NmAt W1 (Z.setCell ⟨wb,4,none⟩ sv') wb p v mf ml S (ss ++ [s]) fs lv sv' fv /\ KW wr (Z.setCell ⟨wb,4,none⟩ sv') := by
 obtain ⟨h1,h2⟩ := h.grew hY hg (fun g e => (ownsLt h.srow e).1) hwb;have hX := h.below hY;have hs := set_only Z wb 4 sv'
 have own : ∀ {e : TypeId} {sz : Nat} {u : Value} {n : Nat} {xs : List Value},Z.ownsRow W1.heap.size e sz u n xs -> (Z.setCell ⟨wb,4,none⟩ sv').ownsRow W1.heap.size e sz u n xs := fun hr => ownsKeep hr hs (fun g e e2 => by
  have := (ownsLt hr e).1;have := Option.some.inj e2
  omega)
 refine ⟨⟨h1.andThen hs (fun j hj => .inr hj),?_,own (ownsKeep hX.row hg (fun g e e2 => rows_off hX.row hX.srow setplace_ne.1 g e e2)),?_,own (ownsKeep hX.frow hg (fun g e e2 => rows_off hX.frow hX.srow (fun e => setplace_ne.2.2 e.symm) g e e2))⟩,(KW.below hY).trans ((KW.cells hg (fun g e => ?_)).trans (KW.cells hs (fun g e => ?_)))⟩
 ·exact (Joins.block_setCell (i := 4) h2 sv').trans rfl
 ·rw [List.flatMap_append,List.length_append];have := own ho;simpa using this
 ·obtain ⟨c,hc⟩ := owns_cells hX.srow e;exact ⟨c,_,_,hc⟩
 ·rw [<- Option.some.inj e];exact ⟨_,_,_,h2⟩
theorem NmAt.setF {Y Z : World} {m : Option Nat} {fv' : Value} (h : NmAt W1 wr wb p v mf ml S ss fs lv sv fv) (hwb : wb < W1.heap.size) (hY : Below wr.heap.size wr Y) (hg : Y.grownBy Z fv.ownBlock) (ho : Z.ownsRow W1.heap.size 194 1 fv' (fs.length + 1) (fs.map Value.map ++ [.map m])) :
  NmAt W1 (Z.setCell ⟨wb,5,none⟩ fv') wb p v mf ml S ss (fs ++ [m]) lv sv fv' /\ KW wr (Z.setCell ⟨wb,5,none⟩ fv') := by
 obtain ⟨h1,h2⟩ := h.grew hY hg (fun g e => (ownsLt h.frow e).1) hwb;have hX := h.below hY;have hs := set_only Z wb 5 fv'
 have own : ∀ {e : TypeId} {sz : Nat} {u : Value} {n : Nat} {xs : List Value},Z.ownsRow W1.heap.size e sz u n xs -> (Z.setCell ⟨wb,5,none⟩ fv').ownsRow W1.heap.size e sz u n xs := fun hr => ownsKeep hr hs (fun g e e2 => by
  have := (ownsLt hr e).1;have := Option.some.inj e2
  omega)
 refine ⟨⟨h1.andThen hs (fun j hj => .inr hj),?_,own (ownsKeep hX.row hg (fun g e e2 => rows_off hX.row hX.frow setplace_ne.2.1 g e e2)),own (ownsKeep hX.srow hg (fun g e e2 => rows_off hX.srow hX.frow setplace_ne.2.2 g e e2)),?_⟩,(KW.below hY).trans ((KW.cells hg (fun g e => ?_)).trans (KW.cells hs (fun g e => ?_)))⟩
 ·exact (Joins.block_setCell (i := 5) h2 fv').trans rfl
 ·rw [List.map_append,List.length_append];exact own ho
 ·obtain ⟨c,hc⟩ := owns_cells hX.frow e;exact ⟨c,_,_,hc⟩
 ·rw [<- Option.some.inj e];exact ⟨_,_,_,h2⟩
end
structure FolAt (w : World) (fs : List (Option Nat)) (out : List (W4 × Wts)) : Prop where
 len : fs.length = out.length
 at_ : ∀ (i : Nat) (m : Option Nat) (x : W4 × Wts),fs[i]? = some m -> out[i]? = some x -> WtAt w (.map m) x.2
theorem FolAt.up {w w' : World} {fs : List (Option Nat)} {out : List (W4 × Wts)} (h : FolAt w fs out) (hk : KW w w') : FolAt w' fs out := ⟨h.len,fun i m x h1 h2 => hk _ _ (h.at_ i m x h1 h2)⟩
theorem FolAt.snoc {w : World} {fs : List (Option Nat)} {out : List (W4 × Wts)} {m : Option Nat} {s : W4} {f : Wts} (h : FolAt w fs out) (hm : WtAt w (.map m) f) : FolAt w (fs ++ [m]) (out ++ [(s,f)]) := by
 refine ⟨by simp [h.len],fun i m' x h1 h2 => ?_⟩
 by_cases hi : i < fs.length
 ·rw [List.getElem?_append_left hi] at h1;rw [List.getElem?_append_left (h.len ▸ hi)] at h2;exact h.at_ i m' x h1 h2
 ·rw [List.getElem?_append_right (by omega)] at h1;rw [List.getElem?_append_right (by have := h.len;omega),<- h.len] at h2
  cases e : i - fs.length with
  | zero =>
   rw [e] at h1 h2;obtain rfl : m = m' := by simpa using h1
   obtain rfl : (s,f) = x := by simpa using h2
   exact hm
  | succ j =>
   rw [e] at h1;simp at h1
structure NmI (w0 W1 wr : World) (wb : Nat) (D : List (Option Nat × Value)) (p v : Int) (mf ml : Option Nat) (E : List EntN) (out : List (W4 × Wts)) (fs : List (Option Nat)) (lv sv fv : Value) (T : List (W4 × Wts)) : Prop where
 mem : NmAt W1 wr wb p v mf ml E (out.map Prod.fst) fs lv sv fv
 ents : ∀ e ∈ E,PCAt w0 e.1 /\ KoK e.1.co /\ (∃ q,e.1.ptr = some q /\ dnD D q = true) /\ WtAt wr (.map e.2.1) e.2.2 /\ WtOK 600 e.2.2
 run : RunI T out (E.reverse.map fun e => (e.1,e.2.2))
 fol : FolAt wr fs out
theorem szE_app : ∀ (l r : List (PC × Wts)),szE (l ++ r) = szE l + szE r
 | [],r => by simp [szE]
 | x :: l,r => by rw [List.cons_append,szE,szE,szE_app l r];omega
theorem szE_len : ∀ (l : List (PC × Wts)),(∀ e ∈ l,KoK e.1.co) -> l.length <= szE l
 | [],_ => jN _
 | x :: l,h => by
  have h1 := szE_len l fun e he => h e (List.mem_cons_of_mem _ he)
  obtain ⟨q,k,s,z,a,b,e,_⟩ := (h x (List.mem_cons_self ..)).ptr;rw [szE,e,PC.sz,List.length_cons];omega
theorem val_at {D : List (Option Nat × Value)} {a : Option Nat} {q : Nat} {n v an av : Int} {mf ml af al : Option Nat} (hp : a = some q) (hg : vgot D (some q) = some (.agg #[.int .i64 n,.int .i64 v,.map mf,.map ml])) (hv : (vgot D a).getD zeroV = .agg #[.int .i64 an,.int .i64 av,.map af,.map al]) : an = n /\ av = v /\ af = mf /\ al = ml := by
 rw [hp,hg,Option.getD_some] at hv;injection hv with hv;have hv : ([.int .i64 n,.int .i64 v,.map mf,.map ml] : List Value) = [.int .i64 an,.int .i64 av,.map af,.map al] := congrArg Array.toList hv;simp only [List.cons.injEq,Value.int.injEq,Value.map.injEq,true_and,and_true] at hv;obtain ⟨h1,h2,h3,h4⟩ := hv;exact ⟨h1.symm,h2.symm,h3.symm,h4.symm⟩
theorem kn_at {w0 W : World} {D : List (Option Nat × Value)} {x : PC} (h : LrK w0 W [] D) (hx : PCAt w0 x) (hd : ∃ q,x.ptr = some q /\ dnD D q = true) : ∃ q mf ml,x.ptr = some q /\ vgot D (some q) = some (.agg #[.int .i64 ((prtC x.co).places : Int),.int .i64 (prtC x.co).void,.map mf,.map ml]) /\ WtAt W (.map mf) (prtC x.co).first /\ WtAt W (.map ml) (prtC x.co).last /\ (prtC x.co).places <= 600 /\ ∀ z ∈ x.inn,∃ p,z.ptr = some p /\ dnD D p = true := by
 obtain ⟨q,h1,h2⟩ := hd;obtain ⟨v,h3,h4⟩ := dnD_true h2;obtain ⟨y,g1,g2,⟨mf,ml,rfl,g3,g4⟩,g5,g6⟩ := h.done q v h3 h4;obtain rfl := g2.uniq hx (by rw [g1,h1]);exact ⟨q,mf,ml,h1,h3,g3,g4,g5,g6⟩
theorem kn_gr {W W' : World} {mb wb : Nat} {o : Array Value} {t : TypeId} {D : List (Option Nat × Value)} (h : KnAt W mb D) (hg : W.grownBy W' (some wb)) (h1 : W.heap[wb]? = some (.cells o t (0,0))) (h2 : ∃ o',W'.heap[wb]? = some (.cells o' t (0,0))) : KnAt W' mb D := by
 obtain ⟨⟨es,c,e1,e2⟩,e3,e4⟩ := h;refine ⟨⟨es,c,(hg.block mb (jS e1) (fun e => ?_)).trans e1,e2⟩,fun p hp a e => ?_,e4⟩
 ·rw [Option.some.inj e,h1] at e1
  cases e1
 ·obtain ⟨cs,t',hc⟩ := e3 p hp a e
  by_cases ha : a = wb
  ·obtain ⟨o',h2⟩ := h2;rw [ha];exact ⟨_,_,h2⟩
  ·exact ⟨cs,t',(hg.block a (jS hc) (fun e => ha (Option.some.inj e))).trans hc⟩
theorem nodes_ne : 78 ≠ 199 := by decide
theorem box_ne : 325 ≠ 199 /\ 78 ≠ 29 /\ 78 ≠ 194 /\ 78 ≠ 325 := by decide
theorem box_kept {W3 Y Z X7 : World} {xb wb i B sz n : Nat} {c c' : Array Value} {t t' e : TypeId} {fr fr' : Nat × Nat} {v u : Value} {xs : List Value} (hxb : W3.heap[xb]? = some (.cells c t fr)) (hrow : W3.ownsRow B e sz v n xs) (hne : t ≠ e) (hY : Below W3.heap.size W3 Y) (hg : Y.grownBy Z v.ownBlock) (hX : X7 = Z.setCell ⟨wb,i,none⟩ u) (hwb : W3.heap[wb]? = some (.cells c' t' fr')) (hne' : t ≠ t') : X7.heap[xb]? = some (.cells c t fr) := by
 have hl := jS hxb
 have h1 : Z.heap[xb]? = some (.cells c t fr) := (hg.block xb (Nat.lt_of_lt_of_le hl hY.size) (fun e => by
  obtain ⟨c2,h2⟩ := owns_cells hrow e.symm;rw [hxb] at h2;injection h2 with h2;injection h2 with _ h2
  exact hne h2)).trans (below_kept hY hxb)
 rw [hX];refine ((set_only Z wb i u).block xb (jS h1) (fun e => ?_)).trans h1;rw [Option.some.inj e,hwb] at hxb;injection hxb with hxb;injection hxb with _ hxb;exact hne' hxb.symm
def nm4 (mb xb q wb ol sc : Nat) (sp : Option Addr) (a b : Option Nat) (an av bn bv : Int) (af al bf bl : Option Nat) (gh : Nat -> Nat) : Nat -> Value
 | 0 => .map (some mb)
 | 1 => .pointer (some ⟨xb,0,none⟩)
 | 2 => .pointer (some ⟨q,0,none⟩)
 | 3 => .pointer (some ⟨q,0,none⟩)
 | 4 => .pointer (some ⟨q,6,none⟩)
 | 5 => kPtr a
 | 6 => .agg #[.int .i64 an,.int .i64 av,.map af,.map al]
 | 7 => .map (some mb)
 | 8 => .pointer (some ⟨xb,0,none⟩)
 | 9 => .pointer (some ⟨q,0,none⟩)
 | 10 => .pointer (some ⟨q,0,none⟩)
 | 11 => .pointer (some ⟨q,7,none⟩)
 | 12 => kPtr b
 | 13 => .agg #[.int .i64 bn,.int .i64 bv,.map bf,.map bl]
 | 14 => .pointer (some ⟨wb,0,none⟩)
 | 15 => .pointer (some ⟨wb,0,none⟩)
 | 16 => .pointer (some ⟨wb,4,none⟩)
 | 17 => .slice sp ol sc
 | 18 => .int .i64 (ol : Int)
 | 19 => .pointer (some ⟨gh 19,0,none⟩)
 | 20 => .pointer (some ⟨gh 20,0,none⟩)
 | 21 => undef
 | 22 => undef
 | 23 => .int .i64 (ol : Int)
 | _ => undef
theorem nm4_19 {mb xb q wb ol sc : Nat} {sp : Option Addr} {a b : Option Nat} {an av bn bv : Int} {af al bf bl : Option Nat} {x j : Nat} {gh : Nat -> Nat} (h : j ≠ 19) : nm4 mb xb q wb ol sc sp a b an av bn bv af al bf bl (Reg.updN gh 19 x) j = nm4 mb xb q wb ol sc sp a b an av bn bv af al bf bl gh j := by
 unfold nm4
 split <;> first | rfl | exact absurd rfl ‹_›
theorem nm4_20 {mb xb q wb ol sc : Nat} {sp : Option Addr} {a b : Option Nat} {an av bn bv : Int} {af al bf bl : Option Nat} {x j : Nat} {gh : Nat -> Nat} (h : j ≠ 20) : nm4 mb xb q wb ol sc sp a b an av bn bv af al bf bl (Reg.updN gh 20 x) j = nm4 mb xb q wb ol sc sp a b an av bn bv af al bf bl gh j := by
 unfold nm4
 split <;> first | rfl | exact absurd rfl ‹_›
def nm7 (xb q wb ol sc : Nat) (sp : Option Addr) (s : W4) (gh : Nat × Value) : Nat -> Value
 | 0 => .pointer (some ⟨wb,0,none⟩)
 | 1 => .pointer (some ⟨wb,0,none⟩)
 | 2 => .pointer (some ⟨wb,0,none⟩)
 | 3 => .pointer (some ⟨wb,4,none⟩)
 | 4 => .slice sp ol sc
 | 5 => .pointer (some ⟨xb,0,none⟩)
 | 6 => .pointer (some ⟨q,0,none⟩)
 | 7 => .pointer (some ⟨q,0,none⟩)
 | 8 => .pointer (some ⟨q,1,none⟩)
 | 9 => .agg #[.int .u64 s.a,.int .u64 s.b,.int .u64 s.c,.int .u64 s.d]
 | 10 => .slice (some ⟨gh.1,0,none⟩) 1 1
 | 11 => gh.2
 | 12 => .pointer (some ⟨wb,0,none⟩)
 | 13 => .pointer (some ⟨wb,4,none⟩)
 | 14 => undef
 | _ => undef
theorem nm7_a {xb q wb ol sc : Nat} {sp : Option Addr} {s : W4} {gh : Nat × Value} {gx} {j : Nat} (h10 : j ≠ 10) : nm7 xb q wb ol sc sp s (gx,gh.2) j = nm7 xb q wb ol sc sp s gh j := by
 unfold nm7
 split <;> first | rfl | exact absurd rfl ‹_›
theorem nm7_b {xb q wb ol sc : Nat} {sp : Option Addr} {s : W4} {gh : Nat × Value} {gx} {j : Nat} (h11 : j ≠ 11) : nm7 xb q wb ol sc sp s (gh.1,gx) j = nm7 xb q wb ol sc sp s gh j := by
 unfold nm7
 split <;> first | rfl | exact absurd rfl ‹_›
def nm8 (xb wb ol fc : Nat) (fp : Option Addr) (m0 : Option Nat) (gh : Nat × Value) : Nat -> Value
 | 0 => .pointer (some ⟨wb,0,none⟩)
 | 1 => .pointer (some ⟨wb,0,none⟩)
 | 2 => .pointer (some ⟨wb,0,none⟩)
 | 3 => .pointer (some ⟨wb,5,none⟩)
 | 4 => .slice fp ol fc
 | 5 => .pointer (some ⟨xb,1,none⟩)
 | 6 => .map m0
 | 7 => .slice (some ⟨gh.1,0,none⟩) 1 1
 | 8 => gh.2
 | 9 => .pointer (some ⟨wb,0,none⟩)
 | 10 => .pointer (some ⟨wb,5,none⟩)
 | 11 => undef
 | _ => undef
theorem nm8_a {xb wb ol fc : Nat} {fp : Option Addr} {m0 : Option Nat} {gh : Nat × Value} {gx} {j : Nat} (h7 : j ≠ 7) : nm8 xb wb ol fc fp m0 (gx,gh.2) j = nm8 xb wb ol fc fp m0 gh j := by
 unfold nm8
 split <;> first | rfl | exact absurd rfl ‹_›
theorem nm8_b {xb wb ol fc : Nat} {fp : Option Addr} {m0 : Option Nat} {gh : Nat × Value} {gx} {j : Nat} (h8 : j ≠ 8) : nm8 xb wb ol fc fp m0 (gh.1,gx) j = nm8 xb wb ol fc fp m0 gh j := by
 unfold nm8
 split <;> first | rfl | exact absurd rfl ‹_›
def nm11 (g : Nat) (m : Nat) (vc : Nat) (xb : Nat) (q : Nat) (pa : Option Addr) (pb : Option Addr) (m0 : Option Nat) (m1 : Option Nat) (gh : Nat × Value) : Nat -> Value
 | 0 => .slice (some ⟨g,0,none⟩) m vc
 | 1 => .pointer (some ⟨xb,0,none⟩)
 | 2 => .pointer (some ⟨q,0,none⟩)
 | 3 => .pointer (some ⟨q,0,none⟩)
 | 4 => .pointer (some ⟨q,7,none⟩)
 | 5 => .pointer pb
 | 6 => .pointer (some ⟨xb,1,none⟩)
 | 7 => .map m0
 | 8 => .agg #[.pointer pb,.map m0]
 | 9 => .pointer (some ⟨xb,0,none⟩)
 | 10 => .pointer (some ⟨q,0,none⟩)
 | 11 => .pointer (some ⟨q,0,none⟩)
 | 12 => .pointer (some ⟨q,6,none⟩)
 | 13 => .pointer pa
 | 14 => .map m1
 | 15 => .agg #[.pointer pa,.map m1]
 | 16 => .slice (some ⟨gh.1,0,none⟩) 2 2
 | 17 => gh.2
 | 18 => gh.2
 | _ => undef
theorem nm11_a {g : Nat} {m : Nat} {vc : Nat} {xb : Nat} {q : Nat} {pa : Option Addr} {pb : Option Addr} {m0 : Option Nat} {m1 : Option Nat} {gh : Nat × Value} {gx} {j : Nat} (h16 : j ≠ 16) : nm11 g m vc xb q pa pb m0 m1 (gx,gh.2) j = nm11 g m vc xb q pa pb m0 m1 gh j := by
 unfold nm11
 split <;> first | rfl | exact absurd rfl ‹_›
theorem nm11_b {g : Nat} {m : Nat} {vc : Nat} {xb : Nat} {q : Nat} {pa : Option Addr} {pb : Option Addr} {m0 : Option Nat} {m1 : Option Nat} {gh : Nat × Value} {gx} {j : Nat} (h17 : j ≠ 17) (h18 : j ≠ 18) : nm11 g m vc xb q pa pb m0 m1 (gh.1,gx) j = nm11 g m vc xb q pa pb m0 m1 gh j := by
 unfold nm11
 split <;> first | rfl | exact absurd rfl ‹_›
def nm13 (g : Nat) (m : Nat) (vc : Nat) (xb : Nat) (q : Nat) (pa : Option Addr) (pb : Option Addr) (m0 : Option Nat) (gh : Nat × Value) : Nat -> Value
 | 0 => .slice (some ⟨g,0,none⟩) m vc
 | 1 => .pointer (some ⟨xb,0,none⟩)
 | 2 => .pointer (some ⟨q,0,none⟩)
 | 3 => .pointer (some ⟨q,0,none⟩)
 | 4 => .pointer (some ⟨q,7,none⟩)
 | 5 => .pointer pb
 | 6 => .pointer (some ⟨xb,1,none⟩)
 | 7 => .map m0
 | 8 => .agg #[.pointer pb,.map m0]
 | 9 => .pointer (some ⟨xb,0,none⟩)
 | 10 => .pointer (some ⟨q,0,none⟩)
 | 11 => .pointer (some ⟨q,0,none⟩)
 | 12 => .pointer (some ⟨q,6,none⟩)
 | 13 => .pointer pa
 | 14 => .pointer (some ⟨xb,1,none⟩)
 | 15 => .map m0
 | 16 => .agg #[.pointer pa,.map m0]
 | 17 => .slice (some ⟨gh.1,0,none⟩) 2 2
 | 18 => gh.2
 | 19 => gh.2
 | _ => undef
theorem nm13_a {g : Nat} {m : Nat} {vc : Nat} {xb : Nat} {q : Nat} {pa : Option Addr} {pb : Option Addr} {m0 : Option Nat} {gh : Nat × Value} {gx} {j : Nat} (h17 : j ≠ 17) : nm13 g m vc xb q pa pb m0 (gx,gh.2) j = nm13 g m vc xb q pa pb m0 gh j := by
 unfold nm13
 split <;> first | rfl | exact absurd rfl ‹_›
theorem nm13_b {g : Nat} {m : Nat} {vc : Nat} {xb : Nat} {q : Nat} {pa : Option Addr} {pb : Option Addr} {m0 : Option Nat} {gh : Nat × Value} {gx} {j : Nat} (h18 : j ≠ 18) (h19 : j ≠ 19) : nm13 g m vc xb q pa pb m0 (gh.1,gx) j = nm13 g m vc xb q pa pb m0 gh j := by
 unfold nm13
 split <;> first | rfl | exact absurd rfl ‹_›
theorem number_any (w0 W1 : World) (wb mb : Nat) (D : List (Option Nat × Value)) (x0 : PC) (p v : Int) (mf ml : Option Nat) (hb01 : Below w0.heap.size w0 W1) (hx : PCAt w0 x0) (hko : KoK x0.co) (hkn : KnAt W1 mb D) (hlr : LrK w0 W1 [] D) (hroot : ∃ q,x0.ptr = some q /\ dnD D q = true)
  (hme : W1.heap[wb]? = some (wgOb p v mf ml (.slice none 0 0) (.slice none 0 0))) (hs : x0.sz <= 1000000000) :
  Calls Tryz.prog 204 #[.pointer (some ⟨wb,0,none⟩),kPtr x0.ptr,.map (some mb)] W1 fun e w' => e = .returned (.tuple #[]) /\ ∃ fs lv sv fv,NmAt W1 w' wb p v mf ml [] ((folC x0.co noneW 0).map Prod.fst) fs lv sv fv /\ FolAt w' fs (folC x0.co noneW 0) := by
 obtain ⟨q0,_,_,hq0,_,_,_,h600,_⟩ := kn_at hlr hx hroot;obtain ⟨T,hT⟩ : ∃ T,T = folC x0.co noneW 0 := ⟨_,rfl⟩;have hTl : T.length <= 600 := by rw [hT,fol_len];exact h600
 have hwb := jS hme
 have HI0 : Hid (NmI w0 W1 (W1.alloc (.cells #[kPtr x0.ptr,.map none] 325)) wb D p v mf ml [(x0,none,noneW)] [] [] (.slice (some ⟨W1.heap.size,0,none⟩) 1 1) (.slice none 0 0) (.slice none 0 0) T) := qhid (by
  have b1 := below1 W1 (.cells #[kPtr x0.ptr,.map none] 325);refine ⟨⟨we_grown _ b1,below_kept b1 hme,⟨rfl,.inr ⟨_,1,_,rfl,jN _,heap_new _ _,by simp,by decide,rfl,rfl⟩⟩,World.ownsRow_nil _ _ _ _,World.ownsRow_nil _ _ _ _⟩,fun e he => ?_,?_,⟨rfl,fun i m x h => (by simp at h)⟩⟩
  ·rw [List.mem_singleton.1 he];exact ⟨hx,hko,hroot,.none,noneW_ok _⟩
  ·rw [hT]
   exact RunI.start x0)
 have HX := qhid hx;have HKN := qhid hkn;have HLR := qhid hlr;have HME1 := qhid hme;have HS := qhid hs;have HB01 := qhid hb01;rw [<- hT];obtain ⟨ap,hap⟩ : ∃ a : Option Addr,a = x0.ptr.map fun a => (⟨a,0,none⟩ : Addr) := ⟨_,rfl⟩
 unfold kPtr at HI0 ⊢;rw [<- hap] at HI0 ⊢;clear hx hko hkn hlr hroot hme hs hT hap hq0 h600 hb01
 go_enter Tryz.func204,Tryz.ntmps204
 go_wp2_with fail
 go_loopg [6] x0.sz (fun gk l wr => ∃ (E : List EntN) (out : List (W4 × Wts)) (fs : List (Option Nat)) (vp sp fp : Option Addr) (n vc ol sc fc : Nat),l = .slice vp n vc /\ Hid (E.length = n) /\ Hid (out.length = ol) /\ Hid (szE (E.reverse.map fun e => (e.1,e.2.2)) <= gk /\ gk <= 1000000000) /\ Hid (NmI w0 W1 wr wb D p v mf ml E out fs l (.slice sp ol sc) (.slice fp ol fc) T))
 case atStart => exact ⟨[(x0,none,noneW)],[],[],_,none,none,1,1,0,0,0,rfl,qhid rfl,qhid rfl,qhid ⟨by simp [szE],HS.out⟩,HI0⟩
 case round =>
  clear HI0;obtain ⟨E,out,fs,vp,sp,fp,n,vc,ol,sc,fc,rfl,HN,HOL,HGK,HI⟩ := hrel
  by_cases h0 : n = 0
  ·subst h0;have hE : E = [] := List.length_eq_zero_iff.1 HN.out;subst hE
   go_wp2_with fail
   have hout := HI.out.run.done;have hm := HI.out.mem;have hf := HI.out.fol;rw [hout] at hm hf;exact bodyPost_end (v := .tuple #[]) (by simp [results,Tryz.results204,go_sem]) rfl ⟨rfl,fs,_,_,_,hm,hf⟩
  ·obtain ⟨m,rfl⟩ : ∃ m,n = m + 1 := ⟨n - 1,by omega⟩;obtain ⟨E0,⟨x,m0,f⟩,rfl,hE0⟩ : ∃ E0 e,E = E0 ++ [e] /\ E0.length = m := ⟨E.dropLast,E.getLast (by intro e;rw [e] at HN;have := HN.out;simp at this),(List.dropLast_concat_getLast _).symm,by rw [List.length_dropLast,HN.out];rfl⟩;obtain ⟨hx,hko,hdn,hwt,hok⟩ := HI.out.ents (x,m0,f) (by simp);have hx : PCAt w0 x := hx;obtain ⟨q,xf,xl,hq,hgot,hwf,hwl,hp6,hinn⟩ := kn_at HLR.out hx hdn;obtain ⟨q',k,s,z,a,b,ex,hk1,hk2⟩ := KoK.ptr hko;have ex : x = _ := ex;subst ex;obtain rfl : q' = q := by injection hq
   obtain ⟨g,cap,hv,hcap,hcm,k0,k1,hm'⟩ := HI.out.mem.last;rw [hE0] at hv hcap k0 k1 hm';have e1 : vp = some ⟨g,0,none⟩ := by injection hv
   have e3 : vc = cap := by injection hv
   subst e1 e3;replace k0 : wr.cell? ⟨g,m * 2,none⟩ = some (.pointer (some ⟨q',0,none⟩)) := k0;replace k1 : wr.cell? ⟨g,m * 2 + 1,none⟩ = some (.map m0) := k1
   have hnode : wr.heap[q']? = some (coOb k s z (kPtr a.ptr) (kPtr b.ptr)) := by
    have h1 : W1.heap[q']? = some (coOb k s z (kPtr a.ptr) (kPtr b.ptr)) := below_kept HB01.out hx.1;refine (HI.out.mem.gr.block q' (jS h1) (fun e => ?_)).trans h1;rw [<- Option.some.inj e] at HME1;have := HME1.out;rw [h1] at this;injection this with this;injection this with _ this;exact nodes_ne this
   have hknr : KnAt wr mb D := kn_gr HKN.out HI.out.mem.gr HME1.out ⟨_,HI.out.mem.me⟩
   have hsz : szE (E0.reverse.map fun e => (e.1,e.2.2)) + (1 + a.sz + b.sz) <= gk /\ gk <= 1000000000 := by
    have h1 := HGK.out;rw [List.reverse_append,List.map_append,szE_app] at h1;simp only [List.reverse_cons,List.reverse_nil,List.nil_append,List.map_cons,List.map_nil,szE,PC.sz] at h1;omega
   have hm9 : m <= 1000000000 := by
    have h1 := szE_len (E0.reverse.map fun e => (e.1,e.2.2)) (fun e he => by
     obtain ⟨e',h2,rfl⟩ := List.mem_map.1 he
     exact (HI.out.ents e' (List.mem_append_left _ (List.mem_reverse.1 h2))).2.1)
    rw [List.length_map,List.length_reverse,hE0] at h1;omega
   have hrun : RunI T out ((.node q' k s z a b,f) :: E0.reverse.map fun e => (e.1,e.2.2)) := by
    have h1 := HI.out.run;rw [List.reverse_append,List.map_append] at h1;exact h1
   have hrl := hrun.len;rw [sumE] at hrl;have hol : ol <= 600 := by have := HOL.out;omega
   have HRUN := qhid hrun;have HE0 := qhid hE0;have HSZE := qhid hsz;have HENT : Hid (∀ e ∈ E0,PCAt w0 e.1 /\ KoK e.1.co /\ (∃ q,e.1.ptr = some q /\ dnD D q = true) /\ WtAt wr (.map e.2.1) e.2.2 /\ WtOK 600 e.2.2) := qhid (fun e he => HI.out.ents e (List.mem_append_left _ he));have HFOL := qhid HI.out.fol;have HMM := qhid hm';have HXX := qhid hx;have HKO := qhid hko;have HDN := qhid hdn;have HWT : Hid (WtAt wr (.map m0) f) := qhid hwt;have HOK : Hid (WtOK 600 f) := qhid hok;have HGOT := qhid hgot;have HINN := qhid hinn;have HP6 := qhid hp6;have HRL := qhid hrl;obtain ⟨W2,hW2⟩ : ∃ X,X = wr.alloc (.cells #[.pointer (some ⟨q',0,none⟩),.map m0] 325) := ⟨_,rfl⟩;have hb2 : Below wr.heap.size wr W2 := by rw [hW2];exact below1 _ _
   obtain ⟨xb,hxb⟩ : ∃ b,b = wr.heap.size := ⟨_,rfl⟩;have HXB : Hid (W2.heap[xb]? = some (.cells #[.pointer (some ⟨q',0,none⟩),.map m0] 325 (0,0))) := qhid (by rw [hW2,hxb];exact heap_new _ _);have HND := qhid (below_kept hb2 hnode);have hkn2 := hknr.up hb2;have HKN2 := qhid hkn2;have HME := qhid (below_kept hb2 HI.out.mem.me);have HB2 := qhid hb2;have hw2 : w0.heap.size <= W2.heap.size := Nat.le_trans HB01.out.size (Nat.le_trans HI.out.mem.gr.size hb2.size);have hpab : PCAt w0 a /\ PCAt w0 b := hx.2
   have hisk : IsK W2 a.ptr /\ IsK W2 b.ptr := by
    have up : ∀ {y : PC},PCAt w0 y -> IsK W2 y.ptr := fun {y} hy i e => by
     obtain ⟨cs,t,hc⟩ := isK_up hy.isK HB01.out i e
     by_cases hi : i = wb
     ·rw [hi];exact ⟨_,_,HME.out⟩
     ·exact ⟨cs,t,below_kept hb2 ((HI.out.mem.gr.block i (jS hc) (fun e => hi (Option.some.inj e))).trans hc)⟩
    exact ⟨up hpab.1,up hpab.2⟩
   have HIK := qhid hisk;obtain ⟨an,av,af,al,hva⟩ := hkn2.got a.ptr;obtain ⟨bn,bv,bf,bl,hvb⟩ := hkn2.got b.ptr;have HVA := qhid hva;have HVB := qhid hvb;have HWRB := qhid hxb;have HMEM := qhid HI.out.mem.gr;clear hrun hE0 hsz hx hko hdn hwt hok hgot hwf hwl hp6 hinn hm' hv hnode hknr hkn2 hb2 hw2 hpab hisk hva hvb hrl hq HN HGK HI hxb;have HKN := HKN2
   go_upto_region 4 with fail
   rw [<- HWRB.out];change Code.wp _ _ _ _ (wr.alloc (.cells #[.pointer (some ⟨q',0,none⟩),.map m0] 325));rw [<- hW2];obtain ⟨q,hqq⟩ : ∃ x,x = q' := ⟨_,rfl⟩;subst hqq;clear hW2 k0 k1;refine Reg.wp_region_H (nm4 mb xb q wb ol sc sp a.ptr b.ptr an av bn bv af al bf bl) (Reg.BoxS W2 19 20 21 22 (.cells #[.int .i64 0,.int .i64 0,.map none,.map none] 196 (0,0)) (.cells #[.int .i64 an,.int .i64 av,.map af,.map al] 196 (0,0)) (.cells #[.int .i64 bn,.int .i64 bv,.map bf,.map bl] 196 (0,0))) (fun _ => 0) [0,1,2,3,4,5,6,7,8,9,10,11,12,13,14,15,16,17,18,19,20,21,22,23] (by rfl) (by kernel_rfl) (by kernel_rfl) ?_ ?_ ?_
   ·exact Reg.BoxS.start _ _
   ·refine ⟨fun gh listed A X hI hcl hin hun hall => ⟨Reg.wanted_none rfl,?_⟩,?_⟩
    ·have e2 := hI.evo (d := 2) (by kernel_rfl) rfl;have HS := hI.st;have hX := HS.bel;clear hI hX;have HS2 := qhid HS;clear HS;unfold Reg.Yields
     go_simp
     first | exact ⟨gh,fun _ _ => rfl,rfl,HS2.out.same (by decide) (by decide) (by decide) (by decide)⟩ | exact ⟨rfl,gh,fun _ _ => rfl,rfl,HS2.out.same (by decide) (by decide) (by decide) (by decide)⟩
    refine ⟨fun gh listed A X hI hcl hin hun hall => ⟨Reg.wanted_none rfl,?_⟩,?_⟩
    ·have e7 := hI.evo (d := 7) (by kernel_rfl) rfl;have HS := hI.st;have hX := HS.bel;clear hI hX;have HS2 := qhid HS;clear HS;unfold Reg.Yields
     go_simp
     first | exact ⟨gh,fun _ _ => rfl,rfl,HS2.out.same (by decide) (by decide) (by decide) (by decide)⟩ | exact ⟨rfl,gh,fun _ _ => rfl,rfl,HS2.out.same (by decide) (by decide) (by decide) (by decide)⟩
    refine ⟨fun gh listed A X hI hcl hin hun hall => ⟨Reg.wanted_none rfl,?_⟩,?_⟩
    ·have e31 : A.tmps[31]? = some (.pointer (some ⟨xb,0,none⟩)) := hI.ev (i := 1) (d := 31) (by rfl) (hall ⟨1,.data⟩ (by simp) rfl);have HS := hI.st;have hX := HS.bel;obtain ⟨x0,x1⟩ := place_cells (Reg.heap_kept_up HXB.out hX);clear hI hX;have HS2 := qhid HS;clear HS;unfold Reg.Yields
     go_simp
     first | exact ⟨gh,fun _ _ => rfl,rfl,HS2.out.same (by decide) (by decide) (by decide) (by decide)⟩ | exact ⟨rfl,gh,fun _ _ => rfl,rfl,HS2.out.same (by decide) (by decide) (by decide) (by decide)⟩
    refine ⟨fun gh listed A X hI hcl hin hun hall => ⟨Reg.wanted_none rfl,?_⟩,?_⟩
    ·have e32 : A.tmps[32]? = some (.pointer (some ⟨q,0,none⟩)) := hI.ev (i := 2) (d := 32) (by rfl) (hall ⟨2,.data⟩ (by simp) rfl);have HS := hI.st;have hX := HS.bel;clear hI hX;have HS2 := qhid HS;clear HS;unfold Reg.Yields
     go_simp
     first | exact ⟨gh,fun _ _ => rfl,rfl,HS2.out.same (by decide) (by decide) (by decide) (by decide)⟩ | exact ⟨rfl,gh,fun _ _ => rfl,rfl,HS2.out.same (by decide) (by decide) (by decide) (by decide)⟩
    refine ⟨fun gh listed A X hI hcl hin hun hall => ⟨Reg.wanted_none rfl,?_⟩,?_⟩
    ·have e33 : A.tmps[33]? = some (.pointer (some ⟨q,0,none⟩)) := hI.ev (i := 3) (d := 33) (by rfl) (hall ⟨3,.data⟩ (by simp) rfl);have HS := hI.st;have hX := HS.bel;clear hI hX;have HS2 := qhid HS;clear HS;unfold Reg.Yields
     go_simp
     first | exact ⟨gh,fun _ _ => rfl,rfl,HS2.out.same (by decide) (by decide) (by decide) (by decide)⟩ | exact ⟨rfl,gh,fun _ _ => rfl,rfl,HS2.out.same (by decide) (by decide) (by decide) (by decide)⟩
    refine ⟨fun gh listed A X hI hcl hin hun hall => ⟨Reg.wanted_none rfl,?_⟩,?_⟩
    ·have e34 : A.tmps[34]? = some (.pointer (some ⟨q,6,none⟩)) := hI.ev (i := 4) (d := 34) (by rfl) (hall ⟨4,.data⟩ (by simp) rfl);have HS := hI.st;have hX := HS.bel;obtain ⟨c0,c6,c7⟩ := co_cells (Reg.heap_kept_up HND.out hX);clear hI hX;have HS2 := qhid HS;clear HS;unfold Reg.Yields
     go_simp
     first | exact ⟨gh,fun _ _ => rfl,rfl,HS2.out.same (by decide) (by decide) (by decide) (by decide)⟩ | exact ⟨rfl,gh,fun _ _ => rfl,rfl,HS2.out.same (by decide) (by decide) (by decide) (by decide)⟩
    refine ⟨fun gh listed A X hI hcl hin hun hall => ⟨Reg.wanted_none rfl,?_⟩,?_⟩
    ·have e30 : A.tmps[30]? = some (.map (some mb)) := hI.ev (i := 0) (d := 30) (by rfl) (hall ⟨0,.data⟩ (by simp) rfl);have e35 : A.tmps[35]? = some (kPtr a.ptr) := hI.ev (i := 5) (d := 35) (by rfl) (hall ⟨5,.data⟩ (by simp) rfl);have HS := hI.st;have hX := HS.bel;have hlk := vlookup_at (HKN.out.up hX).map (isK_up HIK.out.1 hX) (HKN.out.up hX).keys (zeroPart X);rw [HVA.out] at hlk;clear hI hX;have HS2 := qhid HS;clear HS;unfold Reg.Yields
     go_simp
     first | exact ⟨gh,fun _ _ => rfl,rfl,HS2.out.same (by decide) (by decide) (by decide) (by decide)⟩ | exact ⟨rfl,gh,fun _ _ => rfl,rfl,HS2.out.same (by decide) (by decide) (by decide) (by decide)⟩
    refine ⟨fun gh listed A X hI hcl hin hun hall => ⟨Reg.wanted_none rfl,?_⟩,?_⟩
    ·have e2 := hI.evo (d := 2) (by kernel_rfl) rfl;have HS := hI.st;have hX := HS.bel;clear hI hX;have HS2 := qhid HS;clear HS;unfold Reg.Yields
     go_simp
     first | exact ⟨gh,fun _ _ => rfl,rfl,HS2.out.same (by decide) (by decide) (by decide) (by decide)⟩ | exact ⟨rfl,gh,fun _ _ => rfl,rfl,HS2.out.same (by decide) (by decide) (by decide) (by decide)⟩
    refine ⟨fun gh listed A X hI hcl hin hun hall => ⟨Reg.wanted_none rfl,?_⟩,?_⟩
    ·have e7 := hI.evo (d := 7) (by kernel_rfl) rfl;have HS := hI.st;have hX := HS.bel;clear hI hX;have HS2 := qhid HS;clear HS;unfold Reg.Yields
     go_simp
     first | exact ⟨gh,fun _ _ => rfl,rfl,HS2.out.same (by decide) (by decide) (by decide) (by decide)⟩ | exact ⟨rfl,gh,fun _ _ => rfl,rfl,HS2.out.same (by decide) (by decide) (by decide) (by decide)⟩
    refine ⟨fun gh listed A X hI hcl hin hun hall => ⟨Reg.wanted_none rfl,?_⟩,?_⟩
    ·have e38 : A.tmps[38]? = some (.pointer (some ⟨xb,0,none⟩)) := hI.ev (i := 8) (d := 38) (by rfl) (hall ⟨8,.data⟩ (by simp) rfl);have HS := hI.st;have hX := HS.bel;obtain ⟨x0,x1⟩ := place_cells (Reg.heap_kept_up HXB.out hX);clear hI hX;have HS2 := qhid HS;clear HS;unfold Reg.Yields
     go_simp
     first | exact ⟨gh,fun _ _ => rfl,rfl,HS2.out.same (by decide) (by decide) (by decide) (by decide)⟩ | exact ⟨rfl,gh,fun _ _ => rfl,rfl,HS2.out.same (by decide) (by decide) (by decide) (by decide)⟩
    refine ⟨fun gh listed A X hI hcl hin hun hall => ⟨Reg.wanted_none rfl,?_⟩,?_⟩
    ·have e39 : A.tmps[39]? = some (.pointer (some ⟨q,0,none⟩)) := hI.ev (i := 9) (d := 39) (by rfl) (hall ⟨9,.data⟩ (by simp) rfl);have HS := hI.st;have hX := HS.bel;clear hI hX;have HS2 := qhid HS;clear HS;unfold Reg.Yields
     go_simp
     first | exact ⟨gh,fun _ _ => rfl,rfl,HS2.out.same (by decide) (by decide) (by decide) (by decide)⟩ | exact ⟨rfl,gh,fun _ _ => rfl,rfl,HS2.out.same (by decide) (by decide) (by decide) (by decide)⟩
    refine ⟨fun gh listed A X hI hcl hin hun hall => ⟨Reg.wanted_none rfl,?_⟩,?_⟩
    ·have e40 : A.tmps[40]? = some (.pointer (some ⟨q,0,none⟩)) := hI.ev (i := 10) (d := 40) (by rfl) (hall ⟨10,.data⟩ (by simp) rfl);have HS := hI.st;have hX := HS.bel;clear hI hX;have HS2 := qhid HS;clear HS;unfold Reg.Yields
     go_simp
     first | exact ⟨gh,fun _ _ => rfl,rfl,HS2.out.same (by decide) (by decide) (by decide) (by decide)⟩ | exact ⟨rfl,gh,fun _ _ => rfl,rfl,HS2.out.same (by decide) (by decide) (by decide) (by decide)⟩
    refine ⟨fun gh listed A X hI hcl hin hun hall => ⟨Reg.wanted_none rfl,?_⟩,?_⟩
    ·have e41 : A.tmps[41]? = some (.pointer (some ⟨q,7,none⟩)) := hI.ev (i := 11) (d := 41) (by rfl) (hall ⟨11,.data⟩ (by simp) rfl);have HS := hI.st;have hX := HS.bel;obtain ⟨c0,c6,c7⟩ := co_cells (Reg.heap_kept_up HND.out hX);clear hI hX;have HS2 := qhid HS;clear HS;unfold Reg.Yields
     go_simp
     first | exact ⟨gh,fun _ _ => rfl,rfl,HS2.out.same (by decide) (by decide) (by decide) (by decide)⟩ | exact ⟨rfl,gh,fun _ _ => rfl,rfl,HS2.out.same (by decide) (by decide) (by decide) (by decide)⟩
    refine ⟨fun gh listed A X hI hcl hin hun hall => ⟨Reg.wanted_none rfl,?_⟩,?_⟩
    ·have e37 : A.tmps[37]? = some (.map (some mb)) := hI.ev (i := 7) (d := 37) (by rfl) (hall ⟨7,.data⟩ (by simp) rfl);have e42 : A.tmps[42]? = some (kPtr b.ptr) := hI.ev (i := 12) (d := 42) (by rfl) (hall ⟨12,.data⟩ (by simp) rfl);have HS := hI.st;have hX := HS.bel;have hlk := vlookup_at (HKN.out.up hX).map (isK_up HIK.out.2 hX) (HKN.out.up hX).keys (zeroPart X);rw [HVB.out] at hlk;clear hI hX;have HS2 := qhid HS;clear HS;unfold Reg.Yields
     go_simp
     first | exact ⟨gh,fun _ _ => rfl,rfl,HS2.out.same (by decide) (by decide) (by decide) (by decide)⟩ | exact ⟨rfl,gh,fun _ _ => rfl,rfl,HS2.out.same (by decide) (by decide) (by decide) (by decide)⟩
    refine ⟨fun gh listed A X hI hcl hin hun hall => ⟨Reg.wanted_none rfl,?_⟩,?_⟩
    ·have e0 := hI.evo (d := 0) (by kernel_rfl) rfl;have HS := hI.st;have hX := HS.bel;clear hI hX;have HS2 := qhid HS;clear HS;unfold Reg.Yields
     go_simp
     first | exact ⟨gh,fun _ _ => rfl,rfl,HS2.out.same (by decide) (by decide) (by decide) (by decide)⟩ | exact ⟨rfl,gh,fun _ _ => rfl,rfl,HS2.out.same (by decide) (by decide) (by decide) (by decide)⟩
    refine ⟨fun gh listed A X hI hcl hin hun hall => ⟨Reg.wanted_none rfl,?_⟩,?_⟩
    ·have e44 : A.tmps[44]? = some (.pointer (some ⟨wb,0,none⟩)) := hI.ev (i := 14) (d := 44) (by rfl) (hall ⟨14,.data⟩ (by simp) rfl);have HS := hI.st;have hX := HS.bel;clear hI hX;have HS2 := qhid HS;clear HS;unfold Reg.Yields
     go_simp
     first | exact ⟨gh,fun _ _ => rfl,rfl,HS2.out.same (by decide) (by decide) (by decide) (by decide)⟩ | exact ⟨rfl,gh,fun _ _ => rfl,rfl,HS2.out.same (by decide) (by decide) (by decide) (by decide)⟩
    refine ⟨fun gh listed A X hI hcl hin hun hall => ⟨Reg.wanted_none rfl,?_⟩,?_⟩
    ·have e45 : A.tmps[45]? = some (.pointer (some ⟨wb,0,none⟩)) := hI.ev (i := 15) (d := 45) (by rfl) (hall ⟨15,.data⟩ (by simp) rfl);have HS := hI.st;have hX := HS.bel;clear hI hX;have HS2 := qhid HS;clear HS;unfold Reg.Yields
     go_simp
     first | exact ⟨gh,fun _ _ => rfl,rfl,HS2.out.same (by decide) (by decide) (by decide) (by decide)⟩ | exact ⟨rfl,gh,fun _ _ => rfl,rfl,HS2.out.same (by decide) (by decide) (by decide) (by decide)⟩
    refine ⟨fun gh listed A X hI hcl hin hun hall => ⟨Reg.wanted_none rfl,?_⟩,?_⟩
    ·have e46 : A.tmps[46]? = some (.pointer (some ⟨wb,4,none⟩)) := hI.ev (i := 16) (d := 46) (by rfl) (hall ⟨16,.data⟩ (by simp) rfl);have HS := hI.st;have hX := HS.bel;obtain ⟨_,_,_,_,g4,g5⟩ := wg_cells (Reg.heap_kept_up HME.out hX);clear hI hX;have HS2 := qhid HS;clear HS;unfold Reg.Yields
     go_simp
     first | exact ⟨gh,fun _ _ => rfl,rfl,HS2.out.same (by decide) (by decide) (by decide) (by decide)⟩ | exact ⟨rfl,gh,fun _ _ => rfl,rfl,HS2.out.same (by decide) (by decide) (by decide) (by decide)⟩
    refine ⟨fun gh listed A X hI hcl hin hun hall => ⟨Reg.wanted_none rfl,?_⟩,?_⟩
    ·have e47 : A.tmps[47]? = some (.slice sp ol sc) := hI.ev (i := 17) (d := 47) (by rfl) (hall ⟨17,.data⟩ (by simp) rfl);have HS := hI.st;have hX := HS.bel;clear hI hX;have HS2 := qhid HS;clear HS;unfold Reg.Yields
     go_simp
     first | exact ⟨gh,fun _ _ => rfl,rfl,HS2.out.same (by decide) (by decide) (by decide) (by decide)⟩ | exact ⟨rfl,gh,fun _ _ => rfl,rfl,HS2.out.same (by decide) (by decide) (by decide) (by decide)⟩
    refine ⟨fun gh listed A X hI hcl hin hun hall => ⟨Reg.wanted_none rfl,?_⟩,?_⟩
    ·have HS := hI.st;have hX := HS.bel;clear hI hX;have HS2 := qhid HS;clear HS;unfold Reg.Yields
     go_simp
     exact ⟨Reg.updN gh 19 X.heap.size,fun j hj => nm4_19 (fun e => by rw [e] at hj;rw [hj] at hun;cases hun),rfl,HS2.out.newA (by decide) (by decide) (by decide) (Reg.un_of_reach hcl (n := 21) (i := 19) (by kernel_rfl) (by simpa using hun))⟩
    refine ⟨fun gh listed A X hI hcl hin hun hall => ⟨Reg.wanted_none rfl,?_⟩,?_⟩
    ·have HS := hI.st;have hX := HS.bel;clear hI hX;have HS2 := qhid HS;clear HS;unfold Reg.Yields
     go_simp
     exact ⟨Reg.updN gh 20 X.heap.size,fun j hj => nm4_20 (fun e => by rw [e] at hj;rw [hj] at hun;cases hun),rfl,HS2.out.newB (by decide) (by decide) (by decide) (Reg.un_of_reach hcl (n := 22) (i := 20) (by kernel_rfl) (by simpa using hun))⟩
    refine ⟨fun gh listed A X hI hcl hin hun hall => ⟨Reg.wanted_none rfl,?_⟩,?_⟩
    ·have e8 : A.tmps[8]? = some (.pointer (some ⟨gh 19,0,none⟩)) := hI.ev (i := 19) (d := 8) (by rfl) (hall ⟨19,.data⟩ (by simp) rfl);have e36 : A.tmps[36]? = some (.agg #[.int .i64 an,.int .i64 av,.map af,.map al]) := hI.ev (i := 6) (d := 36) (by rfl) (hall ⟨6,.data⟩ (by simp) rfl);have HS := hI.st;have hX := HS.bel;have hl19 : listed.getD 19 false = true := hall ⟨19,.phase⟩ (by simp) rfl;have hbx := (HS.a hl19).2;rw [show listed.getD 21 false = false from by simpa using hun] at hbx;have hbx : X.heap[gh 19]? = some (.cells #[.int .i64 0,.int .i64 0,.map none,.map none] 196 (0,0)) := hbx;obtain ⟨c0,c1,c2,c3⟩ := prt_cells hbx;obtain ⟨f0,f1,f2,f3⟩ := prt_unfrozen hbx;have HBX := qhid hbx;have HL := qhid hl19;clear hbx hl19;clear hI hX;have HS2 := qhid HS;clear HS;unfold Reg.Yields
     go_simp
     exact ⟨gh,fun _ _ => rfl,rfl,HS2.out.putA HL.out (by simpa using hin) (by decide) (by decide) (by decide) (put4_only X (gh 19) _ _ _ _) (put4_at HBX.out _ _ _ _)⟩
    refine ⟨fun gh listed A X hI hcl hin hun hall => ⟨Reg.wanted_none rfl,?_⟩,?_⟩
    ·have e9 : A.tmps[9]? = some (.pointer (some ⟨gh 20,0,none⟩)) := hI.ev (i := 20) (d := 9) (by rfl) (hall ⟨20,.data⟩ (by simp) rfl);have e43 : A.tmps[43]? = some (.agg #[.int .i64 bn,.int .i64 bv,.map bf,.map bl]) := hI.ev (i := 13) (d := 43) (by rfl) (hall ⟨13,.data⟩ (by simp) rfl);have HS := hI.st;have hX := HS.bel;have hl20 : listed.getD 20 false = true := hall ⟨20,.phase⟩ (by simp) rfl;have hbx := (HS.b hl20).2;rw [show listed.getD 22 false = false from by simpa using hun] at hbx;have hbx : X.heap[gh 20]? = some (.cells #[.int .i64 0,.int .i64 0,.map none,.map none] 196 (0,0)) := hbx;obtain ⟨c0,c1,c2,c3⟩ := prt_cells hbx;obtain ⟨f0,f1,f2,f3⟩ := prt_unfrozen hbx;have HBX := qhid hbx;have HL := qhid hl20;clear hbx hl20;clear hI hX;have HS2 := qhid HS;clear HS;unfold Reg.Yields
     go_simp
     exact ⟨gh,fun _ _ => rfl,rfl,HS2.out.putB HL.out (by simpa using hin) (by decide) (by decide) (by decide) (put4_only X (gh 20) _ _ _ _) (put4_at HBX.out _ _ _ _)⟩
    refine ⟨fun gh listed A X hI hcl hin hun hall => ⟨Reg.wanted_none rfl,?_⟩,?_⟩
    ·have e48 : A.tmps[48]? = some (.int .i64 (ol : Int)) := hI.ev (i := 18) (d := 48) (by rfl) (hall ⟨18,.data⟩ (by simp) rfl);have HS := hI.st;have hX := HS.bel;clear hI hX;have HS2 := qhid HS;clear HS;unfold Reg.Yields
     go_simp
     first | exact ⟨gh,fun _ _ => rfl,rfl,HS2.out.same (by decide) (by decide) (by decide) (by decide)⟩ | exact ⟨rfl,gh,fun _ _ => rfl,rfl,HS2.out.same (by decide) (by decide) (by decide) (by decide)⟩
    trivial
   ·intro gh W3 hS;have ha := hS.a (by rfl);have hb := hS.b (by rfl);have HBL := qhid hS.bel;clear hS;obtain ⟨ab,hab⟩ : ∃ x,x = gh 19 := ⟨_,rfl⟩;obtain ⟨bb,hbb⟩ : ∃ x,x = gh 20 := ⟨_,rfl⟩;have HAB : Hid (W3.heap[ab]? = some (.cells #[.int .i64 an,.int .i64 av,.map af,.map al] 196 (0,0))) := qhid (by rw [hab];exact ha.2);have HBB : Hid (W3.heap[bb]? = some (.cells #[.int .i64 bn,.int .i64 bv,.map bf,.map bl] 196 (0,0))) := qhid (by rw [hbb];exact hb.2);simp [Reg.finalTmps,Reg.dstAt,Reg.valOf,nm4];rw [<- hab,<- hbb];clear ha hb hab hbb;have hbl := HB2.out.trans (HBL.out.mono HB2.out.size);have hM3 := HMM.out.below hbl;have HM3 := qhid hM3;have HK3 : Hid (KW wr W3) := qhid (KW.below hbl);have HXB3 := qhid (Reg.heap_kept_up HXB.out HBL.out);have HND3 := qhid (Reg.heap_kept_up HND.out HBL.out);have HME3 := qhid (Reg.heap_kept_up HME.out HBL.out);have hkn3 := HKN2.out.up HBL.out
    have hiq : IsK W3 (some q) := fun i e => by
     rw [<- Option.some.inj e];exact ⟨_,_,HND3.out⟩
    have hlx := vlookup_at hkn3.map hiq hkn3.keys (zeroPart W3);rw [HGOT.out,Option.getD_some] at hlx;unfold kPtr at hlx;simp only [Option.map_some] at hlx;obtain ⟨pn,hpn⟩ : ∃ n,n = (prtC (PC.node q k s z a b).co).places := ⟨_,rfl⟩;obtain ⟨pv,hpv⟩ : ∃ n,n = (prtC (PC.node q k s z a b).co).void := ⟨_,rfl⟩;rw [<- hpn,<- hpv] at hlx;have HPN := qhid hpn;have HWB3 : Hid (W1.heap.size <= W3.heap.size) := qhid hM3.gr.size;have HSZE' := HSZE.out;have hfd := part_field;obtain ⟨x0c,x1c⟩ := place_cells HXB3.out;obtain ⟨c0,_,_⟩ := co_cells HND3.out;clear hbl hM3 hkn3 hiq hpn hpv HXB HND HME HKN HKN2 HMM
    by_cases hp0 : pn = 0
    ·subst hp0
     go_wp2_with fail
     go_roundg (gk - 1)
     case rel =>
      refine ⟨E0,out,fs,_,sp,fp,m,vc,ol,sc,fc,rfl,HE0,HOL,qhid ⟨by omega,by omega⟩,qhid ⟨HM3.out,fun e he => ?_,HRUN.out.none HPN.out.symm,HFOL.out.up HK3.out⟩⟩;obtain ⟨h1,h2,h3,h4,h5⟩ := HENT.out e he;exact ⟨h1,h2,h3,HK3.out _ _ h4,h5⟩
     case measure => omega
    ·have hp0' : ((pn : Int) == 0) = false := by simpa using hp0
     rcases empty_places (by rw [<- HPN.out];exact hp0) with rfl | rfl | rfl | rfl
     ·have HXB := HXB3;have HND := HND3;have HME := HME3;have HSR : Hid (W3.ownsRow W1.heap.size 29 4 (.slice sp ol sc) ol ((out.map Prod.fst).flatMap setV)) := qhid (by have := HM3.out.srow;rwa [List.length_map,HOL.out] at this);have HNO : Hid ((.slice sp ol sc : Value).ownBlock ≠ some wb) := qhid (fun e => by have := (ownsLt HM3.out.srow e).1;omega);have HLN : Hid (ol <= 600) := qhid hol;have HSZ := HWB3
      go_upto_region 7 with fail
      refine Reg.wp_region_H (nm7 xb q wb ol sc sp s) (Reg.AppT W3 10 11 14 (fun gg X => X.heap[gg.1]? = some (.cells (setV s : List Value).toArray 29)) (fun gg X => X.ownsRow W1.heap.size 29 4 gg.2 (ol + 1) ((out.map Prod.fst).flatMap setV ++ setV s) /\ ∃ Y,Below W3.heap.size W3 Y /\ Y.grownBy X (.slice sp ol sc : Value).ownBlock) (fun gg X => ∃ Z,(Z.ownsRow W1.heap.size 29 4 gg.2 (ol + 1) ((out.map Prod.fst).flatMap setV ++ setV s) /\ ∃ Y,Below W3.heap.size W3 Y /\ Y.grownBy Z (.slice sp ol sc : Value).ownBlock) /\ X = Z.setCell ⟨wb,4,none⟩ gg.2)) (0,undef) [0,1,2,3,4,5,6,7,8,9,10,11,12,13,14] (by rfl) (by kernel_rfl) (by kernel_rfl) ?_ ?_ ?_
      ·exact Reg.AppT.start _ _
      ·refine ⟨fun gh listed A X hI hcl hin hun hall => ⟨Reg.wanted_none rfl,?_⟩,?_⟩
       ·have e0 := hI.evo (d := 0) (by kernel_rfl) rfl;have HS := hI.st;clear hI;have HS2 := qhid HS;clear HS;unfold Reg.Yields
        go_simp
        first | exact ⟨gh,fun _ _ => rfl,rfl,HS2.out.same (by decide) (by decide) (by decide)⟩ | exact ⟨rfl,gh,fun _ _ => rfl,rfl,HS2.out.same (by decide) (by decide) (by decide)⟩
       refine ⟨fun gh listed A X hI hcl hin hun hall => ⟨Reg.wanted_none rfl,?_⟩,?_⟩
       ·have e0 := hI.evo (d := 0) (by kernel_rfl) rfl;have HS := hI.st;clear hI;have HS2 := qhid HS;clear HS;unfold Reg.Yields
        go_simp
        first | exact ⟨gh,fun _ _ => rfl,rfl,HS2.out.same (by decide) (by decide) (by decide)⟩ | exact ⟨rfl,gh,fun _ _ => rfl,rfl,HS2.out.same (by decide) (by decide) (by decide)⟩
       refine ⟨fun gh listed A X hI hcl hin hun hall => ⟨Reg.wanted_none rfl,?_⟩,?_⟩
       ·have e64 : A.tmps[64]? = some (.pointer (some ⟨wb,0,none⟩)) := hI.ev (i := 1) (d := 64) (by rfl) (hall ⟨1,.data⟩ (by simp) rfl);have HS := hI.st;clear hI;have HS2 := qhid HS;clear HS;unfold Reg.Yields
        go_simp
        first | exact ⟨gh,fun _ _ => rfl,rfl,HS2.out.same (by decide) (by decide) (by decide)⟩ | exact ⟨rfl,gh,fun _ _ => rfl,rfl,HS2.out.same (by decide) (by decide) (by decide)⟩
       refine ⟨fun gh listed A X hI hcl hin hun hall => ⟨Reg.wanted_none rfl,?_⟩,?_⟩
       ·have e65 : A.tmps[65]? = some (.pointer (some ⟨wb,0,none⟩)) := hI.ev (i := 2) (d := 65) (by rfl) (hall ⟨2,.data⟩ (by simp) rfl);have HS := hI.st;clear hI;have HS2 := qhid HS;clear HS;unfold Reg.Yields
        go_simp
        first | exact ⟨gh,fun _ _ => rfl,rfl,HS2.out.same (by decide) (by decide) (by decide)⟩ | exact ⟨rfl,gh,fun _ _ => rfl,rfl,HS2.out.same (by decide) (by decide) (by decide)⟩
       refine ⟨fun gh listed A X hI hcl hin hun hall => ⟨Reg.wanted_none rfl,?_⟩,?_⟩
       ·have e66 : A.tmps[66]? = some (.pointer (some ⟨wb,4,none⟩)) := hI.ev (i := 3) (d := 66) (by rfl) (hall ⟨3,.data⟩ (by simp) rfl);have HS := hI.st;have hnn := Reg.un_of_reach hcl (n := 11) (i := 4) (by kernel_rfl) (by simpa using hun);have hX := HS.bel hnn;obtain ⟨_,_,_,_,g4,g5⟩ := wg_cells (Reg.heap_kept_up HME.out hX);have HNN := qhid hnn;clear hX hnn;clear hI;have HS2 := qhid HS;clear HS;unfold Reg.Yields
        go_simp
        first | exact ⟨gh,fun _ _ => rfl,rfl,HS2.out.same (by decide) (by decide) (by decide)⟩ | exact ⟨rfl,gh,fun _ _ => rfl,rfl,HS2.out.same (by decide) (by decide) (by decide)⟩
       refine ⟨fun gh listed A X hI hcl hin hun hall => ⟨Reg.wanted_none rfl,?_⟩,?_⟩
       ·have e7 := hI.evo (d := 7) (by kernel_rfl) rfl;have HS := hI.st;clear hI;have HS2 := qhid HS;clear HS;unfold Reg.Yields
        go_simp
        first | exact ⟨gh,fun _ _ => rfl,rfl,HS2.out.same (by decide) (by decide) (by decide)⟩ | exact ⟨rfl,gh,fun _ _ => rfl,rfl,HS2.out.same (by decide) (by decide) (by decide)⟩
       refine ⟨fun gh listed A X hI hcl hin hun hall => ⟨Reg.wanted_none rfl,?_⟩,?_⟩
       ·have e68 : A.tmps[68]? = some (.pointer (some ⟨xb,0,none⟩)) := hI.ev (i := 5) (d := 68) (by rfl) (hall ⟨5,.data⟩ (by simp) rfl);have HS := hI.st;have hnn := Reg.un_of_reach hcl (n := 11) (i := 6) (by kernel_rfl) (by simpa using hun);have hX := HS.bel hnn;obtain ⟨x0,x1⟩ := place_cells (Reg.heap_kept_up HXB.out hX);have HNN := qhid hnn;clear hX hnn;clear hI;have HS2 := qhid HS;clear HS;unfold Reg.Yields
        go_simp
        first | exact ⟨gh,fun _ _ => rfl,rfl,HS2.out.same (by decide) (by decide) (by decide)⟩ | exact ⟨rfl,gh,fun _ _ => rfl,rfl,HS2.out.same (by decide) (by decide) (by decide)⟩
       refine ⟨fun gh listed A X hI hcl hin hun hall => ⟨Reg.wanted_none rfl,?_⟩,?_⟩
       ·have e69 : A.tmps[69]? = some (.pointer (some ⟨q,0,none⟩)) := hI.ev (i := 6) (d := 69) (by rfl) (hall ⟨6,.data⟩ (by simp) rfl);have HS := hI.st;clear hI;have HS2 := qhid HS;clear HS;unfold Reg.Yields
        go_simp
        first | exact ⟨gh,fun _ _ => rfl,rfl,HS2.out.same (by decide) (by decide) (by decide)⟩ | exact ⟨rfl,gh,fun _ _ => rfl,rfl,HS2.out.same (by decide) (by decide) (by decide)⟩
       refine ⟨fun gh listed A X hI hcl hin hun hall => ⟨Reg.wanted_none rfl,?_⟩,?_⟩
       ·have e70 : A.tmps[70]? = some (.pointer (some ⟨q,0,none⟩)) := hI.ev (i := 7) (d := 70) (by rfl) (hall ⟨7,.data⟩ (by simp) rfl);have HS := hI.st;clear hI;have HS2 := qhid HS;clear HS;unfold Reg.Yields
        go_simp
        first | exact ⟨gh,fun _ _ => rfl,rfl,HS2.out.same (by decide) (by decide) (by decide)⟩ | exact ⟨rfl,gh,fun _ _ => rfl,rfl,HS2.out.same (by decide) (by decide) (by decide)⟩
       refine ⟨fun gh listed A X hI hcl hin hun hall => ⟨Reg.wanted_none rfl,?_⟩,?_⟩
       ·have e71 : A.tmps[71]? = some (.pointer (some ⟨q,1,none⟩)) := hI.ev (i := 8) (d := 71) (by rfl) (hall ⟨8,.data⟩ (by simp) rfl);have HS := hI.st;have hnn := Reg.un_of_reach hcl (n := 11) (i := 9) (by kernel_rfl) (by simpa using hun);have hX := HS.bel hnn;obtain ⟨c1,c2,c3,c4⟩ := co_set (Reg.heap_kept_up HND.out hX);have HNN := qhid hnn;clear hX hnn;clear hI;have HS2 := qhid HS;clear HS;unfold Reg.Yields
        go_simp
        first | exact ⟨gh,fun _ _ => rfl,rfl,HS2.out.same (by decide) (by decide) (by decide)⟩ | exact ⟨rfl,gh,fun _ _ => rfl,rfl,HS2.out.same (by decide) (by decide) (by decide)⟩
       refine ⟨fun gh listed A X hI hcl hin hun hall => ⟨Reg.wanted_none rfl,?_⟩,?_⟩
       ·have e72 : A.tmps[72]? = some (.agg #[.int .u64 s.a,.int .u64 s.b,.int .u64 s.c,.int .u64 s.d]) := hI.ev (i := 9) (d := 72) (by rfl) (hall ⟨9,.data⟩ (by simp) rfl);have HS := hI.st;have hnn := Reg.un_of_reach hcl (n := 11) (i := 10) (by kernel_rfl) (by simpa using hun);have hX := HS.bel hnn;have HNN := qhid hnn;clear hX hnn;clear hI;have HS2 := qhid HS;clear HS;unfold Reg.Yields
        go_simp
        exact ⟨(X.heap.size,gh.2),fun j hj => nm7_a (j := j) (fun e => by rw [e] at hj;rw [hj] at hun;cases hun),rfl,HS2.out.first (by decide) (by decide) HNN.out (Reg.un_of_reach hcl (n := 14) (i := 10) (by kernel_rfl) (by simpa using hun)) (below1 _ _) (heap_new _ _)⟩
       refine ⟨fun gh listed A X hI hcl hin hun hall => ⟨Reg.wanted_none rfl,?_⟩,?_⟩
       ·have e67 : A.tmps[67]? = some (.slice sp ol sc) := hI.ev (i := 4) (d := 67) (by rfl) (hall ⟨4,.data⟩ (by simp) rfl);have e73 : A.tmps[73]? = some (.slice (some ⟨gh.1,0,none⟩) 1 1) := hI.ev (i := 10) (d := 73) (by rfl) (hall ⟨10,.data⟩ (by simp) rfl);have HS := hI.st;have hX := HS.bel (by simpa using hun);have hP := HS.one (hall ⟨10,.data⟩ (by simp) rfl) (by simpa using hun);have hus := Reg.un_of_reach hcl (n := 14) (i := 11) (by kernel_rfl) (by simpa using hun);have HX := qhid hX;clear hI hX;obtain ⟨i0,hif,hy0,hy1,hy2⟩ := info_parts Tryz.infoSet;have hrow := ownsBelow HSR.out HX.out;have hsz := HX.out.size;have hln := HLN.out;have hsz1 := HSZ.out;refine Reg.yields_append_own (.tmp 67) (.tmp 73) 35 rfl W1.heap.size 29 i0 (.agg #[.int .u64 0,.int .u64 0,.int .u64 0,.int .u64 0]) 4 32 Tryz.underlying35 hif hy0 hy1 hy2 rfl (by decide) (.slice sp ol sc) ol ((out.map Prod.fst).flatMap setV) (by simp [Act.eval,e67]) hrow ⟨gh.1,0,none⟩ 1 1 (setV s) (by simp [Act.eval,e73]) rfl (ccells_h hP) (by intro u hu;simp only [setV,List.mem_cons,List.not_mem_nil,or_false] at hu;rcases hu with rfl | rfl | rfl | rfl <;> rfl) (by unfold maxLen;omega) (by omega) (by omega) ?_;intro v' w' ho hg _;exact ⟨(gh.1,v'),fun j hj => nm7_b (j := j) (fun e => by rw [e] at hj;rw [hj] at hun;cases hun),rfl,HS.last (by decide) (by simpa using hin) hus ⟨ho,X,HX.out,hg⟩⟩
       refine ⟨fun gh listed A X hI hcl hin hun hall => ⟨Reg.wanted_none rfl,?_⟩,?_⟩
       ·have e63 : A.tmps[63]? = some (.pointer (some ⟨wb,0,none⟩)) := hI.ev (i := 0) (d := 63) (by rfl) (hall ⟨0,.data⟩ (by simp) rfl);have HS := hI.st;clear hI;have HS2 := qhid HS;clear HS;unfold Reg.Yields
        go_simp
        first | exact ⟨gh,fun _ _ => rfl,rfl,HS2.out.same (by decide) (by decide) (by decide)⟩ | exact ⟨rfl,gh,fun _ _ => rfl,rfl,HS2.out.same (by decide) (by decide) (by decide)⟩
       refine ⟨fun gh listed A X hI hcl hin hun hall => ⟨Reg.wanted_none rfl,?_⟩,?_⟩
       ·have e75 : A.tmps[75]? = some (.pointer (some ⟨wb,0,none⟩)) := hI.ev (i := 12) (d := 75) (by rfl) (hall ⟨12,.data⟩ (by simp) rfl);have HS := hI.st;clear hI;have HS2 := qhid HS;clear HS;unfold Reg.Yields
        go_simp
        first | exact ⟨gh,fun _ _ => rfl,rfl,HS2.out.same (by decide) (by decide) (by decide)⟩ | exact ⟨rfl,gh,fun _ _ => rfl,rfl,HS2.out.same (by decide) (by decide) (by decide)⟩
       refine ⟨fun gh listed A X hI hcl hin hun hall => ⟨Reg.wanted_none rfl,?_⟩,?_⟩
       ·have e74 : A.tmps[74]? = some (gh.2) := hI.ev (i := 11) (d := 74) (by rfl) (hall ⟨11,.data⟩ (by simp) rfl);have e76 : A.tmps[76]? = some (.pointer (some ⟨wb,4,none⟩)) := hI.ev (i := 13) (d := 76) (by rfl) (hall ⟨13,.data⟩ (by simp) rfl);have HS := hI.st;have hl : listed.getD 11 false = true := hall ⟨11,.data⟩ (by simp) rfl;have HR := qhid (HS.done hl (by simpa using hun));obtain ⟨ho,Y,hY,hg⟩ := HR.out;obtain ⟨gw,cw,hvw,_,_⟩ := ho.form (by omega);obtain ⟨gb,gv⟩ := gh;replace hvw : gv = _ := hvw;subst hvw;have hme := wg_grew HME.out hY hg (HNO.out);obtain ⟨_,_,_,_,g4,g5⟩ := wg_cells hme;have hfz := jU hme 4;have HL := qhid hl;clear ho hY hg hme hl;clear hI;have HS2 := qhid HS;clear HS;unfold Reg.Yields
        go_simp
        exact ⟨_,fun _ _ => rfl,rfl,HS2.out.put (by decide) (by simpa using hin) HL.out ⟨X,HR.out,rfl⟩⟩
       trivial
      ·intro gh X7 hS;obtain ⟨Z,⟨ho,Y,hY,hg⟩,hXZ⟩ := hS.fin (by rfl);clear hS;obtain ⟨g2,c2,hv2,_,_⟩ := ho.form (by omega);obtain ⟨gb,gv⟩ := gh;replace hv2 : gv = _ := hv2;subst hv2;simp [Reg.finalTmps,Reg.dstAt,Reg.valOf,nm7];have hM7a := HM3.out.setS hwb hY hg (by rw [List.length_map,HOL.out];exact ho);replace hXZ : X7 = Z.setCell ⟨wb,4,none⟩ (.slice (some ⟨g2,0,none⟩) (ol + 1) c2) := hXZ;replace hM7a : NmAt W1 X7 wb p v mf ml E0 (out.map Prod.fst ++ [s]) fs (.slice (some ⟨g,0,none⟩) m vc) (.slice (some ⟨g2,0,none⟩) (ol + 1) c2) (.slice fp ol fc) /\ KW W3 X7 := by rw [hXZ];exact hM7a
       have HM7 := qhid hM7a.1;have HK7 := qhid (HK3.out.trans hM7a.2);have HXB := qhid (box_kept HXB3.out HSR.out setplace_ne.1 hY hg hXZ HME3.out box_ne.1);have HND := qhid (box_kept HND3.out HSR.out box_ne.2.1 hY hg hXZ HME3.out nodes_ne);have HME := qhid hM7a.1.me;have HFR : Hid (X7.ownsRow W1.heap.size 194 1 (.slice fp ol fc) ol (fs.map Value.map)) := qhid (by have := hM7a.1.frow;rwa [HFOL.out.len,HOL.out] at this);have HNO : Hid ((.slice fp ol fc : Value).ownBlock ≠ some wb) := qhid (fun e => by have := (ownsLt hM7a.1.frow e).1;omega);have HSZ : Hid (W1.heap.size <= X7.heap.size) := qhid hM7a.1.gr.size;clear ho hY hg hXZ hM7a x0c x1c c0 hlx
       go_upto_region 8 with fail
       refine Reg.wp_region_H (nm8 xb wb ol fc fp m0) (Reg.AppT X7 7 8 11 (fun gg X => X.heap[gg.1]? = some (.cells ([.map m0] : List Value).toArray 194)) (fun gg X => X.ownsRow W1.heap.size 194 1 gg.2 (ol + 1) (fs.map Value.map ++ [.map m0]) /\ ∃ Y,Below X7.heap.size X7 Y /\ Y.grownBy X (.slice fp ol fc : Value).ownBlock) (fun gg X => ∃ Z,(Z.ownsRow W1.heap.size 194 1 gg.2 (ol + 1) (fs.map Value.map ++ [.map m0]) /\ ∃ Y,Below X7.heap.size X7 Y /\ Y.grownBy Z (.slice fp ol fc : Value).ownBlock) /\ X = Z.setCell ⟨wb,5,none⟩ gg.2)) (0,undef) [0,1,2,3,4,5,6,7,8,9,10,11] (by rfl) (by kernel_rfl) (by kernel_rfl) ?_ ?_ ?_
       ·exact Reg.AppT.start _ _
       ·refine ⟨fun gh listed A X hI hcl hin hun hall => ⟨Reg.wanted_none rfl,?_⟩,?_⟩
        ·have e0 := hI.evo (d := 0) (by kernel_rfl) rfl;have HS := hI.st;clear hI;have HS2 := qhid HS;clear HS;unfold Reg.Yields
         go_simp
         first | exact ⟨gh,fun _ _ => rfl,rfl,HS2.out.same (by decide) (by decide) (by decide)⟩ | exact ⟨rfl,gh,fun _ _ => rfl,rfl,HS2.out.same (by decide) (by decide) (by decide)⟩
        refine ⟨fun gh listed A X hI hcl hin hun hall => ⟨Reg.wanted_none rfl,?_⟩,?_⟩
        ·have e0 := hI.evo (d := 0) (by kernel_rfl) rfl;have HS := hI.st;clear hI;have HS2 := qhid HS;clear HS;unfold Reg.Yields
         go_simp
         first | exact ⟨gh,fun _ _ => rfl,rfl,HS2.out.same (by decide) (by decide) (by decide)⟩ | exact ⟨rfl,gh,fun _ _ => rfl,rfl,HS2.out.same (by decide) (by decide) (by decide)⟩
        refine ⟨fun gh listed A X hI hcl hin hun hall => ⟨Reg.wanted_none rfl,?_⟩,?_⟩
        ·have e78 : A.tmps[78]? = some (.pointer (some ⟨wb,0,none⟩)) := hI.ev (i := 1) (d := 78) (by rfl) (hall ⟨1,.data⟩ (by simp) rfl);have HS := hI.st;clear hI;have HS2 := qhid HS;clear HS;unfold Reg.Yields
         go_simp
         first | exact ⟨gh,fun _ _ => rfl,rfl,HS2.out.same (by decide) (by decide) (by decide)⟩ | exact ⟨rfl,gh,fun _ _ => rfl,rfl,HS2.out.same (by decide) (by decide) (by decide)⟩
        refine ⟨fun gh listed A X hI hcl hin hun hall => ⟨Reg.wanted_none rfl,?_⟩,?_⟩
        ·have e79 : A.tmps[79]? = some (.pointer (some ⟨wb,0,none⟩)) := hI.ev (i := 2) (d := 79) (by rfl) (hall ⟨2,.data⟩ (by simp) rfl);have HS := hI.st;clear hI;have HS2 := qhid HS;clear HS;unfold Reg.Yields
         go_simp
         first | exact ⟨gh,fun _ _ => rfl,rfl,HS2.out.same (by decide) (by decide) (by decide)⟩ | exact ⟨rfl,gh,fun _ _ => rfl,rfl,HS2.out.same (by decide) (by decide) (by decide)⟩
        refine ⟨fun gh listed A X hI hcl hin hun hall => ⟨Reg.wanted_none rfl,?_⟩,?_⟩
        ·have e80 : A.tmps[80]? = some (.pointer (some ⟨wb,5,none⟩)) := hI.ev (i := 3) (d := 80) (by rfl) (hall ⟨3,.data⟩ (by simp) rfl);have HS := hI.st;have hnn := Reg.un_of_reach hcl (n := 8) (i := 4) (by kernel_rfl) (by simpa using hun);have hX := HS.bel hnn;obtain ⟨_,_,_,_,g4,g5⟩ := wg_cells (Reg.heap_kept_up HME.out hX);have HNN := qhid hnn;clear hX hnn;clear hI;have HS2 := qhid HS;clear HS;unfold Reg.Yields
         go_simp
         first | exact ⟨gh,fun _ _ => rfl,rfl,HS2.out.same (by decide) (by decide) (by decide)⟩ | exact ⟨rfl,gh,fun _ _ => rfl,rfl,HS2.out.same (by decide) (by decide) (by decide)⟩
        refine ⟨fun gh listed A X hI hcl hin hun hall => ⟨Reg.wanted_none rfl,?_⟩,?_⟩
        ·have e7 := hI.evo (d := 7) (by kernel_rfl) rfl;have HS := hI.st;clear hI;have HS2 := qhid HS;clear HS;unfold Reg.Yields
         go_simp
         first | exact ⟨gh,fun _ _ => rfl,rfl,HS2.out.same (by decide) (by decide) (by decide)⟩ | exact ⟨rfl,gh,fun _ _ => rfl,rfl,HS2.out.same (by decide) (by decide) (by decide)⟩
        refine ⟨fun gh listed A X hI hcl hin hun hall => ⟨Reg.wanted_none rfl,?_⟩,?_⟩
        ·have e82 : A.tmps[82]? = some (.pointer (some ⟨xb,1,none⟩)) := hI.ev (i := 5) (d := 82) (by rfl) (hall ⟨5,.data⟩ (by simp) rfl);have HS := hI.st;have hnn := Reg.un_of_reach hcl (n := 8) (i := 6) (by kernel_rfl) (by simpa using hun);have hX := HS.bel hnn;obtain ⟨x0,x1⟩ := place_cells (Reg.heap_kept_up HXB.out hX);have HNN := qhid hnn;clear hX hnn;clear hI;have HS2 := qhid HS;clear HS;unfold Reg.Yields
         go_simp
         first | exact ⟨gh,fun _ _ => rfl,rfl,HS2.out.same (by decide) (by decide) (by decide)⟩ | exact ⟨rfl,gh,fun _ _ => rfl,rfl,HS2.out.same (by decide) (by decide) (by decide)⟩
        refine ⟨fun gh listed A X hI hcl hin hun hall => ⟨Reg.wanted_none rfl,?_⟩,?_⟩
        ·have e83 : A.tmps[83]? = some (.map m0) := hI.ev (i := 6) (d := 83) (by rfl) (hall ⟨6,.data⟩ (by simp) rfl);have HS := hI.st;have hnn := Reg.un_of_reach hcl (n := 8) (i := 7) (by kernel_rfl) (by simpa using hun);have hX := HS.bel hnn;have HNN := qhid hnn;clear hX hnn;clear hI;have HS2 := qhid HS;clear HS;unfold Reg.Yields
         go_simp
         exact ⟨(X.heap.size,gh.2),fun j hj => nm8_a (j := j) (fun e => by rw [e] at hj;rw [hj] at hun;cases hun),rfl,HS2.out.first (by decide) (by decide) HNN.out (Reg.un_of_reach hcl (n := 11) (i := 7) (by kernel_rfl) (by simpa using hun)) (below1 _ _) (heap_new _ _)⟩
        refine ⟨fun gh listed A X hI hcl hin hun hall => ⟨Reg.wanted_none rfl,?_⟩,?_⟩
        ·have e81 : A.tmps[81]? = some (.slice fp ol fc) := hI.ev (i := 4) (d := 81) (by rfl) (hall ⟨4,.data⟩ (by simp) rfl);have e84 : A.tmps[84]? = some (.slice (some ⟨gh.1,0,none⟩) 1 1) := hI.ev (i := 7) (d := 84) (by rfl) (hall ⟨7,.data⟩ (by simp) rfl);have HS := hI.st;have hX := HS.bel (by simpa using hun);have hP := HS.one (hall ⟨7,.data⟩ (by simp) rfl) (by simpa using hun);have hus := Reg.un_of_reach hcl (n := 11) (i := 8) (by kernel_rfl) (by simpa using hun);have HX := qhid hX;clear hI hX;obtain ⟨i0,hif,hy0,hy1,hy2⟩ := info_parts Tryz.infoWt;have hrow := ownsBelow HFR.out HX.out;have hsz := HX.out.size;have hln := HLN.out;have hsz1 := HSZ.out;refine Reg.yields_append_own (.tmp 81) (.tmp 84) 197 rfl W1.heap.size 194 i0 (.map none) 1 8 Tryz.underlying197 hif hy0 hy1 hy2 rfl (by decide) (.slice fp ol fc) ol (fs.map Value.map) (by simp [Act.eval,e81]) hrow ⟨gh.1,0,none⟩ 1 1 ([.map m0]) (by simp [Act.eval,e84]) rfl (ccells_h hP) (by intro u hu;simp only [List.mem_cons,List.not_mem_nil,or_false] at hu;rcases hu with rfl <;> rfl) (by unfold maxLen;omega) (by omega) (by omega) ?_;intro v' w' ho hg _;exact ⟨(gh.1,v'),fun j hj => nm8_b (j := j) (fun e => by rw [e] at hj;rw [hj] at hun;cases hun),rfl,HS.last (by decide) (by simpa using hin) hus ⟨ho,X,HX.out,hg⟩⟩
        refine ⟨fun gh listed A X hI hcl hin hun hall => ⟨Reg.wanted_none rfl,?_⟩,?_⟩
        ·have e77 : A.tmps[77]? = some (.pointer (some ⟨wb,0,none⟩)) := hI.ev (i := 0) (d := 77) (by rfl) (hall ⟨0,.data⟩ (by simp) rfl);have HS := hI.st;clear hI;have HS2 := qhid HS;clear HS;unfold Reg.Yields
         go_simp
         first | exact ⟨gh,fun _ _ => rfl,rfl,HS2.out.same (by decide) (by decide) (by decide)⟩ | exact ⟨rfl,gh,fun _ _ => rfl,rfl,HS2.out.same (by decide) (by decide) (by decide)⟩
        refine ⟨fun gh listed A X hI hcl hin hun hall => ⟨Reg.wanted_none rfl,?_⟩,?_⟩
        ·have e86 : A.tmps[86]? = some (.pointer (some ⟨wb,0,none⟩)) := hI.ev (i := 9) (d := 86) (by rfl) (hall ⟨9,.data⟩ (by simp) rfl);have HS := hI.st;clear hI;have HS2 := qhid HS;clear HS;unfold Reg.Yields
         go_simp
         first | exact ⟨gh,fun _ _ => rfl,rfl,HS2.out.same (by decide) (by decide) (by decide)⟩ | exact ⟨rfl,gh,fun _ _ => rfl,rfl,HS2.out.same (by decide) (by decide) (by decide)⟩
        refine ⟨fun gh listed A X hI hcl hin hun hall => ⟨Reg.wanted_none rfl,?_⟩,?_⟩
        ·have e85 : A.tmps[85]? = some (gh.2) := hI.ev (i := 8) (d := 85) (by rfl) (hall ⟨8,.data⟩ (by simp) rfl);have e87 : A.tmps[87]? = some (.pointer (some ⟨wb,5,none⟩)) := hI.ev (i := 10) (d := 87) (by rfl) (hall ⟨10,.data⟩ (by simp) rfl);have HS := hI.st;have hl : listed.getD 8 false = true := hall ⟨8,.data⟩ (by simp) rfl;have HR := qhid (HS.done hl (by simpa using hun));obtain ⟨ho,Y,hY,hg⟩ := HR.out;obtain ⟨gw,cw,hvw,_,_⟩ := ho.form (by omega);obtain ⟨gb,gv⟩ := gh;replace hvw : gv = _ := hvw;subst hvw;have hme := wg_grew HME.out hY hg (HNO.out);obtain ⟨_,_,_,_,g4,g5⟩ := wg_cells hme;have hfz := jU hme 5;have HL := qhid hl;clear ho hY hg hme hl;clear hI;have HS2 := qhid HS;clear HS;unfold Reg.Yields
         go_simp
         exact ⟨_,fun _ _ => rfl,rfl,HS2.out.put (by decide) (by simpa using hin) HL.out ⟨X,HR.out,rfl⟩⟩
        trivial
       ·intro gh X hS;obtain ⟨Z,⟨ho,Y,hY,hg⟩,hXZ⟩ := hS.fin (by rfl);clear hS;obtain ⟨g2_1,c2_1,hw2,_,_⟩ := ho.form (by omega);obtain ⟨gb,gv⟩ := gh;replace hw2 : gv = _ := hw2;subst hw2;simp [Reg.finalTmps,Reg.dstAt,Reg.valOf,nm8];have hM8a := HM7.out.setF (m := m0) hwb hY hg (by rw [HFOL.out.len,HOL.out];exact ho);replace hXZ : X = Z.setCell ⟨wb,5,none⟩ (.slice (some ⟨g2_1,0,none⟩) (ol + 1) c2_1) := hXZ;replace hM8a : NmAt W1 X wb p v mf ml E0 (out.map Prod.fst ++ [s]) (fs ++ [m0]) (.slice (some ⟨g,0,none⟩) m vc) (.slice (some ⟨g2,0,none⟩) (ol + 1) c2) (.slice (some ⟨g2_1,0,none⟩) (ol + 1) c2_1) /\ KW X7 X := by rw [hXZ];exact hM8a
        have HM8 := qhid hM8a.1;have HK8 := qhid (HK7.out.trans hM8a.2);clear ho hY hg hXZ hM8a
        go_wp2_with fail
        go_roundg (gk - 1)
        case rel =>
         refine ⟨E0,out ++ [(s,f)],fs ++ [m0],_,_,_,m,vc,ol + 1,_,_,rfl,HE0,qhid (by rw [List.length_append,HOL.out];rfl),qhid ⟨by omega,by omega⟩,qhid ⟨by rw [List.map_append];exact HM8.out,fun e he => ?_,HRUN.out.set,(HFOL.out.up HK8.out).snoc (HK8.out _ _ HWT.out)⟩⟩;obtain ⟨h1,h2,h3,h4,h5⟩ := HENT.out e he;exact ⟨h1,h2,h3,HK8.out _ _ h4,h5⟩
        case measure => omega
     ·have hpa : PCAt w0 a := HXX.out.2.1;have hpb : PCAt w0 b := HXX.out.2.2;have hko : KoK a.co /\ KoK b.co := HKO.out.2.1 (by omega);have hma : a ∈ (PC.node q 2 s z a b).inn := by rw [PC.inn,if_pos (by omega)];exact List.mem_cons_self ..
      have hmb : b ∈ (PC.node q 2 s z a b).inn := by rw [PC.inn,if_pos (by omega)];exact List.mem_cons_of_mem _ (List.mem_cons_self ..)
      have hda := HINN.out a hma;have hdb := HINN.out b hmb;obtain ⟨qa,mfa,mla,ha1,ha2,ha3,_,ha5,_⟩ := kn_at HLR.out hpa hda;obtain ⟨qb,mfb,mlb,hb1,hb2,hb3,_,hb5,_⟩ := kn_at HLR.out hpb hdb;obtain ⟨na,hna⟩ : ∃ n,n = (prtC a.co).places := ⟨_,rfl⟩;obtain ⟨nb,hnb⟩ : ∃ n,n = (prtC b.co).places := ⟨_,rfl⟩;obtain ⟨e1,e2,e3,e4⟩ := val_at ha1 ha2 HVA.out;obtain ⟨f1,f2,f3,f4⟩ := val_at hb1 hb2 HVB.out;rw [<- hna] at e1;rw [<- hnb] at f1;subst e1 e2 e3 e4 f1 f2 f3 f4;have hk1r : KW W1 wr := KW.cells HMEM.out (fun g' e => by rw [<- Option.some.inj e];exact ⟨_,_,_,HME1.out⟩);obtain ⟨pa,hpaa⟩ : ∃ x : Option Addr,x = a.ptr.map fun a => (⟨a,0,none⟩ : Addr) := ⟨_,rfl⟩
      obtain ⟨pb,hpbb⟩ : ∃ x : Option Addr,x = b.ptr.map fun a => (⟨a,0,none⟩ : Addr) := ⟨_,rfl⟩
      have HNDP : Hid (W3.heap[q]? = some (coOb 2 s z (.pointer pa) (.pointer pb))) := qhid (by rw [hpaa,hpbb];exact HND3.out);have HPAA := qhid hpaa;have HPBB := qhid hpbb;have HNA := qhid hna;have HKOS := qhid hko;have HDA := qhid hda;have HPA := qhid hpa;have HPB := qhid hpb;obtain ⟨d0,d1,d2,d3⟩ := prt_cells HAB.out;obtain ⟨u0,u1,u2,u3⟩ := prt_cells HBB.out;have hpl : (prtC (PC.node q 2 s z a b).co).places = na + nb := by rw [hna,hnb,PC.co,prtC,if_neg (by decide),if_pos rfl];rfl
      have hbd : ol + (na + nb) <= 600 := by
       have h1 := HRL.out;have h2 := HOL.out;rw [show (prtC (PC.node q 2 s z a b,f).fst.co).places = na + nb from hpl] at h1;omega
      have HSM := qhid (sum_any W3 m0 bf f (prtC b.co).first 600 nb (prtC b.co).void 1 0 (ol + na) (HK3.out _ _ HWT.out) (HK3.out _ _ (hk1r _ _ hb3)) HOK.out (by rw [hnb];exact (prt_ok b.co).first) (by omega) (prt_ok b.co).void ⟨by omega,by unfold top;omega⟩);rw [Int.natCast_add] at HSM;have HNX : Hid (WtOK 600 (smW (tmW f (prtC b.co).void 0) (tmW (prtC b.co).first 1 (ol + na)))) := qhid (((HOK.out.tm _ 0).mono (by omega)).sm (((prt_ok b.co).first.tm 1 (ol + na)).mono (by rw [<- hnb];omega)));have HDB := qhid hdb;have HBD := qhid hbd;have HNB := qhid hnb;clear hpa hpb hko hma hmb hda hdb ha1 ha2 ha3 ha5 hb1 hb2 hb3 hb5 hk1r hpaa hpbb hpl HAB HBB hna hnb
      go_wp2_with fail
      refine HSM.out.mono ?_;rintro e W4 ⟨m1,rfl,hnx,hb4⟩;have HNXT := qhid hnx;have HM4 := qhid (HM3.out.below hb4);have HK4 := qhid (HK3.out.trans (KW.below hb4));have HXB := qhid (Reg.heap_kept_up HXB3.out hb4);have HND := qhid (Reg.heap_kept_up HNDP.out hb4);obtain ⟨xs,hxs⟩ : ∃ xs,xs = E0.flatMap plV := ⟨_,rfl⟩;have HROW : Hid (W4.ownsRow W1.heap.size 325 2 (.slice (some ⟨g,0,none⟩) m vc) m xs) := qhid (by have := HM4.out.row;rw [HE0.out] at this;rw [hxs];exact this);have HSZ : Hid (W1.heap.size <= W4.heap.size) := qhid HM4.out.gr.size;have HXS := qhid hxs;clear hnx hb4 x0c x1c c0 hlx d0 d1 d2 d3 u0 u1 u2 u3 hxs
      go_upto_region 11 with fail
      refine Reg.wp_region_H (nm11 g m vc xb q pa pb m0 m1) (Reg.AppS W4 16 17 (fun gg X => X.heap[gg.1]? = some (.cells ([.pointer pb,.map m0,.pointer pa,.map m1] : List Value).toArray 325)) (fun gg X => X.ownsRow W1.heap.size 325 2 gg.2 (m + 2) (xs ++ [.pointer pb,.map m0,.pointer pa,.map m1]) /\ ∃ Y,Below W4.heap.size W4 Y /\ Y.grownBy X (.slice (some ⟨g,0,none⟩) m vc : Value).ownBlock)) (0,undef) [0,1,2,3,4,5,6,7,8,9,10,11,12,13,14,15,16,17,18] (by rfl) (by kernel_rfl) (by kernel_rfl) ?_ ?_ ?_
      ·exact Reg.AppS.start _ _
      ·refine ⟨fun gh listed A X hI hcl hin hun hall => ⟨Reg.wanted_none rfl,?_⟩,?_⟩
       ·have e6 := hI.evn (d := 6) (j := 18) (by kernel_rfl) (Reg.un_of_reach hcl (n := 18) (i := 0) (by kernel_rfl) (by simpa using hun)) rfl;have HS := hI.st;have hX := HS.bel (Reg.un_of_reach hcl (n := 17) (i := 0) (by kernel_rfl) (by simpa using hun));have HX := qhid hX;clear hX;clear hI;unfold Reg.Yields
        go_simp
        exact ⟨gh,fun _ _ => rfl,rfl,HS.same (by decide) (by decide)⟩
       refine ⟨fun gh listed A X hI hcl hin hun hall => ⟨Reg.wanted_none rfl,?_⟩,?_⟩
       ·have e7 := hI.evo (d := 7) (by kernel_rfl) rfl;have HS := hI.st;have hX := HS.bel (Reg.un_of_reach hcl (n := 17) (i := 1) (by kernel_rfl) (by simpa using hun));have HX := qhid hX;clear hX;clear hI;unfold Reg.Yields
        go_simp
        exact ⟨gh,fun _ _ => rfl,rfl,HS.same (by decide) (by decide)⟩
       refine ⟨fun gh listed A X hI hcl hin hun hall => ⟨Reg.wanted_none rfl,?_⟩,?_⟩
       ·have e109 : A.tmps[109]? = some (.pointer (some ⟨xb,0,none⟩)) := hI.ev (i := 1) (d := 109) (by rfl) (hall ⟨1,.data⟩ (by simp) rfl);have HS := hI.st;have hX := HS.bel (Reg.un_of_reach hcl (n := 17) (i := 2) (by kernel_rfl) (by simpa using hun));obtain ⟨x0,x1⟩ := place_cells (Reg.heap_kept_up HXB.out hX);have HX := qhid hX;clear hX;clear hI;unfold Reg.Yields
        go_simp
        exact ⟨gh,fun _ _ => rfl,rfl,HS.same (by decide) (by decide)⟩
       refine ⟨fun gh listed A X hI hcl hin hun hall => ⟨Reg.wanted_none rfl,?_⟩,?_⟩
       ·have e110 : A.tmps[110]? = some (.pointer (some ⟨q,0,none⟩)) := hI.ev (i := 2) (d := 110) (by rfl) (hall ⟨2,.data⟩ (by simp) rfl);have HS := hI.st;have hX := HS.bel (Reg.un_of_reach hcl (n := 17) (i := 3) (by kernel_rfl) (by simpa using hun));have HX := qhid hX;clear hX;clear hI;unfold Reg.Yields
        go_simp
        exact ⟨gh,fun _ _ => rfl,rfl,HS.same (by decide) (by decide)⟩
       refine ⟨fun gh listed A X hI hcl hin hun hall => ⟨Reg.wanted_none rfl,?_⟩,?_⟩
       ·have e111 : A.tmps[111]? = some (.pointer (some ⟨q,0,none⟩)) := hI.ev (i := 3) (d := 111) (by rfl) (hall ⟨3,.data⟩ (by simp) rfl);have HS := hI.st;have hX := HS.bel (Reg.un_of_reach hcl (n := 17) (i := 4) (by kernel_rfl) (by simpa using hun));have HX := qhid hX;clear hX;clear hI;unfold Reg.Yields
        go_simp
        exact ⟨gh,fun _ _ => rfl,rfl,HS.same (by decide) (by decide)⟩
       refine ⟨fun gh listed A X hI hcl hin hun hall => ⟨Reg.wanted_none rfl,?_⟩,?_⟩
       ·have e112 : A.tmps[112]? = some (.pointer (some ⟨q,7,none⟩)) := hI.ev (i := 4) (d := 112) (by rfl) (hall ⟨4,.data⟩ (by simp) rfl);have HS := hI.st;have hX := HS.bel (Reg.un_of_reach hcl (n := 17) (i := 5) (by kernel_rfl) (by simpa using hun));obtain ⟨_,c6,c7⟩ := co_cells (Reg.heap_kept_up HND.out hX);have HX := qhid hX;clear hX;clear hI;unfold Reg.Yields
        go_simp
        exact ⟨gh,fun _ _ => rfl,rfl,HS.same (by decide) (by decide)⟩
       refine ⟨fun gh listed A X hI hcl hin hun hall => ⟨Reg.wanted_none rfl,?_⟩,?_⟩
       ·have e7 := hI.evo (d := 7) (by kernel_rfl) rfl;have HS := hI.st;have hX := HS.bel (Reg.un_of_reach hcl (n := 17) (i := 6) (by kernel_rfl) (by simpa using hun));have HX := qhid hX;clear hX;clear hI;unfold Reg.Yields
        go_simp
        exact ⟨gh,fun _ _ => rfl,rfl,HS.same (by decide) (by decide)⟩
       refine ⟨fun gh listed A X hI hcl hin hun hall => ⟨Reg.wanted_none rfl,?_⟩,?_⟩
       ·have e114 : A.tmps[114]? = some (.pointer (some ⟨xb,1,none⟩)) := hI.ev (i := 6) (d := 114) (by rfl) (hall ⟨6,.data⟩ (by simp) rfl);have HS := hI.st;have hX := HS.bel (Reg.un_of_reach hcl (n := 17) (i := 7) (by kernel_rfl) (by simpa using hun));obtain ⟨x0,x1⟩ := place_cells (Reg.heap_kept_up HXB.out hX);have HX := qhid hX;clear hX;clear hI;unfold Reg.Yields
        go_simp
        exact ⟨gh,fun _ _ => rfl,rfl,HS.same (by decide) (by decide)⟩
       refine ⟨fun gh listed A X hI hcl hin hun hall => ⟨Reg.wanted_none rfl,?_⟩,?_⟩
       ·have e113 : A.tmps[113]? = some (.pointer pb) := hI.ev (i := 5) (d := 113) (by rfl) (hall ⟨5,.data⟩ (by simp) rfl);have e115 : A.tmps[115]? = some (.map m0) := hI.ev (i := 7) (d := 115) (by rfl) (hall ⟨7,.data⟩ (by simp) rfl);have HS := hI.st;have hX := HS.bel (Reg.un_of_reach hcl (n := 17) (i := 8) (by kernel_rfl) (by simpa using hun));have HX := qhid hX;clear hX;clear hI;unfold Reg.Yields
        go_simp
        exact ⟨gh,fun _ _ => rfl,rfl,HS.same (by decide) (by decide)⟩
       refine ⟨fun gh listed A X hI hcl hin hun hall => ⟨Reg.wanted_none rfl,?_⟩,?_⟩
       ·have e7 := hI.evo (d := 7) (by kernel_rfl) rfl;have HS := hI.st;have hX := HS.bel (Reg.un_of_reach hcl (n := 17) (i := 9) (by kernel_rfl) (by simpa using hun));have HX := qhid hX;clear hX;clear hI;unfold Reg.Yields
        go_simp
        exact ⟨gh,fun _ _ => rfl,rfl,HS.same (by decide) (by decide)⟩
       refine ⟨fun gh listed A X hI hcl hin hun hall => ⟨Reg.wanted_none rfl,?_⟩,?_⟩
       ·have e117 : A.tmps[117]? = some (.pointer (some ⟨xb,0,none⟩)) := hI.ev (i := 9) (d := 117) (by rfl) (hall ⟨9,.data⟩ (by simp) rfl);have HS := hI.st;have hX := HS.bel (Reg.un_of_reach hcl (n := 17) (i := 10) (by kernel_rfl) (by simpa using hun));obtain ⟨x0,x1⟩ := place_cells (Reg.heap_kept_up HXB.out hX);have HX := qhid hX;clear hX;clear hI;unfold Reg.Yields
        go_simp
        exact ⟨gh,fun _ _ => rfl,rfl,HS.same (by decide) (by decide)⟩
       refine ⟨fun gh listed A X hI hcl hin hun hall => ⟨Reg.wanted_none rfl,?_⟩,?_⟩
       ·have e118 : A.tmps[118]? = some (.pointer (some ⟨q,0,none⟩)) := hI.ev (i := 10) (d := 118) (by rfl) (hall ⟨10,.data⟩ (by simp) rfl);have HS := hI.st;have hX := HS.bel (Reg.un_of_reach hcl (n := 17) (i := 11) (by kernel_rfl) (by simpa using hun));have HX := qhid hX;clear hX;clear hI;unfold Reg.Yields
        go_simp
        exact ⟨gh,fun _ _ => rfl,rfl,HS.same (by decide) (by decide)⟩
       refine ⟨fun gh listed A X hI hcl hin hun hall => ⟨Reg.wanted_none rfl,?_⟩,?_⟩
       ·have e119 : A.tmps[119]? = some (.pointer (some ⟨q,0,none⟩)) := hI.ev (i := 11) (d := 119) (by rfl) (hall ⟨11,.data⟩ (by simp) rfl);have HS := hI.st;have hX := HS.bel (Reg.un_of_reach hcl (n := 17) (i := 12) (by kernel_rfl) (by simpa using hun));have HX := qhid hX;clear hX;clear hI;unfold Reg.Yields
        go_simp
        exact ⟨gh,fun _ _ => rfl,rfl,HS.same (by decide) (by decide)⟩
       refine ⟨fun gh listed A X hI hcl hin hun hall => ⟨Reg.wanted_none rfl,?_⟩,?_⟩
       ·have e120 : A.tmps[120]? = some (.pointer (some ⟨q,6,none⟩)) := hI.ev (i := 12) (d := 120) (by rfl) (hall ⟨12,.data⟩ (by simp) rfl);have HS := hI.st;have hX := HS.bel (Reg.un_of_reach hcl (n := 17) (i := 13) (by kernel_rfl) (by simpa using hun));obtain ⟨_,c6,c7⟩ := co_cells (Reg.heap_kept_up HND.out hX);have HX := qhid hX;clear hX;clear hI;unfold Reg.Yields
        go_simp
        exact ⟨gh,fun _ _ => rfl,rfl,HS.same (by decide) (by decide)⟩
       refine ⟨fun gh listed A X hI hcl hin hun hall => ⟨Reg.wanted_none rfl,?_⟩,?_⟩
       ·have e11 := hI.evo (d := 11) (by kernel_rfl) rfl;have HS := hI.st;have hX := HS.bel (Reg.un_of_reach hcl (n := 17) (i := 14) (by kernel_rfl) (by simpa using hun));have HX := qhid hX;clear hX;clear hI;unfold Reg.Yields
        go_simp
        exact ⟨gh,fun _ _ => rfl,rfl,HS.same (by decide) (by decide)⟩
       refine ⟨fun gh listed A X hI hcl hin hun hall => ⟨Reg.wanted_none rfl,?_⟩,?_⟩
       ·have e121 : A.tmps[121]? = some (.pointer pa) := hI.ev (i := 13) (d := 121) (by rfl) (hall ⟨13,.data⟩ (by simp) rfl);have e122 : A.tmps[122]? = some (.map m1) := hI.ev (i := 14) (d := 122) (by rfl) (hall ⟨14,.data⟩ (by simp) rfl);have HS := hI.st;have hX := HS.bel (Reg.un_of_reach hcl (n := 17) (i := 15) (by kernel_rfl) (by simpa using hun));have HX := qhid hX;clear hX;clear hI;unfold Reg.Yields
        go_simp
        exact ⟨gh,fun _ _ => rfl,rfl,HS.same (by decide) (by decide)⟩
       refine ⟨fun gh listed A X hI hcl hin hun hall => ⟨Reg.wanted_none rfl,?_⟩,?_⟩
       ·have e116 : A.tmps[116]? = some (.agg #[.pointer pb,.map m0]) := hI.ev (i := 8) (d := 116) (by rfl) (hall ⟨8,.data⟩ (by simp) rfl);have e123 : A.tmps[123]? = some (.agg #[.pointer pa,.map m1]) := hI.ev (i := 15) (d := 123) (by rfl) (hall ⟨15,.data⟩ (by simp) rfl);have HS := hI.st;have hX := HS.bel (Reg.un_of_reach hcl (n := 17) (i := 16) (by kernel_rfl) (by simpa using hun));have HX := qhid hX;clear hX;clear hI;unfold Reg.Yields
        go_simp
        exact ⟨(X.heap.size,gh.2),fun j hj => nm11_a (j := j) (fun e => by rw [e] at hj;rw [hj] at hun;cases hun),rfl,HS.first (by decide) (Reg.un_of_reach hcl (n := 17) (i := 16) (by kernel_rfl) (by simpa using hun)) (below1 _ _) (heap_new _ _)⟩
       refine ⟨fun gh listed A X hI hcl hin hun hall => ⟨Reg.wanted_none rfl,?_⟩,?_⟩
       ·have e108 : A.tmps[108]? = some (.slice (some ⟨g,0,none⟩) m vc) := hI.ev (i := 0) (d := 108) (by rfl) (hall ⟨0,.data⟩ (by simp) rfl);have e124 : A.tmps[124]? = some (.slice (some ⟨gh.1,0,none⟩) 2 2) := hI.ev (i := 16) (d := 124) (by rfl) (hall ⟨16,.data⟩ (by simp) rfl);have HS := hI.st;have hX := HS.bel (by simpa using hun);have hP := HS.one (hall ⟨16,.data⟩ (by simp) rfl) (by simpa using hun);have HX := qhid hX;clear hI hX;obtain ⟨i0,hif,hy0,hy1,hy2⟩ := info_parts Tryz.infoPlace;have hrow := ownsBelow HROW.out HX.out;have hsz1 := HSZ.out;have hsz := HX.out.size;refine Reg.yields_append_own (.tmp 108) (.tmp 124) 326 rfl W1.heap.size 325 i0 (.agg #[.pointer none,.map none]) 2 16 Tryz.underlying326 hif hy0 hy1 hy2 rfl (by decide) (.slice (some ⟨g,0,none⟩) m vc) m xs (by simp [Act.eval,e108]) hrow ⟨gh.1,0,none⟩ 2 2 [.pointer pb,.map m0,.pointer pa,.map m1] (by simp [Act.eval,e124]) rfl (ccells_h hP) (by intro u hu;simp only [List.mem_cons,List.not_mem_nil,or_false] at hu;rcases hu with rfl | rfl | rfl | rfl <;> rfl) (by unfold maxLen;omega) (by omega) (by omega) ?_;intro v' w' ho hg _;exact ⟨(gh.1,v'),fun j hj => nm11_b (j := j) (fun e => by rw [e] at hj;rw [hj] at hun;cases hun) (fun e => by rw [e] at hj;rw [Reg.closed_reach hcl 60 18 17 (by kernel_rfl) hj] at hun;cases hun),rfl,HS.last (by simpa using hin) ⟨ho,X,HX.out,hg⟩⟩
       refine ⟨fun gh listed A X hI hcl hin hun hall => ⟨Reg.wanted_none rfl,?_⟩,?_⟩
       ·have e125 : A.tmps[125]? = some (gh.2) := hI.ev (i := 17) (d := 125) (by rfl) (hall ⟨17,.data⟩ (by simp) rfl);have HS := hI.st;clear hI;unfold Reg.Yields
        go_simp
        exact ⟨gh,fun _ _ => rfl,rfl,HS.same (by decide) (by decide)⟩
       trivial
      ·intro gh X hS;have HR := qhid (hS.done (by rfl));clear hS;simp [Reg.finalTmps,Reg.dstAt,Reg.valOf,nm11];obtain ⟨ho,Y,hY,hg⟩ := HR.out;obtain ⟨gw,cw,hvw,_,_⟩ := ho.form (by omega);obtain ⟨gb,gv⟩ := gh;replace hvw : gv = _ := hvw;subst hvw
       have hrow : X.ownsRow W1.heap.size 325 2 (.slice (some ⟨gw,0,none⟩) (m + 2) cw) (E0 ++ [(b,m0,f)] ++ [(a,m1,smW (tmW f (prtC b.co).void 0) (tmW (prtC b.co).first 1 (ol + na)))]).length ((E0 ++ [(b,m0,f)] ++ [(a,m1,smW (tmW f (prtC b.co).void 0) (tmW (prtC b.co).first 1 (ol + na)))]).flatMap plV) := by
        have e1 : (E0 ++ [(b,m0,f)] ++ [(a,m1,smW (tmW f (prtC b.co).void 0) (tmW (prtC b.co).first 1 (ol + na)))]).length = m + 2 := by simp [HE0.out]
        have e2 : (E0 ++ [(b,m0,f)] ++ [(a,m1,smW (tmW f (prtC b.co).void 0) (tmW (prtC b.co).first 1 (ol + na)))]).flatMap plV = xs ++ [.pointer pb,.map m0,.pointer pa,.map m1] := by
         rw [HXS.out,HPAA.out,HPBB.out];simp [plV,List.flatMap_append]
        rw [e1,e2];exact ho
       have HM5 := qhid (HM4.out.push hwb hY hg hrow)
       have HK45 : Hid (KW W4 X) := qhid ((KW.below hY).trans (KW.cells hg (fun g' e => by
        obtain ⟨c,hc⟩ := owns_cells (ownsBelow HROW.out hY) e
        exact ⟨c,_,_,hc⟩)))
       have HK5 := qhid (HK4.out.trans HK45.out);clear ho hY hg hrow
       go_wp2_with fail
       go_roundg (gk - 1)
       case rel =>
        refine ⟨E0 ++ [(b,m0,f)] ++ [(a,m1,smW (tmW f (prtC b.co).void 0) (tmW (prtC b.co).first 1 (ol + na)))],out,fs,_,sp,fp,m + 2,cw,ol,sc,fc,rfl,qhid (by simp [HE0.out]),HOL,qhid ⟨?_,by omega⟩,qhid ⟨HM5.out,fun e he => ?_,?_,HFOL.out.up HK5.out⟩⟩
        ·simp only [List.reverse_append,List.reverse_cons,List.reverse_nil,List.nil_append,List.cons_append,List.map_cons,szE];omega
        ·rcases List.mem_append.1 he with he | he
         ·rcases List.mem_append.1 he with he | he
          ·obtain ⟨h1,h2,h3,h4,h5⟩ := HENT.out e he;exact ⟨h1,h2,h3,HK5.out _ _ h4,h5⟩
          ·rw [List.mem_singleton.1 he];exact ⟨HPB.out,HKOS.out.2,HDB.out,HK5.out _ _ HWT.out,HOK.out⟩
         ·rw [List.mem_singleton.1 he];exact ⟨HPA.out,HKOS.out.1,HDA.out,HK45.out _ _ HNXT.out,HNX.out⟩
        ·have h := HRUN.out.cat;rw [HOL.out,<- HNA.out] at h;simpa [List.reverse_append] using h
       case measure => omega
     ·have hpa : PCAt w0 a := HXX.out.2.1;have hpb : PCAt w0 b := HXX.out.2.2;have hko : KoK a.co /\ KoK b.co := HKO.out.2.1 (by omega);have hma : a ∈ (PC.node q 3 s z a b).inn := by rw [PC.inn,if_pos (by omega)];exact List.mem_cons_self ..
      have hmb : b ∈ (PC.node q 3 s z a b).inn := by rw [PC.inn,if_pos (by omega)];exact List.mem_cons_of_mem _ (List.mem_cons_self ..)
      have hda := HINN.out a hma;have hdb := HINN.out b hmb;obtain ⟨qa,mfa,mla,ha1,ha2,ha3,_,ha5,_⟩ := kn_at HLR.out hpa hda;obtain ⟨qb,mfb,mlb,hb1,hb2,hb3,_,hb5,_⟩ := kn_at HLR.out hpb hdb;obtain ⟨na,hna⟩ : ∃ n,n = (prtC a.co).places := ⟨_,rfl⟩;obtain ⟨nb,hnb⟩ : ∃ n,n = (prtC b.co).places := ⟨_,rfl⟩;obtain ⟨e1,e2,e3,e4⟩ := val_at ha1 ha2 HVA.out;obtain ⟨f1,f2,f3,f4⟩ := val_at hb1 hb2 HVB.out;rw [<- hna] at e1;rw [<- hnb] at f1;subst e1 e2 e3 e4 f1 f2 f3 f4;have hk1r : KW W1 wr := KW.cells HMEM.out (fun g' e => by rw [<- Option.some.inj e];exact ⟨_,_,_,HME1.out⟩);obtain ⟨pa,hpaa⟩ : ∃ x : Option Addr,x = a.ptr.map fun a => (⟨a,0,none⟩ : Addr) := ⟨_,rfl⟩
      obtain ⟨pb,hpbb⟩ : ∃ x : Option Addr,x = b.ptr.map fun a => (⟨a,0,none⟩ : Addr) := ⟨_,rfl⟩
      have HNDP : Hid (W3.heap[q]? = some (coOb 3 s z (.pointer pa) (.pointer pb))) := qhid (by rw [hpaa,hpbb];exact HND3.out);have HPAA := qhid hpaa;have HPBB := qhid hpbb;have HNA := qhid hna;have HKOS := qhid hko;have HDA := qhid hda;have HPA := qhid hpa;have HPB := qhid hpb;obtain ⟨d0,d1,d2,d3⟩ := prt_cells HAB.out;obtain ⟨u0,u1,u2,u3⟩ := prt_cells HBB.out;have HDB := qhid hdb;have HXB := HXB3;have HND := HNDP;obtain ⟨xs,hxs⟩ : ∃ xs,xs = E0.flatMap plV := ⟨_,rfl⟩;have HROW : Hid (W3.ownsRow W1.heap.size 325 2 (.slice (some ⟨g,0,none⟩) m vc) m xs) := qhid (by have := HM3.out.row;rw [HE0.out] at this;rw [hxs];exact this);have HSZ := HWB3;have HXS := qhid hxs;clear hpa hpb hko hma hmb hda hdb ha1 ha2 ha3 ha5 hb1 hb2 hb3 hb5 hk1r hpaa hpbb HAB HBB hna hnb hxs d0 d1 d2 d3 u0 u1 u2 u3
      go_upto_region 13 with fail
      refine Reg.wp_region_H (nm13 g m vc xb q pa pb m0) (Reg.AppS W3 17 18 (fun gg X => X.heap[gg.1]? = some (.cells ([.pointer pb,.map m0,.pointer pa,.map m0] : List Value).toArray 325)) (fun gg X => X.ownsRow W1.heap.size 325 2 gg.2 (m + 2) (xs ++ [.pointer pb,.map m0,.pointer pa,.map m0]) /\ ∃ Y,Below W3.heap.size W3 Y /\ Y.grownBy X (.slice (some ⟨g,0,none⟩) m vc : Value).ownBlock)) (0,undef) [0,1,2,3,4,5,6,7,8,9,10,11,12,13,14,15,16,17,18,19] (by rfl) (by kernel_rfl) (by kernel_rfl) ?_ ?_ ?_
      ·exact Reg.AppS.start _ _
      ·refine ⟨fun gh listed A X hI hcl hin hun hall => ⟨Reg.wanted_none rfl,?_⟩,?_⟩
       ·have e6 := hI.evn (d := 6) (j := 19) (by kernel_rfl) (Reg.un_of_reach hcl (n := 19) (i := 0) (by kernel_rfl) (by simpa using hun)) rfl;have HS := hI.st;have hX := HS.bel (Reg.un_of_reach hcl (n := 18) (i := 0) (by kernel_rfl) (by simpa using hun));have HX := qhid hX;clear hX;clear hI;unfold Reg.Yields
        go_simp
        exact ⟨gh,fun _ _ => rfl,rfl,HS.same (by decide) (by decide)⟩
       refine ⟨fun gh listed A X hI hcl hin hun hall => ⟨Reg.wanted_none rfl,?_⟩,?_⟩
       ·have e7 := hI.evo (d := 7) (by kernel_rfl) rfl;have HS := hI.st;have hX := HS.bel (Reg.un_of_reach hcl (n := 18) (i := 1) (by kernel_rfl) (by simpa using hun));have HX := qhid hX;clear hX;clear hI;unfold Reg.Yields
        go_simp
        exact ⟨gh,fun _ _ => rfl,rfl,HS.same (by decide) (by decide)⟩
       refine ⟨fun gh listed A X hI hcl hin hun hall => ⟨Reg.wanted_none rfl,?_⟩,?_⟩
       ·have e134 : A.tmps[134]? = some (.pointer (some ⟨xb,0,none⟩)) := hI.ev (i := 1) (d := 134) (by rfl) (hall ⟨1,.data⟩ (by simp) rfl);have HS := hI.st;have hX := HS.bel (Reg.un_of_reach hcl (n := 18) (i := 2) (by kernel_rfl) (by simpa using hun));obtain ⟨x0,x1⟩ := place_cells (Reg.heap_kept_up HXB.out hX);have HX := qhid hX;clear hX;clear hI;unfold Reg.Yields
        go_simp
        exact ⟨gh,fun _ _ => rfl,rfl,HS.same (by decide) (by decide)⟩
       refine ⟨fun gh listed A X hI hcl hin hun hall => ⟨Reg.wanted_none rfl,?_⟩,?_⟩
       ·have e135 : A.tmps[135]? = some (.pointer (some ⟨q,0,none⟩)) := hI.ev (i := 2) (d := 135) (by rfl) (hall ⟨2,.data⟩ (by simp) rfl);have HS := hI.st;have hX := HS.bel (Reg.un_of_reach hcl (n := 18) (i := 3) (by kernel_rfl) (by simpa using hun));have HX := qhid hX;clear hX;clear hI;unfold Reg.Yields
        go_simp
        exact ⟨gh,fun _ _ => rfl,rfl,HS.same (by decide) (by decide)⟩
       refine ⟨fun gh listed A X hI hcl hin hun hall => ⟨Reg.wanted_none rfl,?_⟩,?_⟩
       ·have e136 : A.tmps[136]? = some (.pointer (some ⟨q,0,none⟩)) := hI.ev (i := 3) (d := 136) (by rfl) (hall ⟨3,.data⟩ (by simp) rfl);have HS := hI.st;have hX := HS.bel (Reg.un_of_reach hcl (n := 18) (i := 4) (by kernel_rfl) (by simpa using hun));have HX := qhid hX;clear hX;clear hI;unfold Reg.Yields
        go_simp
        exact ⟨gh,fun _ _ => rfl,rfl,HS.same (by decide) (by decide)⟩
       refine ⟨fun gh listed A X hI hcl hin hun hall => ⟨Reg.wanted_none rfl,?_⟩,?_⟩
       ·have e137 : A.tmps[137]? = some (.pointer (some ⟨q,7,none⟩)) := hI.ev (i := 4) (d := 137) (by rfl) (hall ⟨4,.data⟩ (by simp) rfl);have HS := hI.st;have hX := HS.bel (Reg.un_of_reach hcl (n := 18) (i := 5) (by kernel_rfl) (by simpa using hun));obtain ⟨_,c6,c7⟩ := co_cells (Reg.heap_kept_up HND.out hX);have HX := qhid hX;clear hX;clear hI;unfold Reg.Yields
        go_simp
        exact ⟨gh,fun _ _ => rfl,rfl,HS.same (by decide) (by decide)⟩
       refine ⟨fun gh listed A X hI hcl hin hun hall => ⟨Reg.wanted_none rfl,?_⟩,?_⟩
       ·have e7 := hI.evo (d := 7) (by kernel_rfl) rfl;have HS := hI.st;have hX := HS.bel (Reg.un_of_reach hcl (n := 18) (i := 6) (by kernel_rfl) (by simpa using hun));have HX := qhid hX;clear hX;clear hI;unfold Reg.Yields
        go_simp
        exact ⟨gh,fun _ _ => rfl,rfl,HS.same (by decide) (by decide)⟩
       refine ⟨fun gh listed A X hI hcl hin hun hall => ⟨Reg.wanted_none rfl,?_⟩,?_⟩
       ·have e139 : A.tmps[139]? = some (.pointer (some ⟨xb,1,none⟩)) := hI.ev (i := 6) (d := 139) (by rfl) (hall ⟨6,.data⟩ (by simp) rfl);have HS := hI.st;have hX := HS.bel (Reg.un_of_reach hcl (n := 18) (i := 7) (by kernel_rfl) (by simpa using hun));obtain ⟨x0,x1⟩ := place_cells (Reg.heap_kept_up HXB.out hX);have HX := qhid hX;clear hX;clear hI;unfold Reg.Yields
        go_simp
        exact ⟨gh,fun _ _ => rfl,rfl,HS.same (by decide) (by decide)⟩
       refine ⟨fun gh listed A X hI hcl hin hun hall => ⟨Reg.wanted_none rfl,?_⟩,?_⟩
       ·have e138 : A.tmps[138]? = some (.pointer pb) := hI.ev (i := 5) (d := 138) (by rfl) (hall ⟨5,.data⟩ (by simp) rfl);have e140 : A.tmps[140]? = some (.map m0) := hI.ev (i := 7) (d := 140) (by rfl) (hall ⟨7,.data⟩ (by simp) rfl);have HS := hI.st;have hX := HS.bel (Reg.un_of_reach hcl (n := 18) (i := 8) (by kernel_rfl) (by simpa using hun));have HX := qhid hX;clear hX;clear hI;unfold Reg.Yields
        go_simp
        exact ⟨gh,fun _ _ => rfl,rfl,HS.same (by decide) (by decide)⟩
       refine ⟨fun gh listed A X hI hcl hin hun hall => ⟨Reg.wanted_none rfl,?_⟩,?_⟩
       ·have e7 := hI.evo (d := 7) (by kernel_rfl) rfl;have HS := hI.st;have hX := HS.bel (Reg.un_of_reach hcl (n := 18) (i := 9) (by kernel_rfl) (by simpa using hun));have HX := qhid hX;clear hX;clear hI;unfold Reg.Yields
        go_simp
        exact ⟨gh,fun _ _ => rfl,rfl,HS.same (by decide) (by decide)⟩
       refine ⟨fun gh listed A X hI hcl hin hun hall => ⟨Reg.wanted_none rfl,?_⟩,?_⟩
       ·have e142 : A.tmps[142]? = some (.pointer (some ⟨xb,0,none⟩)) := hI.ev (i := 9) (d := 142) (by rfl) (hall ⟨9,.data⟩ (by simp) rfl);have HS := hI.st;have hX := HS.bel (Reg.un_of_reach hcl (n := 18) (i := 10) (by kernel_rfl) (by simpa using hun));obtain ⟨x0,x1⟩ := place_cells (Reg.heap_kept_up HXB.out hX);have HX := qhid hX;clear hX;clear hI;unfold Reg.Yields
        go_simp
        exact ⟨gh,fun _ _ => rfl,rfl,HS.same (by decide) (by decide)⟩
       refine ⟨fun gh listed A X hI hcl hin hun hall => ⟨Reg.wanted_none rfl,?_⟩,?_⟩
       ·have e143 : A.tmps[143]? = some (.pointer (some ⟨q,0,none⟩)) := hI.ev (i := 10) (d := 143) (by rfl) (hall ⟨10,.data⟩ (by simp) rfl);have HS := hI.st;have hX := HS.bel (Reg.un_of_reach hcl (n := 18) (i := 11) (by kernel_rfl) (by simpa using hun));have HX := qhid hX;clear hX;clear hI;unfold Reg.Yields
        go_simp
        exact ⟨gh,fun _ _ => rfl,rfl,HS.same (by decide) (by decide)⟩
       refine ⟨fun gh listed A X hI hcl hin hun hall => ⟨Reg.wanted_none rfl,?_⟩,?_⟩
       ·have e144 : A.tmps[144]? = some (.pointer (some ⟨q,0,none⟩)) := hI.ev (i := 11) (d := 144) (by rfl) (hall ⟨11,.data⟩ (by simp) rfl);have HS := hI.st;have hX := HS.bel (Reg.un_of_reach hcl (n := 18) (i := 12) (by kernel_rfl) (by simpa using hun));have HX := qhid hX;clear hX;clear hI;unfold Reg.Yields
        go_simp
        exact ⟨gh,fun _ _ => rfl,rfl,HS.same (by decide) (by decide)⟩
       refine ⟨fun gh listed A X hI hcl hin hun hall => ⟨Reg.wanted_none rfl,?_⟩,?_⟩
       ·have e145 : A.tmps[145]? = some (.pointer (some ⟨q,6,none⟩)) := hI.ev (i := 12) (d := 145) (by rfl) (hall ⟨12,.data⟩ (by simp) rfl);have HS := hI.st;have hX := HS.bel (Reg.un_of_reach hcl (n := 18) (i := 13) (by kernel_rfl) (by simpa using hun));obtain ⟨_,c6,c7⟩ := co_cells (Reg.heap_kept_up HND.out hX);have HX := qhid hX;clear hX;clear hI;unfold Reg.Yields
        go_simp
        exact ⟨gh,fun _ _ => rfl,rfl,HS.same (by decide) (by decide)⟩
       refine ⟨fun gh listed A X hI hcl hin hun hall => ⟨Reg.wanted_none rfl,?_⟩,?_⟩
       ·have e7 := hI.evo (d := 7) (by kernel_rfl) rfl;have HS := hI.st;have hX := HS.bel (Reg.un_of_reach hcl (n := 18) (i := 14) (by kernel_rfl) (by simpa using hun));have HX := qhid hX;clear hX;clear hI;unfold Reg.Yields
        go_simp
        exact ⟨gh,fun _ _ => rfl,rfl,HS.same (by decide) (by decide)⟩
       refine ⟨fun gh listed A X hI hcl hin hun hall => ⟨Reg.wanted_none rfl,?_⟩,?_⟩
       ·have e147 : A.tmps[147]? = some (.pointer (some ⟨xb,1,none⟩)) := hI.ev (i := 14) (d := 147) (by rfl) (hall ⟨14,.data⟩ (by simp) rfl);have HS := hI.st;have hX := HS.bel (Reg.un_of_reach hcl (n := 18) (i := 15) (by kernel_rfl) (by simpa using hun));obtain ⟨x0,x1⟩ := place_cells (Reg.heap_kept_up HXB.out hX);have HX := qhid hX;clear hX;clear hI;unfold Reg.Yields
        go_simp
        exact ⟨gh,fun _ _ => rfl,rfl,HS.same (by decide) (by decide)⟩
       refine ⟨fun gh listed A X hI hcl hin hun hall => ⟨Reg.wanted_none rfl,?_⟩,?_⟩
       ·have e146 : A.tmps[146]? = some (.pointer pa) := hI.ev (i := 13) (d := 146) (by rfl) (hall ⟨13,.data⟩ (by simp) rfl);have e148 : A.tmps[148]? = some (.map m0) := hI.ev (i := 15) (d := 148) (by rfl) (hall ⟨15,.data⟩ (by simp) rfl);have HS := hI.st;have hX := HS.bel (Reg.un_of_reach hcl (n := 18) (i := 16) (by kernel_rfl) (by simpa using hun));have HX := qhid hX;clear hX;clear hI;unfold Reg.Yields
        go_simp
        exact ⟨gh,fun _ _ => rfl,rfl,HS.same (by decide) (by decide)⟩
       refine ⟨fun gh listed A X hI hcl hin hun hall => ⟨Reg.wanted_none rfl,?_⟩,?_⟩
       ·have e141 : A.tmps[141]? = some (.agg #[.pointer pb,.map m0]) := hI.ev (i := 8) (d := 141) (by rfl) (hall ⟨8,.data⟩ (by simp) rfl);have e149 : A.tmps[149]? = some (.agg #[.pointer pa,.map m0]) := hI.ev (i := 16) (d := 149) (by rfl) (hall ⟨16,.data⟩ (by simp) rfl);have HS := hI.st;have hX := HS.bel (Reg.un_of_reach hcl (n := 18) (i := 17) (by kernel_rfl) (by simpa using hun));have HX := qhid hX;clear hX;clear hI;unfold Reg.Yields
        go_simp
        exact ⟨(X.heap.size,gh.2),fun j hj => nm13_a (j := j) (fun e => by rw [e] at hj;rw [hj] at hun;cases hun),rfl,HS.first (by decide) (Reg.un_of_reach hcl (n := 18) (i := 17) (by kernel_rfl) (by simpa using hun)) (below1 _ _) (heap_new _ _)⟩
       refine ⟨fun gh listed A X hI hcl hin hun hall => ⟨Reg.wanted_none rfl,?_⟩,?_⟩
       ·have e133 : A.tmps[133]? = some (.slice (some ⟨g,0,none⟩) m vc) := hI.ev (i := 0) (d := 133) (by rfl) (hall ⟨0,.data⟩ (by simp) rfl);have e150 : A.tmps[150]? = some (.slice (some ⟨gh.1,0,none⟩) 2 2) := hI.ev (i := 17) (d := 150) (by rfl) (hall ⟨17,.data⟩ (by simp) rfl);have HS := hI.st;have hX := HS.bel (by simpa using hun);have hP := HS.one (hall ⟨17,.data⟩ (by simp) rfl) (by simpa using hun);have HX := qhid hX;clear hI hX;obtain ⟨i0,hif,hy0,hy1,hy2⟩ := info_parts Tryz.infoPlace;have hrow := ownsBelow HROW.out HX.out;have hsz1 := HSZ.out;have hsz := HX.out.size;refine Reg.yields_append_own (.tmp 133) (.tmp 150) 326 rfl W1.heap.size 325 i0 (.agg #[.pointer none,.map none]) 2 16 Tryz.underlying326 hif hy0 hy1 hy2 rfl (by decide) (.slice (some ⟨g,0,none⟩) m vc) m xs (by simp [Act.eval,e133]) hrow ⟨gh.1,0,none⟩ 2 2 [.pointer pb,.map m0,.pointer pa,.map m0] (by simp [Act.eval,e150]) rfl (ccells_h hP) (by intro u hu;simp only [List.mem_cons,List.not_mem_nil,or_false] at hu;rcases hu with rfl | rfl | rfl | rfl <;> rfl) (by unfold maxLen;omega) (by omega) (by omega) ?_;intro v' w' ho hg _;exact ⟨(gh.1,v'),fun j hj => nm13_b (j := j) (fun e => by rw [e] at hj;rw [hj] at hun;cases hun) (fun e => by rw [e] at hj;rw [Reg.closed_reach hcl 60 19 18 (by kernel_rfl) hj] at hun;cases hun),rfl,HS.last (by simpa using hin) ⟨ho,X,HX.out,hg⟩⟩
       refine ⟨fun gh listed A X hI hcl hin hun hall => ⟨Reg.wanted_none rfl,?_⟩,?_⟩
       ·have e151 : A.tmps[151]? = some (gh.2) := hI.ev (i := 18) (d := 151) (by rfl) (hall ⟨18,.data⟩ (by simp) rfl);have HS := hI.st;clear hI;unfold Reg.Yields
        go_simp
        exact ⟨gh,fun _ _ => rfl,rfl,HS.same (by decide) (by decide)⟩
       trivial
      ·intro gh X hS;have HR := qhid (hS.done (by rfl));clear hS;simp [Reg.finalTmps,Reg.dstAt,Reg.valOf,nm13];obtain ⟨ho,Y,hY,hg⟩ := HR.out;obtain ⟨gw,cw,hvw,_,_⟩ := ho.form (by omega);obtain ⟨gb,gv⟩ := gh;replace hvw : gv = _ := hvw;subst hvw
       have hrow : X.ownsRow W1.heap.size 325 2 (.slice (some ⟨gw,0,none⟩) (m + 2) cw) (E0 ++ [(b,m0,f)] ++ [(a,m0,f)]).length ((E0 ++ [(b,m0,f)] ++ [(a,m0,f)]).flatMap plV) := by
        have e1 : (E0 ++ [(b,m0,f)] ++ [(a,m0,f)]).length = m + 2 := by simp [HE0.out]
        have e2 : (E0 ++ [(b,m0,f)] ++ [(a,m0,f)]).flatMap plV = xs ++ [.pointer pb,.map m0,.pointer pa,.map m0] := by
         rw [HXS.out,HPAA.out,HPBB.out];simp [plV,List.flatMap_append]
        rw [e1,e2];exact ho
       have HM5 := qhid (HM3.out.push hwb hY hg hrow)
       have HK45 : Hid (KW W3 X) := qhid ((KW.below hY).trans (KW.cells hg (fun g' e => by
        obtain ⟨c,hc⟩ := owns_cells (ownsBelow HROW.out hY) e
        exact ⟨c,_,_,hc⟩)))
       have HK5 := qhid (HK3.out.trans HK45.out);clear ho hY hg hrow
       go_wp2_with fail
       go_roundg (gk - 1)
       case rel =>
        refine ⟨E0 ++ [(b,m0,f)] ++ [(a,m0,f)],out,fs,_,sp,fp,m + 2,cw,ol,sc,fc,rfl,qhid (by simp [HE0.out]),HOL,qhid ⟨?_,by omega⟩,qhid ⟨HM5.out,fun e he => ?_,?_,HFOL.out.up HK5.out⟩⟩
        ·simp only [List.reverse_append,List.reverse_cons,List.reverse_nil,List.nil_append,List.cons_append,List.map_cons,szE];omega
        ·rcases List.mem_append.1 he with he | he
         ·rcases List.mem_append.1 he with he | he
          ·obtain ⟨h1,h2,h3,h4,h5⟩ := HENT.out e he;exact ⟨h1,h2,h3,HK5.out _ _ h4,h5⟩
          ·rw [List.mem_singleton.1 he];exact ⟨HPB.out,HKOS.out.2,HDB.out,HK5.out _ _ HWT.out,HOK.out⟩
         ·rw [List.mem_singleton.1 he];exact ⟨HPA.out,HKOS.out.1,HDA.out,HK5.out _ _ HWT.out,HOK.out⟩
        ·have h := HRUN.out.alt;simpa [List.reverse_append] using h
       case measure => omega
     ·have hpa : PCAt w0 a := HXX.out.2.1;have hpb : PCAt w0 b := HXX.out.2.2;have hko : KoK a.co := HKO.out.2.2 rfl;have hma : a ∈ (PC.node q 4 s z a b).inn := by rw [PC.inn,if_neg (by omega),if_pos rfl];exact List.mem_cons_self ..
      have hda := HINN.out a hma;obtain ⟨qa,mfa,mla,ha1,ha2,ha3,_,ha5,_⟩ := kn_at HLR.out hpa hda;obtain ⟨na,hna⟩ : ∃ n,n = (prtC a.co).places := ⟨_,rfl⟩;obtain ⟨e1,e2,e3,e4⟩ := val_at ha1 ha2 HVA.out;rw [<- hna] at e1;subst e1 e2 e3 e4;have hk1r : KW W1 wr := KW.cells HMEM.out (fun g' e => by rw [<- Option.some.inj e];exact ⟨_,_,_,HME1.out⟩);obtain ⟨pa,hpaa⟩ : ∃ x : Option Addr,x = a.ptr.map fun a => (⟨a,0,none⟩ : Addr) := ⟨_,rfl⟩
      obtain ⟨pb,hpbb⟩ : ∃ x : Option Addr,x = b.ptr.map fun a => (⟨a,0,none⟩ : Addr) := ⟨_,rfl⟩
      have HNDP : Hid (W3.heap[q]? = some (coOb 4 s z (.pointer pa) (.pointer pb))) := qhid (by rw [hpaa,hpbb];exact HND3.out);have HPAA := qhid hpaa;have HPBB := qhid hpbb;have HNA := qhid hna;have HKOS := qhid hko;have HDA := qhid hda;have HPA := qhid hpa;have HPB := qhid hpb;obtain ⟨d0,d1,d2,d3⟩ := prt_cells HAB.out;obtain ⟨u0,u1,u2,u3⟩ := prt_cells HBB.out;have hpl : (prtC (PC.node q 4 s z a b).co).places = na := by rw [hna,PC.co,prtC,if_neg (by decide),if_neg (by decide),if_neg (by decide),if_pos rfl]
      have hbd : ol + na <= 600 := by
       have h1 := HRL.out;have h2 := HOL.out;rw [show (prtC (PC.node q 4 s z a b,f).fst.co).places = na from hpl] at h1;omega
      have HSM := qhid (sum_any W3 m0 af f (prtC a.co).first 600 na 1 1 0 ol (HK3.out _ _ HWT.out) (HK3.out _ _ (hk1r _ _ ha3)) HOK.out (by rw [hna];exact (prt_ok a.co).first) (by omega) ⟨by omega,by unfold top;omega⟩ ⟨by omega,by unfold top;omega⟩);rw [tm_one HOK.out] at HSM;have HNX : Hid (WtOK 600 (smW f (tmW (prtC a.co).first 1 ol))) := qhid (HOK.out.sm (((prt_ok a.co).first.tm 1 ol).mono (by rw [<- hna];omega)));clear hpa hpb hko hma hda ha1 ha2 ha3 ha5 hk1r hpaa hpbb hpl HAB HBB hna
      go_wp2_with fail
      refine HSM.out.mono ?_;rintro e W4 ⟨m1,rfl,hnx,hb4⟩;have HNXT := qhid hnx;have HM4 := qhid (HM3.out.below hb4);have HK4 := qhid (HK3.out.trans (KW.below hb4));have HXB := qhid (Reg.heap_kept_up HXB3.out hb4);have HND := qhid (Reg.heap_kept_up HNDP.out hb4);obtain ⟨y0,y1⟩ := place_cells HXB.out;obtain ⟨_,c6,_⟩ := co_cells HND.out;obtain ⟨xs,hxs⟩ : ∃ xs,xs = E0.flatMap plV := ⟨_,rfl⟩;have HROW : Hid (W4.ownsRow W1.heap.size 325 2 (.slice (some ⟨g,0,none⟩) m vc) m xs) := qhid (by have := HM4.out.row;rw [HE0.out] at this;rw [hxs];exact this);have HSZ : Hid (W1.heap.size <= W4.heap.size) := qhid HM4.out.gr.size;have HXS := qhid hxs;have hsz4 := HSZ.out;obtain ⟨i0,hif,hz0,hz1,hz2⟩ := info_parts Tryz.infoPlace;clear hnx hb4 x0c x1c c0 hlx d0 d1 d2 d3 u0 u1 u2 u3 hxs
      go_wp2_with (at_builtin;go_must (refine wpList_append_own_at _ rfl (.tmp 167) (.tmp 175) 326 rfl W1.heap.size 325 i0 (.agg #[.pointer none,.map none]) 2 16 Tryz.underlying326 hif hz0 hz1 hz2 rfl (by decide) (.slice (some ⟨g,0,none⟩) m vc) m xs rfl (ownsAlloc HROW.out _) ⟨_,0,none⟩ 1 1 [.pointer pa,.map m1] rfl rfl (ccells_h (heap_new W4 (.cells #[.pointer pa,.map m1] 325))) (by intro u hu;simp only [List.mem_cons,List.not_mem_nil,or_false] at hu;rcases hu with rfl | rfl <;> rfl) (by unfold maxLen;omega) (by omega) (by simp;omega) ?_;intro v5 X ho hg _ _;obtain ⟨gw,cw,hv5,_,_⟩ := ho.form (by omega);subst hv5;have HO := qhid ho;have HG := qhid hg;clear ho hg))
      have ho := HO.out;have hg := HG.out;have hY := below1 W4 (.cells #[.pointer pa,.map m1] 325)
      have hrow : X.ownsRow W1.heap.size 325 2 (.slice (some ⟨gw,0,none⟩) (m + 1) cw) (E0 ++ [(a,m1,smW f (tmW (prtC a.co).first 1 ol))]).length ((E0 ++ [(a,m1,smW f (tmW (prtC a.co).first 1 ol))]).flatMap plV) := by
       have e1 : (E0 ++ [(a,m1,smW f (tmW (prtC a.co).first 1 ol))]).length = m + 1 := by simp [HE0.out]
       have e2 : (E0 ++ [(a,m1,smW f (tmW (prtC a.co).first 1 ol))]).flatMap plV = xs ++ [.pointer pa,.map m1] := by
        rw [HXS.out,HPAA.out];simp [plV,List.flatMap_append]
       rw [e1,e2];exact ho
      have HM5 := qhid (HM4.out.push hwb hY hg hrow)
      have HK45 : Hid (KW W4 X) := qhid ((KW.below hY).trans (KW.cells hg (fun g' e => by
       obtain ⟨c,hc⟩ := owns_cells (ownsBelow HROW.out hY) e
       exact ⟨c,_,_,hc⟩)))
      have HK5 := qhid (HK4.out.trans HK45.out);clear ho hY hg hrow
      go_wp2_with fail
      go_roundg (gk - 1)
      case rel =>
       refine ⟨E0 ++ [(a,m1,smW f (tmW (prtC a.co).first 1 ol))],out,fs,_,sp,fp,m + 1,cw,ol,sc,fc,rfl,qhid (by simp [HE0.out]),HOL,qhid ⟨?_,by omega⟩,qhid ⟨HM5.out,fun e he => ?_,?_,HFOL.out.up HK5.out⟩⟩
       ·simp only [List.reverse_append,List.reverse_cons,List.reverse_nil,List.nil_append,List.cons_append,List.map_cons,szE];omega
       ·rcases List.mem_append.1 he with he | he
        ·obtain ⟨h1,h2,h3,h4,h5⟩ := HENT.out e he;exact ⟨h1,h2,h3,HK5.out _ _ h4,h5⟩
        ·rw [List.mem_singleton.1 he];exact ⟨HPA.out,HKOS.out,HDA.out,HK45.out _ _ HNXT.out,HNX.out⟩
       ·have h := HRUN.out.star;rw [HOL.out] at h;simpa [List.reverse_append] using h
      case measure => omega
end
end Go.Proofs.YtnmalggmbeipaaaGreatDoor
