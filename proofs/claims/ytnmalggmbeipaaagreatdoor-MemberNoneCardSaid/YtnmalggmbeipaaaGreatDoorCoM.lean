/- A part of the proof. -/
import Derived.Test.YtnmalggmbeipaaaGreatDoorCoG
set_option maxRecDepth 100000
set_option maxHeartbeats 16000000
namespace Go.Proofs.YtnmalggmbeipaaaGreatDoor
section
open Go Go.RowKit
attribute [local go_sem ↓] Go.wp_at_zero Go.wp_at_succ
attribute [local go_sem] eq4
theorem lookup_sz {w : World} {b q : Nat} {D : List (Nat × Int)} (h : PtrMap w b D) (hq : IsC w q) (hD : ∀ p ∈ D,IsC w p.1) :
  (Instr.lookup 117 (.map (some b)) (ndPtr q) true).run Tryz.prog w = .ok (.tuple #[.int .i64 (gotD D q).1,.bool (gotD D q).2]) w := by
 obtain ⟨es,clock,hb,he⟩ := h;have hz : (zeroValue 3).run Tryz.prog w = .ok (.int .i64 0) w := by kernel_rfl
 have hf := findKey_ptr q w es.toList D hq hD he;unfold Instr.lookup;simp only [Sem.run_bind,run_underlying Tryz.underlying117,Result.andThen_ok,Sem.run_pure,MapKept.run_getObj_map hb,checkKey_ptr,hf]
 rcases look_got D q 0 with ⟨h1,h2⟩ | ⟨j,v,h1,h2⟩
 ·rw [h1,h2];simp [hz]
 ·rw [h1,h2];simp
theorem update_sz {w : World} {b q : Nat} {D : List (Nat × Int)} (v : Int) (h : PtrMap w b D) (hq : IsC w q) (hD : ∀ p ∈ D,IsC w p.1) :
  ∃ w',(Instr.mapUpdate 117 (.map (some b)) (ndPtr q) (.int .i64 v)).run Tryz.prog w = .ok () w' /\ PtrMap w' b (putD D q v) /\ w.grownBy w' (some b) := by
 obtain ⟨es,clock,hb,he⟩ := h;have hlt := jS hb;have hf := findKey_ptr q w es.toList D hq hD he
 have grown : ∀ o,w.grownBy { w with heap := w.heap.setIfInBounds b o } (some b) := fun o =>
  ⟨rfl,rfl,rfl,by simp,fun k hk hne => by
   show (w.heap.setIfInBounds b o)[k]? = w.heap[k]?
   rw [Array.getElem?_setIfInBounds_ne (fun e => hne (by rw [e]))]⟩
 have got : ∀ o,({ w with heap := w.heap.setIfInBounds b o } : World).heap[b]? = some o := fun o => by
  show (w.heap.setIfInBounds b o)[b]? = some o
  simp [hlt]
 unfold Instr.mapUpdate;simp only [Sem.run_bind,run_underlying Tryz.underlying117,Result.andThen_ok,MapKept.run_getObj_map hb,checkKey_ptr,hf]
 rcases look_got D q 0 with ⟨_,h2⟩ | ⟨j,x,_,h2⟩
 ·rw [h2];simp only [MapKept.run_setObj_map _ hb];refine ⟨_,rfl,⟨_,_,got _,?_⟩,grown _⟩;rw [put_none h2];simp only [EntAre,Array.toList_push,List.map_append,List.map_cons,List.map_nil];rw [show es.toList.map (fun e => (e.key,e.val)) = _ from he]
 ·rw [h2];obtain ⟨k,hk,hes⟩ := put_some (v := v) h2;obtain rfl : j = k := by omega
  obtain ⟨⟨e,he1,he2⟩,he3⟩ := hes es.toList he
  have hek : ((es[j]?).map (·.key)).getD (ndPtr q) = ndPtr q := by
   rw [<- Array.getElem?_toList,he1];simp [he2]
  have hst : (Instr.keyThatStays (ndPtr q) (ndPtr q)).run Tryz.prog w = .ok (ndPtr q) w := by
   simp [Instr.keyThatStays,Instr.sameBits]
  simp only [Sem.run_bind,hek,hst,Result.andThen_ok,MapKept.run_setObj_map _ hb];refine ⟨_,rfl,⟨_,_,got _,?_⟩,grown _⟩;rw [Array.toList_modify];exact he3
def adL (xs : List Int) : Int := xs.foldl pl 0
def muL (xs : List Int) : Int := xs.foldl ti 1
theorem fol_list (op : Int -> Int -> Int) (s : Int) (xs : List Int) : fol op s (fun j => xs.getD j 0) xs.length = xs.foldl op s := by
 have key : ∀ n,n <= xs.length -> fol op s (fun j => xs.getD j 0) n = (xs.take n).foldl op s := by
  intro n
  induction n with
  | zero => intro _;rfl
  | succ n ih =>
   intro h;rw [fol,ih (by omega),List.take_succ_eq_append_getElem (by omega),List.foldl_append];simp [List.getD_eq_getElem?_getD,List.getElem?_eq_getElem (show n < xs.length by omega)]
 rw [key _ (jN _),List.take_length]
theorem cells_ints {w : World} {g : Nat} {xs : List Int} {t : TypeId} (h : w.heap[g]? = some (.cells (xs.map (Value.int .i64)).toArray t (0,0))) : ∀ j,j < xs.length -> w.cell? ⟨g,0 + j,none⟩ = some (.int .i64 (xs.getD j 0)) := by
 intro j hj;rw [Nat.zero_add,jC h j];simp [List.getD_eq_getElem?_getD,List.getElem?_eq_getElem hj]
theorem getD_le {xs : List Int} (h : ∀ x ∈ xs,x <= top) : ∀ j,j < xs.length -> xs.getD j 0 <= top := by
 intro j hj;rw [List.getD_eq_getElem?_getD,List.getElem?_eq_getElem hj];exact h _ (List.getElem_mem _)
theorem add_cells (g cap : Nat) (xs : List Int) (w : World) (hl : xs.length <= 1000) (hx : ∀ x ∈ xs,x <= top) (h : w.heap[g]? = some (.cells (xs.map (Value.int .i64)).toArray 3 (0,0))) :
  Calls Tryz.prog 39 #[.slice (some ⟨g,0,none⟩) xs.length cap] w fun e w' => e = .returned (.int .i64 (adL xs)) /\ w = w' := by
 have := add_any g 0 xs.length cap (fun j => xs.getD j 0) w (by omega) (getD_le hx) (cells_ints h)
 rwa [fol_list] at this
theorem mul_cells (g cap : Nat) (xs : List Int) (w : World) (hl : xs.length <= 1000) (hx : ∀ x ∈ xs,x <= top) (h : w.heap[g]? = some (.cells (xs.map (Value.int .i64)).toArray 3 (0,0))) :
  Calls Tryz.prog 198 #[.slice (some ⟨g,0,none⟩) xs.length cap] w fun e w' => e = .returned (.int .i64 (muL xs)) /\ w = w' := by
 have := mul_any g 0 xs.length cap (fun j => xs.getD j 0) w (by omega) (getD_le hx) (cells_ints h)
 rwa [fol_list] at this
theorem adL_le (x y : Int) (xs : List Int) : adL (x :: y :: xs) <= top := by
 unfold adL
 have key : ∀ (l : List Int) (a : Int),a <= top -> l.foldl pl a <= top := by
  intro l
  induction l with
  | nil => intro a h;exact h
  | cons b l ih => intro a _;exact ih _ (sat_le _)
 exact key _ 0 (by unfold top;omega)
theorem muL_le (x y : Int) : muL [x,y] <= top := sat_le _
theorem adL_nn (xs : List Int) : 0 <= adL xs := by
 unfold adL
 have key : ∀ (l : List Int) (a : Int),0 <= a -> 0 <= l.foldl pl a := by
  intro l
  induction l with
  | nil => intro a h;exact h
  | cons b l ih => intro a _;exact ih _ (pl_nn _ _)
 exact key _ 0 (Int.le_refl _)
def repM (x lo hi : Int) : Int :=
 if hi = -1 then adL [muL [lo,adL [x,1]],x,1] else if hi = 0 then 1 else if lo = hi then adL [muL [lo - 1,adL [x,1]],x] else adL [muL [lo,adL [x,1]],muL [hi - lo - 1,adL [x,3]],x,2]
theorem crepeated_any (x lo hi : Int) (w : World) (hx : x <= top) (h1 : 0 <= lo) (h2 : lo <= 1000) (h3 : hi = -1 \/ (lo <= hi /\ hi <= 1000)) :
  Calls Tryz.prog 150 #[.int .i64 x,.int .i64 lo,.int .i64 hi] w fun e w' => e = .returned (.int .i64 (repM x lo hi)) /\ Below w.heap.size w w' := by
 have AD := qhid add_cells;have MU := qhid mul_cells;have HX := qhid hx;have H2 := qhid (And.intro h1 h2);obtain ⟨res,hres⟩ : ∃ r,r = repM x lo hi := ⟨_,rfl⟩;rw [<- hres];have HRES := qhid hres;clear hres hx
 by_cases e1 : hi = -1
 ·subst e1;have HR : Hid (res = adL [muL [lo,adL [x,1]],x,1]) := qhid (by rw [HRES.out];rfl);clear h1 h2 h3
  go_enter Tryz.func150,Tryz.ntmps150
  obtain ⟨W1,hW1⟩ : ∃ Y,Y = w.alloc (.cells #[.int .i64 (x),.int .i64 (1)] 3) := ⟨_,rfl⟩;have bW1 : Below w.heap.size w W1 := by rw [hW1];exact below1 _ _
  have KW1 := qhid (AD.out w.heap.size 2 [x,1] W1 (by simp) (fun z hz => by
    simp only [List.mem_cons,List.not_mem_nil,or_false] at hz
    rcases hz with h | h
    ·rw [h];exact (HX.out)
    ·rw [h];exact (by unfold top;omega)
   ) (by rw [hW1];exact heap_new w _))
  have BW1 := qhid ((Below.refl w.heap.size w).trans (bW1.mono (Below.refl w.heap.size w).size));clear bW1
  go_wp2_with fail
  rw [<- hW1];clear hW1;refine KW1.out.mono ?_;rintro e wz ⟨rfl,hz⟩;obtain rfl : W1 = wz := hz;clear KW1;obtain ⟨W2,hW2⟩ : ∃ Y,Y = W1.alloc (.cells #[.int .i64 (lo),.int .i64 (adL [x,1])] 3) := ⟨_,rfl⟩;have bW2 : Below W1.heap.size W1 W2 := by rw [hW2];exact below1 _ _
  have KW2 := qhid (MU.out W1.heap.size 2 [lo,adL [x,1]] W2 (by simp) (fun z hz => by
    simp only [List.mem_cons,List.not_mem_nil,or_false] at hz
    rcases hz with h | h
    ·rw [h];exact (by have := H2.out;unfold top;omega)
    ·rw [h];exact (adL_le _ _ _)
   ) (by rw [hW2];exact heap_new W1 _))
  have BW2 := qhid (BW1.out.trans (bW2.mono BW1.out.size));clear bW2
  go_wp2_with fail
  rw [<- hW2];clear hW2;refine KW2.out.mono ?_;rintro e wz ⟨rfl,hz⟩;obtain rfl : W2 = wz := hz;clear KW2;obtain ⟨W3,hW3⟩ : ∃ Y,Y = W2.alloc (.cells #[.int .i64 (muL [lo,adL [x,1]]),.int .i64 (x),.int .i64 (1)] 3) := ⟨_,rfl⟩;have bW3 : Below W2.heap.size W2 W3 := by rw [hW3];exact below1 _ _
  have KW3 := qhid (AD.out W2.heap.size 3 [muL [lo,adL [x,1]],x,1] W3 (by simp) (fun z hz => by
    simp only [List.mem_cons,List.not_mem_nil,or_false] at hz
    rcases hz with h | h | h
    ·rw [h];exact (muL_le _ _)
    ·rw [h];exact (HX.out)
    ·rw [h];exact (by unfold top;omega)
   ) (by rw [hW3];exact heap_new W2 _))
  have BW3 := qhid (BW2.out.trans (bW3.mono BW2.out.size));clear bW3
  go_wp2_with fail
  rw [<- hW3];clear hW3;refine KW3.out.mono ?_;rintro e wz ⟨rfl,hz⟩;obtain rfl : W3 = wz := hz;clear KW3
  go_wp2_with fail
  go_ret
  exact ⟨by rw [HR.out];rfl,BW3.out⟩
 have q1 : ((hi : Int) == -1) = false := by simpa using e1
 have g := h3.resolve_left e1
 by_cases e2 : hi = 0
 ·subst e2;have HR : Hid (res = 1) := qhid (by rw [HRES.out];unfold repM;rw [if_neg e1,if_pos rfl]);clear h1 h2 h3 g e1
  go_enter Tryz.func150,Tryz.ntmps150
  obtain ⟨W4,hW4⟩ : ∃ Y,Y = w.alloc (.cells #[.int .i64 (x),.int .i64 (1)] 3) := ⟨_,rfl⟩;have bW4 : Below w.heap.size w W4 := by rw [hW4];exact below1 _ _
  have KW4 := qhid (AD.out w.heap.size 2 [x,1] W4 (by simp) (fun z hz => by
    simp only [List.mem_cons,List.not_mem_nil,or_false] at hz
    rcases hz with h | h
    ·rw [h];exact (HX.out)
    ·rw [h];exact (by unfold top;omega)
   ) (by rw [hW4];exact heap_new w _))
  have BW4 := qhid ((Below.refl w.heap.size w).trans (bW4.mono (Below.refl w.heap.size w).size));clear bW4
  go_wp2_with fail
  rw [<- hW4];clear hW4;refine KW4.out.mono ?_;rintro e wz ⟨rfl,hz⟩;obtain rfl : W4 = wz := hz;clear KW4;obtain ⟨W5,hW5⟩ : ∃ Y,Y = W4.alloc (.cells #[.int .i64 (lo),.int .i64 (adL [x,1])] 3) := ⟨_,rfl⟩;have bW5 : Below W4.heap.size W4 W5 := by rw [hW5];exact below1 _ _
  have KW5 := qhid (MU.out W4.heap.size 2 [lo,adL [x,1]] W5 (by simp) (fun z hz => by
    simp only [List.mem_cons,List.not_mem_nil,or_false] at hz
    rcases hz with h | h
    ·rw [h];exact (by have := H2.out;unfold top;omega)
    ·rw [h];exact (adL_le _ _ _)
   ) (by rw [hW5];exact heap_new W4 _))
  have BW5 := qhid (BW4.out.trans (bW5.mono BW4.out.size));clear bW5
  go_wp2_with fail
  rw [<- hW5];clear hW5;refine KW5.out.mono ?_;rintro e wz ⟨rfl,hz⟩;obtain rfl : W5 = wz := hz;clear KW5
  go_wp2_with fail
  go_ret
  exact ⟨by rw [HR.out];rfl,BW5.out⟩
 have q2 : ((hi : Int) == 0) = false := by simpa using e2
 by_cases e3 : lo = hi
 ·subst e3;have HR : Hid (res = adL [muL [lo - 1,adL [x,1]],x]) := qhid (by rw [HRES.out];unfold repM;rw [if_neg e1,if_neg e2,if_pos rfl]);have g1 : 0 < lo := by omega
  have g2 : lo <= 1000 := h2;clear h1 h2 h3 g e1 e2
  go_enter Tryz.func150,Tryz.ntmps150
  obtain ⟨W6,hW6⟩ : ∃ Y,Y = w.alloc (.cells #[.int .i64 (x),.int .i64 (1)] 3) := ⟨_,rfl⟩;have bW6 : Below w.heap.size w W6 := by rw [hW6];exact below1 _ _
  have KW6 := qhid (AD.out w.heap.size 2 [x,1] W6 (by simp) (fun z hz => by
    simp only [List.mem_cons,List.not_mem_nil,or_false] at hz
    rcases hz with h | h
    ·rw [h];exact (HX.out)
    ·rw [h];exact (by unfold top;omega)
   ) (by rw [hW6];exact heap_new w _))
  have BW6 := qhid ((Below.refl w.heap.size w).trans (bW6.mono (Below.refl w.heap.size w).size));clear bW6
  go_wp2_with fail
  rw [<- hW6];clear hW6;refine KW6.out.mono ?_;rintro e wz ⟨rfl,hz⟩;obtain rfl : W6 = wz := hz;clear KW6;obtain ⟨W7,hW7⟩ : ∃ Y,Y = W6.alloc (.cells #[.int .i64 (lo),.int .i64 (adL [x,1])] 3) := ⟨_,rfl⟩;have bW7 : Below W6.heap.size W6 W7 := by rw [hW7];exact below1 _ _
  have KW7 := qhid (MU.out W6.heap.size 2 [lo,adL [x,1]] W7 (by simp) (fun z hz => by
    simp only [List.mem_cons,List.not_mem_nil,or_false] at hz
    rcases hz with h | h
    ·rw [h];exact (by unfold top;omega)
    ·rw [h];exact (adL_le _ _ _)
   ) (by rw [hW7];exact heap_new W6 _))
  have BW7 := qhid (BW6.out.trans (bW7.mono BW6.out.size));clear bW7
  go_wp2_with fail
  rw [<- hW7];clear hW7;refine KW7.out.mono ?_;rintro e wz ⟨rfl,hz⟩;obtain rfl : W7 = wz := hz;clear KW7;obtain ⟨W7b,hW7b⟩ : ∃ Y,Y = W7.alloc (.cells #[.int .i64 (x),.int .i64 (1)] 3) := ⟨_,rfl⟩;have bW7b : Below W7.heap.size W7 W7b := by rw [hW7b];exact below1 _ _
  have KW7b := qhid (AD.out W7.heap.size 2 [x,1] W7b (by simp) (fun z hz => by
   simp only [List.mem_cons,List.not_mem_nil,or_false] at hz
   rcases hz with h | h
   ·rw [h];exact (HX.out)
   ·rw [h];exact (by unfold top;omega)
   ) (by rw [hW7b];exact heap_new W7 _))
  have BW7b := qhid (BW7.out.trans (bW7b.mono BW7.out.size));clear bW7b
  go_wp2_with fail
  rw [<- hW7b];clear hW7b;refine KW7b.out.mono ?_;rintro e wz ⟨rfl,hz⟩;obtain rfl : W7b = wz := hz;clear KW7b;obtain ⟨W8,hW8⟩ : ∃ Y,Y = W7b.alloc (.cells #[.int .i64 (lo - 1),.int .i64 (adL [x,1])] 3) := ⟨_,rfl⟩;have bW8 : Below W7b.heap.size W7b W8 := by rw [hW8];exact below1 _ _
  have KW8 := qhid (MU.out W7b.heap.size 2 [lo - 1,adL [x,1]] W8 (by simp) (fun z hz => by
    simp only [List.mem_cons,List.not_mem_nil,or_false] at hz
    rcases hz with h | h
    ·rw [h];exact (by unfold top;omega)
    ·rw [h];exact (adL_le _ _ _)
   ) (by rw [hW8];exact heap_new W7b _))
  have BW8 := qhid (BW7b.out.trans (bW8.mono BW7b.out.size));clear bW8
  go_wp2_with fail
  rw [<- hW8];clear hW8;refine KW8.out.mono ?_;rintro e wz ⟨rfl,hz⟩;obtain rfl : W8 = wz := hz;clear KW8;obtain ⟨W9,hW9⟩ : ∃ Y,Y = W8.alloc (.cells #[.int .i64 (muL [lo - 1,adL [x,1]]),.int .i64 (x)] 3) := ⟨_,rfl⟩;have bW9 : Below W8.heap.size W8 W9 := by rw [hW9];exact below1 _ _
  have KW9 := qhid (AD.out W8.heap.size 2 [muL [lo - 1,adL [x,1]],x] W9 (by simp) (fun z hz => by
    simp only [List.mem_cons,List.not_mem_nil,or_false] at hz
    rcases hz with h | h
    ·rw [h];exact (muL_le _ _)
    ·rw [h];exact (HX.out)
   ) (by rw [hW9];exact heap_new W8 _))
  have BW9 := qhid (BW8.out.trans (bW9.mono BW8.out.size));clear bW9
  go_wp2_with fail
  rw [<- hW9];clear hW9;refine KW9.out.mono ?_;rintro e wz ⟨rfl,hz⟩;obtain rfl : W9 = wz := hz;clear KW9
  go_wp2_with fail
  go_ret
  exact ⟨by rw [HR.out];rfl,BW9.out⟩
 have q3 : ((lo : Int) == hi) = false := by simpa using e3
 have HR : Hid (res = adL [muL [lo,adL [x,1]],muL [hi - lo - 1,adL [x,3]],x,2]) := qhid (by rw [HRES.out];unfold repM;rw [if_neg e1,if_neg e2,if_neg e3]);have H4 := qhid g;obtain ⟨g1,g2⟩ := g;clear h3 e1 e2 e3
 go_enter Tryz.func150,Tryz.ntmps150
 obtain ⟨W10,hW10⟩ : ∃ Y,Y = w.alloc (.cells #[.int .i64 (x),.int .i64 (1)] 3) := ⟨_,rfl⟩;have bW10 : Below w.heap.size w W10 := by rw [hW10];exact below1 _ _
 have KW10 := qhid (AD.out w.heap.size 2 [x,1] W10 (by simp) (fun z hz => by
   simp only [List.mem_cons,List.not_mem_nil,or_false] at hz
   rcases hz with h | h
   ·rw [h];exact (HX.out)
   ·rw [h];exact (by unfold top;omega)
  ) (by rw [hW10];exact heap_new w _))
 have BW10 := qhid ((Below.refl w.heap.size w).trans (bW10.mono (Below.refl w.heap.size w).size));clear bW10
 go_wp2_with fail
 rw [<- hW10];clear hW10;refine KW10.out.mono ?_;rintro e wz ⟨rfl,hz⟩;obtain rfl : W10 = wz := hz;clear KW10;obtain ⟨W11,hW11⟩ : ∃ Y,Y = W10.alloc (.cells #[.int .i64 (lo),.int .i64 (adL [x,1])] 3) := ⟨_,rfl⟩;have bW11 : Below W10.heap.size W10 W11 := by rw [hW11];exact below1 _ _
 have KW11 := qhid (MU.out W10.heap.size 2 [lo,adL [x,1]] W11 (by simp) (fun z hz => by
   simp only [List.mem_cons,List.not_mem_nil,or_false] at hz
   rcases hz with h | h
   ·rw [h];exact (by have := H2.out;unfold top;omega)
   ·rw [h];exact (adL_le _ _ _)
  ) (by rw [hW11];exact heap_new W10 _))
 have BW11 := qhid (BW10.out.trans (bW11.mono BW10.out.size));clear bW11
 go_wp2_with fail
 rw [<- hW11];clear hW11;refine KW11.out.mono ?_;rintro e wz ⟨rfl,hz⟩;obtain rfl : W11 = wz := hz;clear KW11;obtain ⟨W12,hW12⟩ : ∃ Y,Y = W11.alloc (.cells #[.int .i64 (x),.int .i64 (3)] 3) := ⟨_,rfl⟩;have bW12 : Below W11.heap.size W11 W12 := by rw [hW12];exact below1 _ _
 have KW12 := qhid (AD.out W11.heap.size 2 [x,3] W12 (by simp) (fun z hz => by
   simp only [List.mem_cons,List.not_mem_nil,or_false] at hz
   rcases hz with h | h
   ·rw [h];exact (HX.out)
   ·rw [h];exact (by unfold top;omega)
  ) (by rw [hW12];exact heap_new W11 _))
 have BW12 := qhid (BW11.out.trans (bW12.mono BW11.out.size));clear bW12
 go_wp2_with fail
 rw [<- hW12];clear hW12;refine KW12.out.mono ?_;rintro e wz ⟨rfl,hz⟩;obtain rfl : W12 = wz := hz;clear KW12;obtain ⟨W13,hW13⟩ : ∃ Y,Y = W12.alloc (.cells #[.int .i64 (hi - lo - 1),.int .i64 (adL [x,3])] 3) := ⟨_,rfl⟩;have bW13 : Below W12.heap.size W12 W13 := by rw [hW13];exact below1 _ _
 have KW13 := qhid (MU.out W12.heap.size 2 [hi - lo - 1,adL [x,3]] W13 (by simp) (fun z hz => by
   simp only [List.mem_cons,List.not_mem_nil,or_false] at hz
   rcases hz with h | h
   ·rw [h];exact (by have := H2.out;have := H4.out;unfold top;omega)
   ·rw [h];exact (adL_le _ _ _)
  ) (by rw [hW13];exact heap_new W12 _))
 have BW13 := qhid (BW12.out.trans (bW13.mono BW12.out.size));clear bW13
 go_wp2_with fail
 rw [<- hW13];clear hW13;refine KW13.out.mono ?_;rintro e wz ⟨rfl,hz⟩;obtain rfl : W13 = wz := hz;clear KW13;obtain ⟨W14,hW14⟩ : ∃ Y,Y = W13.alloc (.cells #[.int .i64 (muL [lo,adL [x,1]]),.int .i64 (muL [hi - lo - 1,adL [x,3]]),.int .i64 (x),.int .i64 (2)] 3) := ⟨_,rfl⟩;have bW14 : Below W13.heap.size W13 W14 := by rw [hW14];exact below1 _ _
 have KW14 := qhid (AD.out W13.heap.size 4 [muL [lo,adL [x,1]],muL [hi - lo - 1,adL [x,3]],x,2] W14 (by simp) (fun z hz => by
   simp only [List.mem_cons,List.not_mem_nil,or_false] at hz
   rcases hz with h | h | h | h
   ·rw [h];exact (muL_le _ _)
   ·rw [h];exact (muL_le _ _)
   ·rw [h];exact (HX.out)
   ·rw [h];exact (by unfold top;omega)
  ) (by rw [hW14];exact heap_new W13 _))
 have BW14 := qhid (BW13.out.trans (bW14.mono BW13.out.size));clear bW14
 go_wp2_with fail
 rw [<- hW14];clear hW14;refine KW14.out.mono ?_;rintro e wz ⟨rfl,hz⟩;obtain rfl : W14 = wz := hz;clear KW14
 go_wp2_with fail
 go_ret
 exact ⟨by rw [HR.out];rfl,BW14.out⟩
end
end Go.Proofs.YtnmalggmbeipaaaGreatDoor
