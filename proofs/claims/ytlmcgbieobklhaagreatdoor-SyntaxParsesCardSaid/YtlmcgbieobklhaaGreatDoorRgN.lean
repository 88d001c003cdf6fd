/- A part of the proof. -/
import Derived.Test.YtlmcgbieobklhaaGreatDoorRgM
namespace Go.Proofs.YtlmcgbieobklhaaGreatDoor
section
open Go Go.RowKit
def clF (L : Toks) : Nat -> Nat -> Nat -> Option Nat
 | 0,_,_ => none
 | n + 1,i,deep =>
  if kdR L i = 1 \/ kdR L i = 2 then clF L n (i + 1) (deep + 1)
  else if kdR L i = 3 then (if deep = 0 then some i else clF L n (i + 1) (deep - 1))
  else clF L n (i + 1) deep
def cl (L : Toks) (i deep : Nat) : Option Nat := clF L (L.length - i) i deep
theorem cl_end {L : Toks} {i deep : Nat} (h : L.length <= i) : cl L i deep = none := by
 unfold cl;rw [show L.length - i = 0 by omega,clF]
theorem cl_on {L : Toks} {i deep : Nat} (h : i < L.length) : cl L i deep =
  if kdR L i = 1 \/ kdR L i = 2 then cl L (i + 1) (deep + 1)
  else if kdR L i = 3 then (if deep = 0 then some i else cl L (i + 1) (deep - 1))
  else cl L (i + 1) deep := by
 unfold cl;rw [show L.length - i = (L.length - (i + 1)) + 1 by omega,clF]
def cuF (L : Toks) (tz : Nat) : Nat -> Nat -> Nat -> Nat -> List (Nat × Nat)
 | 0,_,_,at_ => [(at_,tz)]
 | n + 1,i,deep,at_ =>
  if kdR L i = 1 \/ kdR L i = 2 then cuF L tz n (i + 1) (deep + 1) at_
  else if kdR L i = 3 then cuF L tz n (i + 1) (deep - 1) at_
  else if kdR L i = 4 /\ deep = 0 then (at_,i) :: cuF L tz n (i + 1) deep (i + 1)
  else cuF L tz n (i + 1) deep at_
def cu (L : Toks) (tz i deep at_ : Nat) : List (Nat × Nat) := cuF L tz (tz - i) i deep at_
theorem cu_end {L : Toks} {tz i deep at_ : Nat} (h : tz <= i) : cu L tz i deep at_ = [(at_,tz)] := by
 unfold cu;rw [show tz - i = 0 by omega,cuF]
theorem cu_on {L : Toks} {tz i deep at_ : Nat} (h : i < tz) : cu L tz i deep at_ =
  if kdR L i = 1 \/ kdR L i = 2 then cu L tz (i + 1) (deep + 1) at_
  else if kdR L i = 3 then cu L tz (i + 1) (deep - 1) at_
  else if kdR L i = 4 /\ deep = 0 then (at_,i) :: cu L tz (i + 1) deep (i + 1)
  else cu L tz (i + 1) deep at_ := by
 unfold cu;rw [show tz - i = (tz - (i + 1)) + 1 by omega,cuF]
theorem spn_le {L : Toks} {size : Nat} (t : Tr) : ∀ {i j : Nat},Spn L size i j t -> i <= j /\ j <= L.length := by
 have listC : ∀ (l : List Tr),(∀ u ∈ l,∀ {i j : Nat},Spn L size i j u -> i <= j /\ j <= L.length) -> ∀ {i j : Nat},SpnC L size i j l -> i <= j /\ (l ≠ [] -> j <= L.length) := by
  intro l
  induction l with
  | nil => intro _ i j h;cases h;exact ⟨jN _,fun h => absurd rfl h⟩
  | cons u r ih =>
   intro hl i j h
   cases h with
   | cons _ m _ _ _ hu h1 h2 =>
    have g1 := hl u (List.mem_cons_self ..) h1;have g2 := ih (fun v hv => hl v (List.mem_cons_of_mem _ hv)) h2;refine ⟨by omega,fun _ => ?_⟩
    cases r with
    | nil => cases h2;exact g1.2
    | cons v r => exact g2.2 (by simp)
 have listA : ∀ (l : List Tr),(∀ u ∈ l,∀ {i j : Nat},Spn L size i j u -> i <= j /\ j <= L.length) -> ∀ {i j : Nat},SpnA L size i j l -> i <= j /\ j <= L.length := by
  intro l
  induction l with
  | nil => intro _ i j h;cases h
  | cons u r ih =>
   intro hl i j h
   cases h with
   | one _ _ _ hk h1 => exact hl u (List.mem_cons_self ..) h1
   | cons _ m _ _ _ hk h1 hb h2 =>
    have g1 := hl u (List.mem_cons_self ..) h1;have g2 := ih (fun v hv => hl v (List.mem_cons_of_mem _ hv)) h2;exact ⟨by omega,g2.2⟩
 induction t using tr_ind with
 | h k s lo hi z a b l ih =>
  intro i j h
  cases h with
  | empty _ hi => exact ⟨jN _,hi⟩
  | set _ hk => exact ⟨by omega,kd_in hk (by decide)⟩
  | group _ j' _ u hk hi hj h1 => have g := ih u (by simp) h1;exact ⟨by omega,kd_in hj (by decide)⟩
  | cat _ _ _ hl h1 => have g := listC l ih h1;exact ⟨g.1,g.2 (by intro e;subst e;simp at hl)⟩
  | alt _ _ _ hl h1 => exact listA l ih h1
  | rep _ j' u hu hj h1 => have g := ih u (by simp) h1;exact ⟨by omega,kd_in hj (by decide)⟩
theorem cl_skip {L : Toks} {size : Nat} (t : Tr) : ∀ {i j : Nat} (d : Nat),Spn L size i j t -> cl L i d = cl L j d := by
 have listC : ∀ (l : List Tr),(∀ u ∈ l,∀ {i j : Nat} (d : Nat),Spn L size i j u -> cl L i d = cl L j d) -> ∀ {i j : Nat} (d : Nat),SpnC L size i j l -> cl L i d = cl L j d := by
  intro l
  induction l with
  | nil => intro _ i j d h;cases h;rfl
  | cons u r ih =>
   intro hl i j d h
   cases h with
   | cons _ m _ _ _ hu h1 h2 => exact (hl u (List.mem_cons_self ..) d h1).trans (ih (fun v hv => hl v (List.mem_cons_of_mem _ hv)) d h2)
 have listA : ∀ (l : List Tr),(∀ u ∈ l,∀ {i j : Nat} (d : Nat),Spn L size i j u -> cl L i d = cl L j d) -> ∀ {i j : Nat} (d : Nat),SpnA L size i j l -> cl L i d = cl L j d := by
  intro l
  induction l with
  | nil => intro _ i j d h;cases h
  | cons u r ih =>
   intro hl i j d h
   cases h with
   | one _ _ _ hk h1 => exact hl u (List.mem_cons_self ..) d h1
   | cons _ m _ _ _ hk h1 hb h2 =>
    rw [hl u (List.mem_cons_self ..) d h1,cl_on (kd_in hb (by decide)),if_neg (by omega),if_neg (by omega)];exact ih (fun v hv => hl v (List.mem_cons_of_mem _ hv)) d h2
 induction t using tr_ind with
 | h k s lo hi z a b l ih =>
  intro i j d h
  cases h with
  | empty _ hi => rfl
  | set _ hk => rw [cl_on (kd_in hk (by decide)),if_neg (by omega),if_neg (by omega)]
  | group _ j' _ u hk hi hj h1 =>
   rw [cl_on (kd_in hi (by omega)),if_pos (by omega),ih u (by simp) (d + 1) h1,cl_on (kd_in hj (by decide)),if_neg (by omega),if_pos hj,if_neg (by omega)];rfl
  | cat _ _ _ hl h1 => exact listC l ih d h1
  | alt _ _ _ hl h1 => exact listA l ih d h1
  | rep _ j' u hu hj h1 => rw [ih u (by simp) d h1,cl_on (kd_in hj (by decide)),if_neg (by omega),if_neg (by omega)]
theorem cl_group {L : Toks} {size i j : Nat} {u : Tr} (h : Spn L size i j u) (hj : kdR L j = 3) : cl L i 0 = some j := by
 rw [cl_skip u 0 h,cl_on (kd_in hj (by decide)),if_neg (by omega),if_pos hj,if_pos rfl]
theorem cu_skip {L : Toks} {size tz : Nat} (t : Tr) : ∀ {i j : Nat} (d at_ : Nat),Spn L size i j t -> j <= tz -> (0 < d \/ kdT t ≠ 5) -> cu L tz i d at_ = cu L tz j d at_ := by
 have listC : ∀ (l : List Tr),(∀ u ∈ l,∀ {i j : Nat} (d at_ : Nat),Spn L size i j u -> j <= tz -> (0 < d \/ kdT u ≠ 5) -> cu L tz i d at_ = cu L tz j d at_) -> ∀ {i j : Nat} (d at_ : Nat),SpnC L size i j l -> j <= tz -> cu L tz i d at_ = cu L tz j d at_ := by
  intro l
  induction l with
  | nil => intro _ i j d at_ h _;cases h;rfl
  | cons u r ih =>
   intro hl i j d at_ h hj
   cases h with
   | cons _ m _ _ _ hu h1 h2 =>
    have hm : m <= j := by
     cases r with
     | nil => cases h2;exact jN _
     | cons v r =>
      have : Spn L size m j (.mk 4 noW 0 0 false (plR L size m) (plR L size j) (v :: r)) \/ True := .inr trivial;clear this
      have key : ∀ (l : List Tr) {i j : Nat},SpnC L size i j l -> i <= j := by
       intro l
       induction l with
       | nil => intro i j h;cases h;exact jN _
       | cons u r ih => intro i j h;cases h with | cons _ m _ _ _ hu h1 h2 => exact Nat.le_trans (spn_le u h1).1 (ih h2)
      exact key _ h2
    exact (hl u (List.mem_cons_self ..) d at_ h1 (by omega) (.inr (by unfold IsItem at hu;omega))).trans (ih (fun v hv => hl v (List.mem_cons_of_mem _ hv)) d at_ h2 hj)
 have keyA : ∀ (l : List Tr) {i j : Nat},SpnA L size i j l -> i <= j := by
  intro l
  induction l with
  | nil => intro i j h;cases h
  | cons u r ih =>
   intro i j h
   cases h with
   | one _ _ _ hk h1 => exact (spn_le u h1).1
   | cons _ m _ _ _ hk h1 hb h2 => have := (spn_le u h1).1;have := ih h2;omega
 have listA : ∀ (l : List Tr),(∀ u ∈ l,∀ {i j : Nat} (d at_ : Nat),Spn L size i j u -> j <= tz -> (0 < d \/ kdT u ≠ 5) -> cu L tz i d at_ = cu L tz j d at_) -> ∀ {i j : Nat} (d at_ : Nat),0 < d -> SpnA L size i j l -> j <= tz -> cu L tz i d at_ = cu L tz j d at_ := by
  intro l
  induction l with
  | nil => intro _ i j d at_ _ h _;cases h
  | cons u r ih =>
   intro hl i j d at_ hd h hj
   cases h with
   | one _ _ _ hk h1 => exact hl u (List.mem_cons_self ..) d at_ h1 hj (.inl hd)
   | cons _ m _ _ _ hk h1 hb h2 =>
    have := keyA r h2;rw [hl u (List.mem_cons_self ..) d at_ h1 (by omega) (.inl hd),cu_on (show m < tz by omega),if_neg (by omega),if_neg (by omega),if_neg (by omega)];exact ih (fun v hv => hl v (List.mem_cons_of_mem _ hv)) d at_ hd h2 hj
 induction t using tr_ind with
 | h k s lo hi z a b l ih =>
  intro i j d at_ h hj hd
  cases h with
  | empty _ hi => rfl
  | set _ hk => rw [cu_on (show i < tz by omega),if_neg (by omega),if_neg (by omega),if_neg (by omega)]
  | group _ j' _ u hk hi hj3 h1 =>
   have := (spn_le u h1).1;rw [cu_on (show i < tz by omega),if_pos (by omega),ih u (by simp) (d + 1) at_ h1 (by omega) (.inl (by omega)),cu_on (show j' < tz by omega),if_neg (by omega),if_pos hj3];rfl
  | cat _ _ _ hl h1 => exact listC l ih d at_ h1 hj
  | alt _ _ _ hl h1 => exact listA l ih d at_ (by rcases hd with h | h;exact h;exact absurd rfl h) h1 hj
  | rep _ j' u hu hj5 h1 =>
   rw [ih u (by simp) d at_ h1 (by omega) (.inr (by unfold IsSingle at hu;omega)),cu_on (show j' < tz by omega),if_neg (by omega),if_neg (by omega),if_neg (by omega)]
inductive Cuts (L : Toks) (size : Nat) : List (Nat × Nat) -> List Tr -> Prop
 | nil : Cuts L size [] []
 | cons (i j : Nat) (t : Tr) (c : List (Nat × Nat)) (l : List Tr) (hk : kdT t ≠ 5) (h : Spn L size i j t) (hc : Cuts L size c l) : Cuts L size ((i,j) :: c) (t :: l)
theorem cuts_of {L : Toks} {size tz : Nat} : ∀ {l : List Tr} {i : Nat},SpnA L size i tz l -> Cuts L size (cu L tz i 0 i) l
 | [],i,h => by cases h
 | [u],i,h => by
  cases h with
  | one _ _ _ hk h1 =>
   rw [cu_skip u 0 i h1 (jN _) (.inr hk),cu_end (jN _)];exact .cons i tz u [] [] hk h1 .nil
  | cons _ m _ _ _ hk h1 hb h2 => cases h2
 | u :: v :: r,i,h => by
  cases h with
  | cons _ m _ _ _ hk h1 hb h2 =>
   have hm : m < tz := by
    have keyA : ∀ (l : List Tr) {i j : Nat},SpnA L size i j l -> i <= j := by
     intro l
     induction l with
     | nil => intro i j h;cases h
     | cons u r ih =>
      intro i j h
      cases h with
      | one _ _ _ hk h1 => exact (spn_le u h1).1
      | cons _ m _ _ _ hk h1 hb h2 => have := (spn_le u h1).1;have := ih h2;omega
    have := keyA _ h2;omega
   rw [cu_skip u 0 i h1 (by omega) (.inr hk),cu_on hm,if_neg (by omega),if_neg (by omega),if_pos ⟨hb,rfl⟩];exact .cons i m u _ _ hk h1 (cuts_of h2)
theorem cuts_one {L : Toks} {size i j : Nat} {t : Tr} (hk : kdT t ≠ 5) (h : Spn L size i j t) : cu L j i 0 i = [(i,j)] := by
 rw [cu_skip t 0 i h (jN _) (.inr hk),cu_end (jN _)]
def cuG (L : Toks) : Nat -> Nat -> Nat -> Bool
 | 0,_,_ => true
 | n + 1,i,deep =>
  if kdR L i = 1 \/ kdR L i = 2 then cuG L n (i + 1) (deep + 1)
  else if kdR L i = 3 then decide (0 < deep) && cuG L n (i + 1) (deep - 1)
  else cuG L n (i + 1) deep
def cg (L : Toks) (tz i deep : Nat) : Bool := cuG L (tz - i) i deep
theorem cg_on {L : Toks} {tz i deep : Nat} (h : i < tz) : cg L tz i deep =
  if kdR L i = 1 \/ kdR L i = 2 then cg L tz (i + 1) (deep + 1)
  else if kdR L i = 3 then decide (0 < deep) && cg L tz (i + 1) (deep - 1)
  else cg L tz (i + 1) deep := by
 unfold cg;rw [show tz - i = (tz - (i + 1)) + 1 by omega,cuG]
theorem cg_end (L : Toks) (tz d : Nat) : cg L tz tz d = true := by
 unfold cg;rw [Nat.sub_self,cuG]
theorem spnC_le {L : Toks} {size : Nat} : ∀ {l : List Tr} {i j : Nat},SpnC L size i j l -> i <= j
 | [],i,j,h => by cases h;exact jN _
 | u :: r,i,j,h => by cases h with | cons _ m _ _ _ hu h1 h2 => exact Nat.le_trans (spn_le u h1).1 (spnC_le h2)
theorem spnA_le {L : Toks} {size : Nat} : ∀ {l : List Tr} {i j : Nat},SpnA L size i j l -> i <= j
 | [],i,j,h => by cases h
 | u :: r,i,j,h => by
  cases h with
  | one _ _ _ hk h1 => exact (spn_le u h1).1
  | cons _ m _ _ _ hk h1 hb h2 => have := (spn_le u h1).1;have := spnA_le h2;omega
theorem cg_skip {L : Toks} {size tz : Nat} (t : Tr) : ∀ {i j : Nat} (d : Nat),Spn L size i j t -> j <= tz -> cg L tz i d = cg L tz j d := by
 have listC : ∀ (l : List Tr),(∀ u ∈ l,∀ {i j : Nat} (d : Nat),Spn L size i j u -> j <= tz -> cg L tz i d = cg L tz j d) -> ∀ {i j : Nat} (d : Nat),SpnC L size i j l -> j <= tz -> cg L tz i d = cg L tz j d := by
  intro l
  induction l with
  | nil => intro _ i j d h _;cases h;rfl
  | cons u r ih =>
   intro hl i j d h hj
   cases h with
   | cons _ m _ _ _ hu h1 h2 =>
    have := spnC_le h2;exact (hl u (List.mem_cons_self ..) d h1 (by omega)).trans (ih (fun v hv => hl v (List.mem_cons_of_mem _ hv)) d h2 hj)
 have listA : ∀ (l : List Tr),(∀ u ∈ l,∀ {i j : Nat} (d : Nat),Spn L size i j u -> j <= tz -> cg L tz i d = cg L tz j d) -> ∀ {i j : Nat} (d : Nat),SpnA L size i j l -> j <= tz -> cg L tz i d = cg L tz j d := by
  intro l
  induction l with
  | nil => intro _ i j d h;cases h
  | cons u r ih =>
   intro hl i j d h hj
   cases h with
   | one _ _ _ hk h1 => exact hl u (List.mem_cons_self ..) d h1 hj
   | cons _ m _ _ _ hk h1 hb h2 =>
    have := spnA_le h2;rw [hl u (List.mem_cons_self ..) d h1 (by omega),cg_on (show m < tz by omega),if_neg (by omega),if_neg (by omega)];exact ih (fun v hv => hl v (List.mem_cons_of_mem _ hv)) d h2 hj
 induction t using tr_ind with
 | h k s lo hi z a b l ih =>
  intro i j d h hj
  cases h with
  | empty _ hi => rfl
  | set _ hk => rw [cg_on (show i < tz by omega),if_neg (by omega),if_neg (by omega)]
  | group _ j' _ u hk hi hj3 h1 =>
   have := (spn_le u h1).1;rw [cg_on (show i < tz by omega),if_pos (by omega),ih u (by simp) (d + 1) h1 (by omega),cg_on (show j' < tz by omega),if_neg (by omega),if_pos hj3,jT (by omega)];rfl
  | cat _ _ _ hl h1 => exact listC l ih d h1 hj
  | alt _ _ _ hl h1 => exact listA l ih d h1 hj
  | rep _ j' u hu hj5 h1 => rw [ih u (by simp) d h1 (by omega),cg_on (show j' < tz by omega),if_neg (by omega),if_neg (by omega)]
theorem cg_tree {L : Toks} {size i j : Nat} {t : Tr} (h : Spn L size i j t) : cg L j i 0 = true := by rw [cg_skip t 0 h (jN _),cg_end]
def frT : Tr -> Nat
 | .mk _ _ _ _ _ a _ _ => a
def toT : Tr -> Nat
 | .mk _ _ _ _ _ _ b _ => b
theorem spn_ab {L : Toks} {size i j : Nat} {t : Tr} (h : Spn L size i j t) : frT t = plR L size i /\ toT t = plR L size j := by
 cases h <;> exact ⟨rfl,rfl⟩
theorem spnC_ab {L : Toks} {size : Nat} : ∀ {l : List Tr} {i j : Nat},SpnC L size i j l -> (∀ t,l.head? = some t -> frT t = plR L size i) /\ ∀ t,l.getLast? = some t -> toT t = plR L size j
 | [],i,j,h => ⟨fun t h => by simp at h,fun t h => by simp at h⟩
 | [u],i,j,h => by
  cases h with
  | cons _ m _ _ _ hu h1 h2 =>
   cases h2
   refine ⟨fun t h => ?_,fun t h => ?_⟩
   ·obtain rfl : u = t := by simpa using h
    exact (spn_ab h1).1
   ·obtain rfl : u = t := by simpa using h
    exact (spn_ab h1).2
 | u :: v :: r,i,j,h => by
  cases h with
  | cons _ m _ _ _ hu h1 h2 =>
   refine ⟨fun t h => ?_,fun t h => ?_⟩
   ·obtain rfl : u = t := by simpa using h
    exact (spn_ab h1).1
   ·exact (spnC_ab h2).2 t (by rwa [List.getLast?_cons_cons] at h)
theorem spnA_ab {L : Toks} {size : Nat} : ∀ {l : List Tr} {i j : Nat},SpnA L size i j l -> (∀ t,l.head? = some t -> frT t = plR L size i) /\ ∀ t,l.getLast? = some t -> toT t = plR L size j
 | [],i,j,h => by cases h
 | [u],i,j,h => by
  cases h with
  | one _ _ _ hk h1 =>
   refine ⟨fun t h => ?_,fun t h => ?_⟩
   ·obtain rfl : u = t := by simpa using h
    exact (spn_ab h1).1
   ·obtain rfl : u = t := by simpa using h
    exact (spn_ab h1).2
  | cons _ m _ _ _ hk h1 hb h2 => cases h2
 | u :: v :: r,i,j,h => by
  cases h with
  | cons _ m _ _ _ hk h1 hb h2 =>
   refine ⟨fun t h => ?_,fun t h => ?_⟩
   ·obtain rfl : u = t := by simpa using h
    exact (spn_ab h1).1
   ·exact (spnA_ab h2).2 t (by rwa [List.getLast?_cons_cons] at h)
def AdjT (L : Toks) (size : Nat) : Prop := ∀ (i : Nat) (x : TokM × Nat × Nat),L[i]? = some x -> x.2.2 = plR L size (i + 1)
def ChT (size : Nat) : Nat -> Toks -> Prop
 | k,[] => k = size
 | k,x :: r => x.2.1 = k /\ ChT size x.2.2 r
theorem chT_adj {size : Nat} : ∀ {L : Toks} {k : Nat},ChT size k L -> AdjT L size /\ plR L size 0 = k
 | [],k,h => ⟨fun i x hx => by simp at hx,h.symm⟩
 | x :: r,k,h => by
  obtain ⟨g1,g2⟩ := chT_adj h.2;refine ⟨fun i y hy => ?_,h.1⟩
  cases i with
  | zero =>
   obtain rfl : x = y := by simpa using hy
   rw [<- g2];unfold plR;rfl
  | succ i =>
   have h1 := g1 i y (by simpa using hy);rw [h1];unfold plR;rfl
theorem scanR_ch {s : ByteArray} : ∀ (n k : Nat),k <= s.size -> (scanR s n k).2.1 = 0 -> ChT s.size k (scanR s n k).1
 | 0,k,_,h => by rw [scanR] at h;simp at h
 | n + 1,k,hk,h => by
  rw [scanR] at h ⊢
  by_cases h1 : s.size <= k
  ·rw [if_pos h1];show k = s.size;omega
  rw [if_neg h1] at h ⊢
  by_cases h2 : (tokenR s k).2.1 ≠ 0
  ·rw [if_pos h2] at h;exact absurd h h2
  rw [if_neg h2] at h ⊢
  by_cases h3 : (scanR s n (tokenR s k).2.2).2.1 ≠ 0
  ·rw [if_pos h3] at h;exact absurd h h3
  rw [if_neg h3];exact ⟨rfl,scanR_ch n (tokenR s k).2.2 (tokenR_tok (by omega)).le (Decidable.not_not.1 h3)⟩
theorem scan_adj {s : ByteArray} (h : (scanAll s).2.1 = 0) : AdjT (scanAll s).1 s.size := (chT_adj (scanR_ch (s.size + 1) 0 (Nat.zero_le _) h)).1
end
end Go.Proofs.YtlmcgbieobklhaaGreatDoor
