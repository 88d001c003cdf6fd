/- A part of the proof. -/
import Derived.Test.YtlmcgbieobklhaaGreatDoorPbU
namespace Go.Proofs.YtlmcgbieobklhaaGreatDoor
section
open Go Go.RowKit
attribute [local go_sem ↓] Go.wp_at_zero Go.wp_at_succ
attribute [local go_sem] eq4
mutual
def setsT : Tr -> List W4
 | .mk k s _ _ _ _ _ l => (if k = 1 then [s] else []) ++ setsTs l
def setsTs : List Tr -> List W4
 | [] => []
 | t :: r => setsT t ++ setsTs r
end
theorem setsTs_take : ∀ (l : List Tr) (i : Nat) (c : Tr),l[i]? = some c -> setsTs (l.take (i + 1)) = setsTs (l.take i) ++ setsT c
 | [],i,c,h => by simp at h
 | t :: r,0,c,h => by
  obtain rfl : t = c := by simpa using h
  simp [setsTs]
 | t :: r,i + 1,c,h => by
  rw [List.take_succ_cons,List.take_succ_cons,setsTs,setsTs,setsTs_take r i c (by simpa using h),List.append_assoc]
mutual
theorem sets_le : ∀ t : Tr,(setsT t).length <= trSize t
 | .mk k s lo hi z a b l => by
  have h := setss_le l;rw [setsT,trSize,List.length_append]
  split <;> simp <;> omega
theorem setss_le : ∀ l : List Tr,(setsTs l).length <= trSizes l
 | [] => by simp [setsTs,trSizes]
 | t :: r => by
  have h1 := sets_le t;have h2 := setss_le r;rw [setsTs,trSizes,List.length_append];omega
end
theorem setss_app : ∀ (l r : List Tr),setsTs (l ++ r) = setsTs l ++ setsTs r
 | [],r => by simp [setsTs]
 | t :: l,r => by rw [List.cons_append,setsTs,setsTs,setss_app l r,List.append_assoc]
theorem sets_room (l : List Tr) (i : Nat) (c : Tr) (h : l[i]? = some c) : (setsTs (l.take i)).length + (setsT c).length <= trSizes l := by
 have h1 := congrArg List.length (setsTs_take l i c h);have h2 := congrArg List.length (setss_app (l.take (i + 1)) (l.drop (i + 1)));rw [List.take_append_drop,List.length_append] at h2;rw [List.length_append] at h1;have h3 := setss_le l;omega
def flatS : List W4 -> List Value
 | [] => []
 | t :: r => .int .u64 t.a :: .int .u64 t.b :: .int .u64 t.c :: .int .u64 t.d :: flatS r
theorem flatS_append : ∀ l r : List W4,flatS (l ++ r) = flatS l ++ flatS r
 | [],r => rfl
 | t :: l,r => by simp [flatS,flatS_append l r]
theorem flatS_len : ∀ l : List W4,(flatS l).length = l.length * 4
 | [] => rfl
 | t :: l => by simp only [flatS,List.length_cons,flatS_len l];omega
theorem flatS_one : ∀ (l : List W4),∀ u ∈ flatS l,u.oneCell' = true
 | [],u,h => by simp [flatS] at h
 | t :: l,u,h => by
  simp only [flatS,List.mem_cons] at h
  rcases h with rfl | rfl | rfl | rfl | h
  ·rfl
  ·rfl
  ·rfl
  ·rfl
  ·exact flatS_one l u h
def SetsOwn (B : Nat) (L : List W4) (v : Value) (w : World) : Prop := w.ownsRow B 29 4 v L.length (flatS L)
theorem SetsOwn.below {B : Nat} {L : List W4} {v : Value} {w w1 : World} (h : SetsOwn B L v w) (hb : Below w.heap.size w w1) : SetsOwn B L v w1 := ownsBelow h hb
theorem SetsOwn.start (B : Nat) (w : World) : SetsOwn B [] (.slice none 0 0) w := ⟨rfl,.inl ⟨rfl,rfl⟩⟩
theorem ownsRow_mono {w : World} {B B' : Nat} {e : TypeId} {sz : Nat} {v : Value} {n : Nat} {xs : List Value} (h : w.ownsRow B e sz v n xs) (hB : B' <= B) : w.ownsRow B' e sz v n xs := by
 rcases h with ⟨h1,h2 | ⟨g,cap,cur,h3,h4,h5⟩⟩
 ·exact ⟨h1,.inl h2⟩
 ·exact ⟨h1,.inr ⟨g,cap,cur,h3,Nat.le_trans hB h4,h5⟩⟩
theorem Tryz.infoSt : (Tryz.prog.info? 29).map (fun i => (i.zero,i.size,i.bytes)) = some (some (.agg #[.int .u64 0,.int .u64 0,.int .u64 0,.int .u64 0]),4,32) := by kernel_rfl
theorem cell_st_at (w : World) (ty : TypeId) (s : W4) (g : Nat) (hg : g = w.heap.size) : ∀ j u,(flatS [s])[j]? = some u -> (w.alloc (.cells #[.int .u64 s.a,.int .u64 s.b,.int .u64 s.c,.int .u64 s.d] ty)).cell? ((⟨g,0,none⟩ : Addr).add j) = some u := by
 subst hg;intro j u hj;have h := heap_new w (.cells #[.int .u64 s.a,.int .u64 s.b,.int .u64 s.c,.int .u64 s.d] ty);have hc := jC h j;have e : ((⟨w.heap.size,0,none⟩ : Addr).add j) = ⟨w.heap.size,j,none⟩ := by simp [Addr.add];intro h;exact h.symm
 rw [e,hc,<- hj];simp [flatS]
end
end Go.Proofs.YtlmcgbieobklhaaGreatDoor
