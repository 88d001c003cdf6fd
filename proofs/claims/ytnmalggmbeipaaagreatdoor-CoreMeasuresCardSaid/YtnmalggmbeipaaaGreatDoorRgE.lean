/- A part of the proof. -/
import Derived.Test.YtnmalggmbeipaaaGreatDoorRgP
import Derived.Test.YtnmalggmbeipaaaGreatDoorRgN
namespace Go.Proofs.YtnmalggmbeipaaaGreatDoor
section
open Go Go.RowKit
inductive Sgl(L:jq)(size:Nat):Nat->Nat->Tr->Prop
 |set (k:Nat) (hk:jR L k=0):Sgl L size k (k+1) (.mk 1 (xv L k).set 0 0 false (ki L size k) (ki L size (k+1)) [])
 |group (k m:Nat) (kk:Int) (u:Tr) (hk:kk=2\/kk=3) (hi:jR L k=kk-1) (hj:jR L m=3) (h:vd L size (k+1) m u) (hc:cl L (k+1) 0=some m):Sgl L size k (m+1) (.mk kk j7 0 0 false (ki L size k) (ki L size (m+1)) [u])
inductive Itm(L:jq)(size:Nat):Nat->Nat->Tr->Prop
 |bare (k m:Nat) (u:Tr) (h:Sgl L size k m u):Itm L size k m u
 |rep (k m:Nat) (u:Tr) (h:Sgl L size k m u) (hj:jR L m=5):Itm L size k (m+1) (.mk 6 j7 (xv L m).lo (xv L m).hi (xv L m).lazy (ki L size k) (ki L size (m+1)) [u])
theorem sgl_of{L:jq}{size k m:Nat}{u:Tr}(h:vd L size k m u)(hu:IsSingle u):Sgl L size k m u:=by
 cases h with
 |empty _ _=>rcases hu with h|h|h<;>exact absurd h (by show ¬(0:Int)=_;decide)
 |set _ hk=>exact .set _ hk
 |group _ m' kk u hk hi hj h1=>exact .group _ _ _ _ hk hi hj h1 (cl_group h1 hj)
 |cat _ _ l hl h1=>rcases hu with h|h|h<;>exact absurd h (by show ¬(4:Int)=_;decide)
 |alt _ _ l hl h1=>rcases hu with h|h|h<;>exact absurd h (by show ¬(5:Int)=_;decide)
 |rep _ m' u hu2 hj h1=>rcases hu with h|h|h<;>exact absurd h (by show ¬(6:Int)=_;decide)
theorem Z7{L:jq}{size k m:Nat}{u:Tr}(h:vd L size k m u)(hu:IsItem u):Itm L size k m u:=by
 by_cases h6:xr u=6
 ·cases h with
  |empty _ _=>exact absurd h6 (by show ¬(0:Int)=_;decide)
  |set _ hk=>exact absurd h6 (by show ¬(1:Int)=_;decide)
  |group _ m' kk u hk hi hj h1=>exact absurd h6 (by show ¬kk=6;omega)
  |cat _ _ l hl h1=>exact absurd h6 (by show ¬(4:Int)=_;decide)
  |alt _ _ l hl h1=>exact absurd h6 (by show ¬(5:Int)=_;decide)
  |rep _ m' u hu2 hj h1=>exact .rep _ _ _ (sgl_of h1 hu2) hj
 ·exact .bare _ _ _ (sgl_of h (by unfold IsItem at hu;unfold IsSingle;omega))
theorem Uf{L:jq}{size k m:Nat}{u:Tr}(h:Sgl L size k m u):jR L k≠5/\k<m:=by
 cases h with
 |set hk=>exact⟨by omega,by omega⟩
 |group m' kk u hk hi hj h1 hc=>have:=(qT u h1).1;exact⟨by omega,by omega⟩
theorem Ut{L:jq}{size k m:Nat}{u:Tr}(h:Itm L size k m u):jR L k≠5/\k<m:=by
 cases h with
 |bare _ _ h=>exact Uf h
 |rep m' u h hj=>have:=Uf h;exact⟨this.1,by omega⟩
theorem spnC_next{L:jq}{size m j:Nat}{l:List Tr}(h:xo L size m j l)(hm:m<j):jR L m≠5:=by
 cases h with
 |nil=>omega
 |cons _ _ _ u r hu h1 h2=>exact(Ut (Z7 h1 hu)).1
def vo:Tr->List Tr
 | .mk k s lo hi z a b l=>if k=4 then l else if k=0 then [] else [.mk k s lo hi z a b l]
theorem cat_items{L:jq}{size i j:Nat}{t:Tr}(h:vd L size i j t)(hk:xr t≠5):xo L size i j (vo t):=by
 have one:IsItem t->vo t= [t]->xo L size i j (vo t):=fun hi e=>by
  rw [e];exact .cons _ _ _ _ _ hi h (.nil _)
 cases h with
 |empty _ _=>exact .nil _
 |set _ hk=>exact one (.inl rfl) rfl
 |group _ m' kk u hk2 hi hj h1=>
  refine one ?_ ?_
  ·rcases hk2 with rfl|rfl
   ·exact .inr (.inl rfl)
   ·exact .inr (.inr (.inl rfl))
  ·rcases hk2 with rfl|rfl<;>rfl
 |cat _ _ l hl h1=>exact h1
 |alt _ _ l hl h1=>exact absurd rfl hk
 |rep _ m' u hu2 hj h1=>exact one (.inr (.inr (.inr rfl))) rfl
theorem cat_form{L:jq}{size i j:Nat}{t:Tr}(h:vd L size i j t)(hk:xr t≠5):
  (vo t= []/\i=j/\t=.mk 0 j7 0 0 false (ki L size i) (ki L size i) [])\/vo t= [t]\/(2<=(vo t).length/\t=.mk 4 j7 0 0 false (ki L size i) (ki L size j) (vo t)):=by
 cases h with
 |empty _ _=>exact .inl ⟨rfl,rfl,rfl⟩
 |set _ hk=>exact .inr (.inl rfl)
 |group _ m' kk u hk2 hi hj h1=>exact .inr (.inl (by rcases hk2 with rfl|rfl<;>rfl))
 |cat _ _ l hl h1=>exact .inr (.inr ⟨hl,rfl⟩)
 |alt _ _ l hl h1=>exact absurd rfl hk
 |rep _ m' u hu2 hj h1=>exact .inr (.inl rfl)
theorem spnC_on{L:jq}{size k j:Nat}{l:List Tr}(h:xo L size k j l)(hk:k<j):∃u r m,l=u::r/\Itm L size k m u/\m<=j/\xo L size m j r/\(m<j->jR L m≠5):=by
 cases h with
 |nil=>omega
 |cons _ m _ u r hu h1 h2=>exact⟨u,r,m,rfl,Z7 h1 hu,KV h2,h2,fun hm=>spnC_next h2 hm⟩
theorem spnC_done{L:jq}{size j:Nat}{l:List Tr}(h:xo L size j j l):l= []:=by
 cases h with
 |nil=>rfl
 |cons _ m _ u r hu h1 h2=>have:=(Ut (Z7 h1 hu)).2;have:=KV h2;omega
end
end Go.Proofs.YtnmalggmbeipaaaGreatDoor
