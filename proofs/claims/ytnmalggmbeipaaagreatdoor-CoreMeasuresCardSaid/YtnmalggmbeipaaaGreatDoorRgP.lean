/- A part of the proof. -/
import Derived.Test.YtnmalggmbeipaaaGreatDoorRgA
import Derived.Test.YtnmalggmbeipaaaGreatDoorPrK
namespace Go.Proofs.YtnmalggmbeipaaaGreatDoor
section
open Go Go.RowKit
attribute [local go_sem ↓] Go.wp_at_zero Go.wp_at_succ
attribute [local go_sem] qX
theorem kU.get{w:World}{A:Nat->Prop}{k:Int}{s:W4}{lo hi:Int}{z:Bool}{a b:Nat}{l:List Tr}{v:Value}(h:kU w A (.mk k s lo hi z a b l) v){i:Nat}{k':Int}{s':W4}{lo' hi':Int}{z':Bool}{a' b':Nat}{l':List Tr}(hu:l[i]? =some (.mk k' s' lo' hi' z' a' b' l')):
  ∃g cap lu,v=.slice (some ⟨g,0,none⟩) l.length cap/\g<w.heap.size/\kU w A (.mk k' s' lo' hi' z' a' b' l') lu/\w.cell? ⟨g,i*11,none⟩=some (.int .i64 k')/\(w.cell? ⟨g,i*11+1,none⟩=some (.int .u64 s'.a)/\w.cell? ⟨g,i*11+2,none⟩=some (.int .u64 s'.b)/\w.cell? ⟨g,i*11+3,none⟩=some (.int .u64 s'.c)/\w.cell? ⟨g,i*11+4,none⟩=some (.int .u64 s'.d))/\
   w.cell? ⟨g,i*11+5,none⟩=some (.int .i64 lo')/\w.cell? ⟨g,i*11+6,none⟩=some (.int .i64 hi')/\w.cell? ⟨g,i*11+7,none⟩=some (.bool z')/\w.cell? ⟨g,i*11+8,none⟩=some lu/\w.cell? ⟨g,i*11+9,none⟩=some (.int .i64 (a':Int))/\w.cell? ⟨g,i*11+10,none⟩=some (.int .i64 (b':Int)):=by
 cases h with
 |node k s lo hi z a b l p cap us hc ht=>
  obtain⟨g,hp,_,hg,hcell⟩:=hc i _ hu;subst hp;exact⟨g,cap,us i,rfl,hg,ht i _ hu,hcell 0 _ rfl,⟨hcell 1 _ rfl,hcell 2 _ rfl,hcell 3 _ rfl,hcell 4 _ rfl⟩,hcell 5 _ rfl,hcell 6 _ rfl,hcell 7 _ rfl,hcell 8 _ rfl,hcell 9 _ rfl,hcell 10 _ rfl⟩
theorem kU.slice_len{w:World}{A:Nat->Prop}{k:Int}{s:W4}{lo hi:Int}{z:Bool}{a b:Nat}{l:List Tr}{v:Value}(h:kU w A (.mk k s lo hi z a b l) v):∃p cap,v=.slice p l.length cap:=by
 cases h with
 |node k s lo hi z a b l p cap us hc ht=>exact⟨p,cap,rfl⟩
end
end Go.Proofs.YtnmalggmbeipaaaGreatDoor
