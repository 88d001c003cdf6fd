/- A part of the proof. -/
import Derived.Test.YtlmcgbieobklhaaGreatDoorRgF
import Derived.Test.YtlmcgbieobklhaaGreatDoorRgC
namespace Go.Proofs.YtlmcgbieobklhaaGreatDoor
section
open Go Go.RowKit
theorem alts_size {u t : Tr} (h : u ∈ altsT t) : trSize u <= trSize t := by
 obtain ⟨k,s,lo,hi,z,a,b,l⟩ := t;have h : u ∈ (if k = 5 then l else [.mk k s lo hi z a b l]) := h
 split at h
 ·have h1 := trSize_mem h;rw [trSize];omega
 ·obtain rfl : u = .mk k s lo hi z a b l := by simpa using h
  exact jN _
theorem rtree_any {L : Toks} {v : Value} (size : Nat) (hlen : L.length <= 1048576) (hadj : AdjT L size) : ∀ n : Nat,
  (∀ (t : Tr) (i j : Nat),trSize t <= n -> Spn L size i j t -> kdT t ≠ 5 -> ∀ w,TokAt w v L -> Calls Tryz.prog 65 #[v,.int .i64 (i : Int),.int .i64 (j : Int),.int .i64 (size : Int)] w fun e w' => ROut t w w' e) /\
  (∀ (t : Tr) (i j : Nat),trSize t <= n -> Spn L size i j t -> ∀ w,TokAt w v L -> Calls Tryz.prog 33 #[v,.int .i64 (i : Int),.int .i64 (j : Int),.int .i64 (size : Int)] w fun e w' => ROut t w w' e)
 | 0 => ⟨fun t i j h => by have := trSize_pos t;omega,fun t i j h => by have := trSize_pos t;omega⟩
 | n + 1 => by
  have ih := rtree_any (v := v) size hlen hadj n
  have hc : ∀ (t : Tr) (i j : Nat),trSize t <= n + 1 -> Spn L size i j t -> kdT t ≠ 5 -> ∀ w,TokAt w v L -> Calls Tryz.prog 65 #[v,.int .i64 (i : Int),.int .i64 (j : Int),.int .i64 (size : Int)] w fun e w' => ROut t w w' e :=
   fun t i j ht hs hk w h => rcat_loop size i j t hlen hadj hs hk w h (fun u f z hu hs' W hW => ih.2 u f z (by omega) hs' W hW)
  exact ⟨hc,fun t i j ht hs w h => ralt_loop size i j t hlen hs w h (fun u f z hu hs' hk W hW => hc u f z (by have := alts_size hu;omega) hs' hk W hW)⟩
end
end Go.Proofs.YtlmcgbieobklhaaGreatDoor
