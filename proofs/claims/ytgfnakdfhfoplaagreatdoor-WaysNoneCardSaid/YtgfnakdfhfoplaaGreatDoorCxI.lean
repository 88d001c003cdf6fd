/- The append on what is known, told. Generic over the program. -/
import Derived.Test.YtgfnakdfhfoplaaGreatDoorCxH
namespace Go.Proofs.YtgfnakdfhfoplaaGreatDoor.Cx
open Go
def aapp2 (e : TypeId) (i : TypeInfo) (news : List Value) (s : St) (base : Option Addr) (len n cap : Nat) : Option (Value × St) :=
  match base with
  | none => bif Nat.beq len 0 && Nat.beq cap 0 then some (.slice (some ⟨s.next, 0, none⟩) n n, { heap := s.heap.set s.next (.cells (n * i.size) (T.ofList news) e true), next := s.next + 1, wr := s.wr }) else none
  | some ⟨b, o, none⟩ => (match s.heap.get b with
    | some (.cells k c e' g) => bif Nat.beq e' e && Nat.blt b lim then
        bif Nat.ble (len + n) cap then
          bif Nat.beq o 0 && Nat.ble ((len + n) * i.size) k then some (.slice (some ⟨b, 0, none⟩) (len + n) cap, { heap := s.heap.set b (.cells k (c.lay (len * i.size) news) e' g), next := s.next, wr := s.wr.set b () }) else none
        else bif g then
          bif Nat.beq o 0 && (Nat.beq (cap * i.size) k && Nat.ble len cap) then some (.slice (some ⟨s.next, 0, none⟩) (len + n) (len + n), { heap := (s.heap.del b).set s.next (.cells ((len + n) * i.size) (c.lay (len * i.size) news) e true), next := s.next + 1, wr := s.wr.set b () }) else none
        else (match rd s b o (len * i.size) with
          | some olds => some (.slice (some ⟨s.next, 0, none⟩) (len + n) (len + n), { heap := s.heap.set s.next (.cells ((len + n) * i.size) (T.ofList (olds ++ news)) e true), next := s.next + 1, wr := s.wr })
          | none => none)
      else none
    | _ => none)
  | _ => none
def aapp (P : Program) (t : TypeId) (x y : Value) (s : St) : Option (Value × St) := match P.underlying t, x, y with
  | some (.slice e), .slice base len cap, .slice (some ⟨ab, ao, none⟩) n _ => (match P.info? e with
    | some i => (match i.zero, rd s ab ao (n * i.size) with
      | some z, some news => bif Nat.beq z.cells.size i.size && (Nat.ble ((len + n) * i.bytes) 140737488355328 && (Nat.ble (len + n) 4611686018427387904 && (Nat.blt ((len + n) * i.size) lim && (Nat.blt s.next lim && Nat.blt 0 n)))) then aapp2 e i news s base len n cap else none
      | _, _ => none)
    | none => none)
  | _, _, _ => none
section
variable {P : Program} {m m0 m1 m2 m3 : Mp} {s s1 s2 s3 : St} {w w1 w2 w3 : World}
theorem lay_rel {c : T Value} {cs R : Array Value} {k L : Nat} {news news' : List Value} (h : ∀ i v, c.get i = some v → i < k ∧ ∃ v', cs[i]? = some v' ∧ VR m v v') (hl : LR m news news') (hb : L + news.length < lim)
    (h1 : ∀ i, i < L → R[i]? = cs[i]?) (h2 : ∀ j, j < news.length → R[L + j]? = news'[j]?) (h3 : ∀ i, L + news.length ≤ i → i < k → R[i]? = cs[i]?) {K : Nat} (hK : L + news.length ≤ K) (hk : k ≤ K) :
    ∀ i v, (c.lay L news).get i = some v → i < K ∧ ∃ v', R[i]? = some v' ∧ VR m v v' := by
  intro i v hi
  rw [T.get_lay _ _ _ _ hb] at hi
  split at hi
  · rename_i hin
    obtain ⟨v', g1, g2⟩ := hl.get hi
    refine ⟨by omega, v', ?_, g2⟩
    have := h2 (i - L) (by omega)
    rw [show L + (i - L) = i by omega] at this
    rw [this]; exact g1
  · rename_i hin
    obtain ⟨g0, v', g1, g2⟩ := h i v hi
    refine ⟨by omega, v', ?_, g2⟩
    by_cases hlt : i < L
    · rw [h1 i hlt]; exact g1
    · rw [h3 i (by omega) g0]; exact g1
theorem of_rel {R : Array Value} {l l' : List Value} (hl : LR m l l') (hb : l.length < lim) (hR : ∀ j, j < l.length → R[j]? = l'[j]?) {K : Nat} (hK : l.length ≤ K) : ∀ i v, (T.ofList l).get i = some v → i < K ∧ ∃ v', R[i]? = some v' ∧ VR m v v' := by
  intro i v hi
  rw [T.get_ofList hb] at hi
  have hlt : i < l.length := (List.getElem?_eq_some_iff.1 hi).1
  obtain ⟨v', g1, g2⟩ := hl.get hi
  exact ⟨by omega, v', by rw [hR i hlt]; exact g1, g2⟩
theorem aapp_ok (h : Ok P m s w) {t : TypeId} (ty : TypeId) {x y x' y' v : Value} (hx : VR m x x') (hy : VR m y y') (hr : aapp P t x y s = some (v, s2)) :
    ∃ m2 v' w2, (Builtin.append_ #[t, t] ty #[x', y']).run P w = .ok v' w2 ∧ VR m2 v v' ∧ Post P m s w m2 s2 w2 := by
  unfold aapp at hr
  split at hr
  · rename_i e base len cap ab ao n c ht
    split at hr
    · rename_i i hi
      split at hr
      · rename_i z news hz hnews
        cases hc : (Nat.beq z.cells.size i.size && (Nat.ble ((len + n) * i.bytes) 140737488355328 && (Nat.ble (len + n) 4611686018427387904 && (Nat.blt ((len + n) * i.size) lim && (Nat.blt s.next lim && Nat.blt 0 n))))) with
        | false => rw [hc] at hr; cases hr
        | true =>
          rw [hc] at hr
          simp only [cond] at hr
          simp only [Bool.and_eq_true, Nat.blt_eq, Nat.ble_eq, Nat.beq_eq] at hc
          obtain ⟨hzs, hby, hle, hlim, hnx, hn0⟩ := hc
          cases hy with
          | slice hym =>
          rename_i ac ax
          obtain ⟨news', hlr, hlen, hcell, hone⟩ := rd_ok h hym _ _ hnews
          have hnl : news.length = n * i.size := by rw [hlr.length, hlen]
          have hsum : len * i.size + n * i.size = (len + n) * i.size := (Nat.add_mul _ _ _).symm
          have hbig : ((len + n : Nat) : Int) ≤ 9223372036854775807 := by omega
          unfold aapp2 at hr
          split at hr
          · -- of nothing
            cases hq : (Nat.beq len 0 && Nat.beq cap 0) with
            | false => rw [hq] at hr; cases hr
            | true =>
              rw [hq] at hr
              simp only [cond] at hr
              injection hr with hr; injection hr with e1 e2; subst e1; subst e2
              simp only [Bool.and_eq_true, Nat.beq_eq] at hq
              obtain ⟨rfl, rfl⟩ := hq
              cases hx with
              | snil =>
              simp only [Nat.zero_add] at hby hle hlim hbig
              have hrun := run_append_nil (P := P) w t ty e i z ht hi hz ⟨ac, ao, none⟩ n (c + ax) news' hlen hcell hn0 hbig (by omega)
              refine ⟨_, _, _, hrun, ?_, (alloc_ok (x := grownCap w n 0 e - n) h hnx (.grown ⟨i, hi, rfl⟩ ?_ (of_rel hlr (by omega) (fun j hj => ?_) (by omega)))).world rfl rfl rfl rfl⟩
              · have hge := grownCap_ge w n 0 e
                have : VR (m.add s.next w.heap.size (grownCap w n 0 e - n)) (.slice (some ⟨s.next, 0, none⟩) n n) (.slice (some ⟨w.heap.size, 0, none⟩) n (n + (grownCap w n 0 e - n))) := .slice (Mp.add_self ..)
                rwa [show n + (grownCap w n 0 e - n) = grownCap w n 0 e by omega] at this
              · rw [Array.size_append, size_zeroCells, hzs]; simp [hlen]
              · rw [Array.getElem?_append_left (by simp [← hlr.length]; exact hj)]; simp
          · rename_i b o
            cases hx with
            | slice hxm =>
            rename_i g x
            split at hr
            · rename_i k ct e' gr hb
              cases hq : (Nat.beq e' e && Nat.blt b lim) with
              | false => rw [hq] at hr; cases hr
              | true =>
                rw [hq] at hr
                simp only [cond] at hr
                simp only [Bool.and_eq_true, Nat.beq_eq, Nat.blt_eq] at hq
                obtain ⟨rfl, hblim⟩ := hq
                obtain ⟨g2, x2, o2, k1, k2, k3⟩ := h.dom b _ hb
                rw [hxm] at k1; injection k1 with k1; injection k1 with k1 k1'; subst k1; subst k1'
                obtain ⟨cs, rfl, hkn, hcs, hmk⟩ := k3.cells_inv
                cases hroom : Nat.ble (len + n) cap with
                | true =>
                  rw [hroom] at hr
                  simp only at hr
                  have hroom := Nat.le_of_ble_eq_true hroom
                  cases hq : (Nat.beq o 0 && Nat.ble ((len + n) * i.size) k) with
                  | false => rw [hq] at hr; cases hr
                  | true =>
                    rw [hq] at hr
                    simp only at hr
                    injection hr with hr; injection hr with e1 e2; subst e1; subst e2
                    simp only [Bool.and_eq_true, Nat.beq_eq, Nat.ble_eq] at hq
                    obtain ⟨rfl, hfit⟩ := hq
                    have hrun := run_append_room (P := P) w t ty e' i ht hi g len (cap + x) cs k2 ⟨ac, ao, none⟩ n (c + ax) news' hlen hcell hone (by omega) (by rw [hlen, hsum]; omega)
                    refine ⟨m, _, _, hrun, .slice hxm, ?_⟩
                    have hp := put_ok (o2 := .cells k (ct.lay (len * i.size) news) e' gr) h hblim hb hxm (hmk (ct.lay (len * i.size) news) (cs.toList.take (len * i.size) ++ news' ++ cs.toList.drop (len * i.size + news'.length)).toArray ?_ ?_)
                    · refine hp.world ?_ rfl rfl rfl
                      apply Array.ext_getElem?
                      intro j
                      by_cases hj : j = g
                      · subst hj
                        rw [setRow_heap w j cs _ e' _ k2]; simp [(Array.getElem?_eq_some_iff.1 k2).1]
                      · rw [setRow_other w g j _ hj]; simp [Array.getElem?_setIfInBounds_ne (Ne.symm hj)]
                    · simp only [List.size_toArray, List.length_append, List.length_take, List.length_drop, Array.length_toList]
                      rw [hlen]; omega
                    · refine lay_rel hcs hlr (by omega) (fun j hj => ?_) (fun j hj => ?_) (fun j hj hj2 => ?_) (by omega) (Nat.le_refl k)
                      · simp only [List.getElem?_toArray, List.append_assoc]
                        rw [List.getElem?_append_left (by simp; omega), List.getElem?_take, if_pos hj, Array.getElem?_toList]
                      · simp only [List.getElem?_toArray, List.append_assoc]
                        rw [List.getElem?_append_right (by simp; omega), List.getElem?_append_left (by simp; rw [← hlr.length]; omega)]
                        congr 1; simp; omega
                      · simp only [List.getElem?_toArray]
                        rw [List.getElem?_append_right (by simp; rw [← hlr.length]; omega), List.getElem?_drop, Array.getElem?_toList]
                        congr 1; simp; rw [← hlr.length]; omega
                | false =>
                  rw [hroom] at hr
                  simp only at hr
                  have hroom : ¬ len + n ≤ cap := fun hh => by rw [Nat.ble_eq_true_of_le hh] at hroom; cases hroom
                  cases gr with
                  | true =>
                    simp only at hr
                    cases hq : (Nat.beq o 0 && (Nat.beq (cap * i.size) k && Nat.ble len cap)) with
                    | false => rw [hq] at hr; cases hr
                    | true =>
                      rw [hq] at hr
                      simp only at hr
                      injection hr with hr; injection hr with e1 e2; subst e1; subst e2
                      simp only [Bool.and_eq_true, Nat.beq_eq, Nat.ble_eq] at hq
                      obtain ⟨rfl, hk, hlc⟩ := hq
                      have hlk : len * i.size ≤ cap * i.size := Nat.mul_le_mul_right _ hlc
                      cases k3 with
                      | grown hsz hcn _ =>
                      obtain ⟨i2, hi2, hs2⟩ := hsz
                      rw [hi] at hi2; injection hi2 with hi2; subst hi2; subst hs2
                      have hcn2 : cs.size = (cap + x) * i.size := by rw [hcn, ← hk, Nat.add_mul]
                      by_cases hgrow : len + n ≤ cap + x
                      · have hfit : (len + n) * i.size ≤ cs.size := by rw [hcn2]; exact Nat.mul_le_mul_right _ hgrow
                        have hrun := run_append_room (P := P) w t ty e' i ht hi g len (cap + x) cs k2 ⟨ac, ao, none⟩ n (c + ax) news' hlen hcell hone hgrow (by rw [hlen, hsum]; exact hfit)
                        refine ⟨_, _, _, hrun, ?_, swap_ok (x2 := cap + x - (len + n)) h hnx hblim hb hxm (fun j hj => setRow_other w g j _ hj) (setRow_heap w g cs _ e' _ k2) (by simp [World.setRow]) rfl rfl rfl (.grown ⟨i, hi, rfl⟩ ?_ (lay_rel hcs hlr (by omega) (fun j hj => ?_) (fun j hj => ?_) (fun j hj hj2 => ?_) (by omega) (by rw [← hk]; exact Nat.mul_le_mul_right _ (by omega))))⟩
                        · have : VR (m.add s.next g (cap + x - (len + n))) (.slice (some ⟨s.next, 0, none⟩) (len + n) (len + n)) (.slice (some ⟨g, 0, none⟩) (len + n) ((len + n) + (cap + x - (len + n)))) := .slice (Mp.add_self ..)
                          rwa [show (len + n) + (cap + x - (len + n)) = cap + x by omega] at this
                        · simp only [List.size_toArray, List.length_append, List.length_take, List.length_drop, Array.length_toList]
                          have e9 : (cap + x - (len + n)) * i.size = cs.size - (len + n) * i.size := by rw [hcn2, ← Nat.sub_mul]
                          rw [hlen, e9]; omega
                        · simp only [List.getElem?_toArray, List.append_assoc]
                          rw [List.getElem?_append_left (by simp; omega), List.getElem?_take, if_pos hj, Array.getElem?_toList]
                        · simp only [List.getElem?_toArray, List.append_assoc]
                          rw [List.getElem?_append_right (by simp; omega), List.getElem?_append_left (by simp; rw [← hlr.length]; omega)]
                          congr 1; simp; omega
                        · simp only [List.getElem?_toArray]
                          rw [List.getElem?_append_right (by simp; rw [← hlr.length]; omega), List.getElem?_drop, Array.getElem?_toList]
                          congr 1; simp; rw [← hlr.length]; omega
                      · have holds : ∀ j u, (cs.toList.take (len * i.size))[j]? = some u → w.cell? ((⟨g, 0, none⟩ : Addr).add j) = some u := fun j u hj => by
                          rw [List.getElem?_take] at hj
                          split at hj
                          · rw [Array.getElem?_toList] at hj
                            unfold Addr.add
                            split
                            · rename_i e; subst e; simp [World.cell?, k2, hj]
                            · simp [World.cell?, k2, hj]
                          · cases hj
                        have hol : (cs.toList.take (len * i.size)).length = len * i.size := by simp; omega
                        have hrun := run_append_grow (P := P) w t ty e' i z ht hi hz ⟨g, 0, none⟩ len (cap + x) _ hol holds ⟨ac, ao, none⟩ n (c + ax) news' hlen hcell (by omega) hbig (growslice_fits (by omega) hby)
                        have hge := grownCap_ge w (len + n) (cap + x) e'
                        have hd : Post P m s w m { heap := s.heap.del b, next := s.next, wr := s.wr.set b () } w := by
                          have hget : ∀ j, (s.heap.del b).get j = if j = b then none else s.heap.get j := fun j => T.get_del hblim
                          refine ⟨⟨fun b1 o1 hb1 => ?_, fun b1 b2 o1 o3 c1 x1 x3 h1 h5 h6 h7 => ?_, h.glob, h.new⟩, .refl _, Nat.le_refl _, fun b1 _ h5 => ?_, fun b1 _ h5 => ?_, fun b1 h5 => ?_, fun _ _ _ => rfl, fun _ _ _ h1 h2 => absurd (h1.symm.trans h2) (by simp), Nat.le_refl _, rfl, rfl, rfl, fun _ _ => rfl, fun _ _ _ _ _ _ _ => rfl⟩
                          · dsimp only at hb1; rw [hget] at hb1; split at hb1
                            · cases hb1
                            · exact h.dom b1 o1 hb1
                          · dsimp only at h1 h5; rw [hget] at h1 h5
                            split at h1
                            · cases h1
                            · split at h5
                              · cases h5
                              · exact h.inj b1 b2 o1 o3 c1 x1 x3 h1 h5 h6 h7
                          · dsimp only at h5; rw [hget] at h5; split at h5
                            · exact absurd rfl h5
                            · exact h5
                          · dsimp only at h5 ⊢; rw [T.get_set hblim] at h5; rw [hget]; split at h5
                            · cases h5
                            · rename_i e; rw [if_neg e]
                          · dsimp only at h5; rw [T.get_set hblim] at h5; split at h5
                            · cases h5
                            · exact h5
                        have ha := alloc_ok (s := { heap := s.heap.del b, next := s.next, wr := s.wr.set b () }) (x := grownCap w (len + n) (cap + x) e' - (len + n)) (o' := .cells ((cs.toList.take (len * i.size)).toArray ++ news'.toArray ++ Builtin.zeroCells z.cells (grownCap w (len + n) (cap + x) e' - (len + n))) e' (0, 0)) hd.ok hnx
                          (.grown (c := ct.lay (len * i.size) news) (n := (len + n) * i.size) ⟨i, hi, rfl⟩ ?_ (lay_rel hcs hlr (by omega) (fun j hj => ?_) (fun j hj => ?_) (fun j hj hj2 => ?_) (by omega) (by rw [← hk]; exact Nat.mul_le_mul_right _ (by omega))))
                        · refine ⟨_, _, _, hrun, ?_, (hd.trans h ha).world rfl rfl rfl rfl⟩
                          have : VR (m.add s.next w.heap.size (grownCap w (len + n) (cap + x) e' - (len + n))) (.slice (some ⟨s.next, 0, none⟩) (len + n) (len + n)) (.slice (some ⟨w.heap.size, 0, none⟩) (len + n) ((len + n) + (grownCap w (len + n) (cap + x) e' - (len + n)))) := .slice (Mp.add_self ..)
                          rwa [show (len + n) + (grownCap w (len + n) (cap + x) e' - (len + n)) = grownCap w (len + n) (cap + x) e' by omega] at this
                        · rw [Array.size_append, Array.size_append, size_zeroCells, hzs, List.size_toArray, List.size_toArray, hol, hlen, hsum]
                        · rw [Array.append_assoc, Array.getElem?_append_left (by simp; omega)]
                          simp only [List.getElem?_toArray]
                          rw [List.getElem?_take, if_pos hj, Array.getElem?_toList]
                        · rw [Array.append_assoc, Array.getElem?_append_right (by simp; omega), Array.getElem?_append_left (by simp; rw [← hlr.length]; omega)]
                          simp only [List.getElem?_toArray, List.size_toArray, hol]
                          congr 1; omega
                        · exfalso
                          have := Nat.mul_le_mul_right i.size (show cap ≤ len + n by omega)
                          omega
                  | false =>
                    simp only at hr
                    split at hr
                    · rename_i olds ho
                      injection hr with hr; injection hr with e1 e2; subst e1; subst e2
                      cases k3 with
                      | exact hx0 hcn _ =>
                      subst hx0
                      obtain ⟨olds', hlr2, hlen2, hcell2, hone2⟩ := rd_ok h hxm _ _ ho
                      have hrun := run_append_grow (P := P) w t ty e' i z ht hi hz ⟨g, o, none⟩ len (cap + 0) olds' hlen2 hcell2 ⟨ac, ao, none⟩ n (c + ax) news' hlen hcell (by omega) hbig (growslice_fits (by omega) hby)
                      have hge := grownCap_ge w (len + n) (cap + 0) e'
                      refine ⟨_, _, _, hrun, ?_, (alloc_ok (x := grownCap w (len + n) (cap + 0) e' - (len + n)) h hnx (.grown ⟨i, hi, rfl⟩ ?_ (of_rel (hlr2.append hlr) (by rw [List.length_append, hlr2.length, hlen2]; omega) (fun j hj => ?_) (by rw [List.length_append, hlr2.length, hlen2]; omega)))).world rfl rfl rfl rfl⟩
                      · have : VR (m.add s.next w.heap.size (grownCap w (len + n) (cap + 0) e' - (len + n))) (.slice (some ⟨s.next, 0, none⟩) (len + n) (len + n)) (.slice (some ⟨w.heap.size, 0, none⟩) (len + n) ((len + n) + (grownCap w (len + n) (cap + 0) e' - (len + n)))) := .slice (Mp.add_self ..)
                        rwa [show (len + n) + (grownCap w (len + n) (cap + 0) e' - (len + n)) = grownCap w (len + n) (cap + 0) e' by omega] at this
                      · rw [Array.size_append, Array.size_append, size_zeroCells, hzs, List.size_toArray, List.size_toArray, hlen2, hlen, hsum]
                      · rw [List.length_append, hlr2.length, hlr.length] at hj
                        rw [Array.getElem?_append_left (by simpa using hj)]; simp
                    · cases hr
            · cases hr
          · cases hr
      · cases hr
    · cases hr
  · cases hr
end
end Go.Proofs.YtgfnakdfhfoplaaGreatDoor.Cx
