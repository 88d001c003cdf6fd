/- Maps on what is known. Generic over the program. -/
import Derived.Test.YtgfnakdfhfoplaaGreatDoorCxK
namespace Go.Proofs.YtgfnakdfhfoplaaGreatDoor.Cx
open Go
def akey (P : Program) : Nat → TypeId → Value → Bool
  | 0, _, _ => false
  | d + 1, t, v => match P.underlying t, v with
    | some .bool, _ => true
    | some (.int _), _ => true
    | some .string, _ => true
    | some (.pointer _), _ => true
    | some (.array n e), .agg xs => (match P.info? e with
      | some i => (List.range' 0 n).all fun k => (match aPart P e xs (k * i.size) with
        | some x => akey P d e x
        | none => false)
      | none => false)
    | some (.struct fs), .agg xs => fs.toList.all fun f => f.name == "_" || (match aPart P f.type xs f.offset with
      | some x => akey P d f.type x
      | none => false)
    | _, _ => false
def afind (P : Program) (s : St) (t : TypeId) (k : Value) : List MapEntry → Nat → Option (Option (Nat × Value))
  | [], _ => some none
  | e :: es, i => match aeq P s 20 t k e.key with
    | some true => some (some (i, e.val))
    | some false => afind P s t k es (i + 1)
    | none => none
def alook (P : Program) (s : St) (t : TypeId) (x k : Value) (ok : Bool) : Option Value := match P.underlying t with
  | some (.map kt et) => bif akey P 20 kt k && zflat P et then
      (match (match x with
        | .map none => some []
        | .map (some r) => (match objAt s r with
          | some (.map es _) => some es.toList
          | _ => none)
        | _ => none) with
      | some es => (match afind P s kt k es 0 with
        | some (some (_, v)) => some (bif ok then .tuple #[v, .bool true] else v)
        | some none => (match P.info? et with
          | some i => (match i.zero with
            | some z => some (bif ok then .tuple #[z, .bool false] else z)
            | none => none)
          | none => none)
        | none => none)
      | none => none)
    else none
  | _ => none
/-- A key is stored anew: it stays. -/
def aupd (P : Program) (s : St) (t : TypeId) (x k v : Value) : Option St := match P.underlying t, x with
  | some (.map kt _), .map (some r) => (match objAt s r with
    | some (.map es clock) => bif akey P 20 kt k then (match afind P s kt k es.toList 0 with
        | some (some (i, _)) => bif Instr.sameBits 10000 (((es[i]?).map (·.key)).getD k) k then putObj s r (.map (es.modify i fun e => { e with key := k, val := v }) clock) else none
        | some none => putObj s r (.map (es.push { key := k, val := v, born := clock }) (clock + 1))
        | none => none) else none
    | _ => none)
  | _, _ => none
section
variable {P : Program} {m m0 m1 m2 m3 : Mp} {s s1 s2 s3 : St} {w w1 w2 w3 : World}
theorem forIn_yield {α : Type} {g : α → PUnit → Sem (ForInStep PUnit)} {w : World} : ∀ (l : List α), (∀ a ∈ l, (g a PUnit.unit).run P w = .ok (.yield PUnit.unit) w) → (forIn l PUnit.unit g).run P w = .ok PUnit.unit w
  | [], _ => rfl
  | a :: l, h => by
    rw [List.forIn_cons]
    simp only [Sem.run_bind, h a (List.mem_cons_self ..), Result.andThen_ok]
    exact forIn_yield l fun b hb => h b (List.mem_cons_of_mem _ hb)
theorem akey_ok : ∀ (d D : Nat), d ≤ D → ∀ {t : TypeId} {v v' : Value} (_ : VR m v v') (_ : akey P d t v = true) (e : Bool), (Instr.checkKey e D t v').run P w = .ok () w
  | 0, _, _, _, _, _, _, h, _ => nomatch h
  | d + 1, 0, hle, _, _, _, _, _, _ => absurd hle (by omega)
  | d + 1, D + 1, hle, t, v, v', hv, h, e => by
    have ih := fun {t : TypeId} {v v' : Value} (h1 : VR m v v') (h2 : akey P d t v = true) => akey_ok d D (by omega) h1 h2 e
    unfold akey at h
    cases hu : P.underlying t with
    | none => rw [hu] at h; cases h
    | some td =>
      rw [hu] at h
      unfold Instr.checkKey
      rw [Sem.run_bind, run_under hu, Result.andThen_ok]
      cases td with
      | bool => rfl
      | int k => rfl
      | string => rfl
      | pointer k => rfl
      | array n el =>
        cases hv <;> first | (cases h; done) | skip
        rename_i xs ys hs hv
        dsimp only at h ⊢
        cases hi : P.info? el with
        | none => rw [hi] at h; cases h
        | some i =>
          rw [hi] at h
          have hs2 : (sizeOf el).run P w = .ok i.size w := by simp [sizeOf, typeInfo, Go.program, Sem.run, hi]
          rw [Std.Legacy.Range.forIn_eq_forIn_range']
          simp only [Std.Legacy.Range.size, Nat.sub_zero, Nat.add_sub_cancel, Nat.div_one]
          rw [Sem.run_bind, forIn_yield _ fun k hk => ?_, Result.andThen_ok]
          · rfl
          · have h2 := List.all_eq_true.1 h k hk
            split at h2
            · rename_i x hx
              obtain ⟨x', g1, g2⟩ := aPart_ok ⟨hs, hv⟩ hx
              simp only [Sem.run_bind, hs2, Result.andThen_ok, g2, ih g1 h2]; rfl
            · cases h2
      | struct fs =>
        cases hv <;> first | (cases h; done) | skip
        rename_i xs ys hs hv
        dsimp only at h ⊢
        rw [Sem.run_bind, ← Array.forIn_toList, forIn_yield _ fun f hf => ?_, Result.andThen_ok]
        · rfl
        · have h2 := List.all_eq_true.1 h f hf
          by_cases hn : f.name = "_"
          · simp [hn]
          · rw [if_pos hn]
            rw [Bool.or_eq_true] at h2
            rcases h2 with h2 | h2
            · exact absurd (by simpa using h2) hn
            · split at h2
              · rename_i x hx
                obtain ⟨x', g1, g2⟩ := aPart_ok ⟨hs, hv⟩ hx
                simp only [Sem.run_bind, Result.andThen_ok, g2, ih g1 h2]; rfl
              · cases h2
      | _ => cases v <;> cases h
/-- What was found. -/
def FdR (m : Mp) (a b : Option (Nat × Value)) : Prop := a = none ∧ b = none ∨ ∃ i v v', a = some (i, v) ∧ b = some (i, v') ∧ VR m v v'
theorem afind_asking (h : Ok P m s w) {t : TypeId} {k k' : Value} (hk : VR m k k') : ∀ {es es' : List MapEntry} (_ : ER m es es') (i : Nat) {r : Option (Nat × Value)}, afind P s t k es i = some r → ∃ r', (Instr.findAsking t k' es' i).run P w = .ok r' w ∧ FdR m r r'
  | [], _, .nil, i, r, hr => by injection hr with hr; subst hr; exact ⟨none, rfl, .inl ⟨rfl, rfl⟩⟩
  | e :: es, e' :: es', .cons hkk hvv hb ht, i, r, hr => by
    unfold afind at hr
    unfold Instr.findAsking
    split at hr
    · rename_i ha
      injection hr with hr; subst hr
      have := aeq_ok h 20 10000 (by omega) hk hkk ha
      exact ⟨some (i, e'.val), by rw [Sem.run_bind, show (Op.equal t k' e'.key).run P w = _ from this]; rfl, .inr ⟨i, _, _, rfl, rfl, hvv⟩⟩
    · rename_i ha
      obtain ⟨r', h1, h2⟩ := afind_asking h hk ht (i + 1) hr
      have := aeq_ok h 20 10000 (by omega) hk hkk ha
      exact ⟨r', by rw [Sem.run_bind, show (Op.equal t k' e'.key).run P w = _ from this]; exact h1, h2⟩
    · cases hr
theorem sameNow_eq {td : TypeDesc} {t : TypeId} (ht : P.underlying t = some td) {x y : Value} {b : Bool} (hs : Instr.sameNow td x y = some b) : (Op.equalIn 10000 t x y).run P w = .ok b w := by
  unfold Instr.sameNow at hs
  split at hs
  · split at hs
    · rename_i he; injection hs with hs; subst hs; subst he
      exact run_equalIn_int w 9999 t _ _ _ _ ht
    · cases hs
  · injection hs with hs; subst hs
    unfold Op.equalIn
    rw [Sem.run_bind, run_under ht, Result.andThen_ok]; rfl
  · injection hs with hs; subst hs
    unfold Op.equalIn
    rw [Sem.run_bind, run_under ht, Result.andThen_ok]; rfl
  · cases hs
theorem afind_now (h : Ok P m s w) {t : TypeId} {td : TypeDesc} (ht : P.underlying t = some td) {k k' : Value} (hk : VR m k k') : ∀ {es es' : List MapEntry} (_ : ER m es es') (i : Nat) {r : Option (Nat × Value)}, afind P s t k es i = some r →
    Instr.findNow td k' es' i = none ∨ ∃ r', Instr.findNow td k' es' i = some r' ∧ FdR m r r'
  | [], _, .nil, i, r, hr => by injection hr with hr; subst hr; exact .inr ⟨none, rfl, .inl ⟨rfl, rfl⟩⟩
  | e :: es, e' :: es', .cons hkk hvv hb htl, i, r, hr => by
    unfold afind at hr
    unfold Instr.findNow
    cases hs : Instr.sameNow td k' e'.key with
    | none => exact .inl rfl
    | some b =>
      have hb2 := sameNow_eq (w := w) ht hs
      cases b with
      | true =>
        dsimp only
        split at hr
        · injection hr with hr; subst hr
          exact .inr ⟨_, rfl, .inr ⟨i, _, _, rfl, rfl, hvv⟩⟩
        · rename_i ha
          have := aeq_ok h 20 10000 (by omega) hk hkk ha
          rw [hb2] at this; injection this with this _; cases this
        · cases hr
      | false =>
        dsimp only
        split at hr
        · rename_i ha
          have := aeq_ok h 20 10000 (by omega) hk hkk ha
          rw [hb2] at this; injection this with this _; cases this
        · exact afind_now h ht hk htl (i + 1) hr
        · cases hr
theorem afind_ok (h : Ok P m s w) {t : TypeId} {k k' : Value} (hk : VR m k k') {es es' : List MapEntry} (he : ER m es es') {r : Option (Nat × Value)} (hr : afind P s t k es 0 = some r) (hd : ∃ td, P.underlying t = some td) :
    ∃ r', (Instr.findKey t k' es').run P w = .ok r' w ∧ FdR m r r' := by
  obtain ⟨td, ht⟩ := hd
  unfold Instr.findKey
  rw [Sem.run_bind, run_under ht, Result.andThen_ok]
  rcases afind_now h ht hk he 0 hr with h1 | ⟨r', h1, h2⟩
  · rw [h1]; exact afind_asking h hk he 0 hr
  · rw [h1]; exact ⟨r', rfl, h2⟩
theorem akey_under {d : Nat} {t : TypeId} {v : Value} (h : akey P d t v = true) : ∃ td, P.underlying t = some td := by
  cases d with
  | zero => cases h
  | succ d =>
    unfold akey at h
    cases hu : P.underlying t with
    | none => rw [hu] at h; cases h
    | some td => exact ⟨td, rfl⟩
theorem vr_ok (ok : Bool) {v v' : Value} (h : VR m v v') (b : Bool) : VR m (bif ok then .tuple #[v, .bool b] else v) (if ok = true then .tuple #[v', .bool b] else v') := by
  cases ok
  · exact h
  · exact (ar_iff.2 (.cons h (.cons (.bool b) .nil))).tuple
theorem getObj_map {c k : Nat} {es : Array MapEntry} (h : w.heap[c]? = some (.map es k)) : (getObj c).run P w = .ok (.map es k) w := by simp [getObj, Sem.run, h]
theorem alook_ok (h : Ok P m s w) {t : TypeId} {x x' k k' v : Value} {ok : Bool} (hx : VR m x x') (hk : VR m k k') (hr : alook P s t x k ok = some v) : ∃ v', (Instr.lookup t x' k' ok).run P w = .ok v' w ∧ VR m v v' := by
  unfold alook at hr
  split at hr
  · rename_i kt et ht
    cases hc : (akey P 20 kt k && zflat P et) with
    | false => rw [hc] at hr; cases hr
    | true =>
      rw [hc] at hr
      simp only [cond] at hr
      rw [Bool.and_eq_true] at hc
      obtain ⟨hkey, hz⟩ := hc
      unfold Instr.lookup
      rw [Sem.run_bind, run_under ht, Result.andThen_ok]
      have tail : ∀ (es : List MapEntry) (es' : Array MapEntry), ER m es es'.toList → (match afind P s kt k es 0 with
        | some (some (_, v)) => some (bif ok then .tuple #[v, .bool true] else v)
        | some none => (match P.info? et with
          | some i => (match i.zero with
            | some z => some (bif ok then .tuple #[z, .bool false] else z)
            | none => none)
          | none => none)
        | none => none) = some v → (∀ e, (Instr.checkKey e 10000 kt k').run P w = .ok () w) ∧ ((∃ j u u', (Instr.findKey kt k' es'.toList).run P w = .ok (some (j, u')) w ∧ v = (bif ok then .tuple #[u, .bool true] else u) ∧ VR m u u') ∨
          (∃ z, (Instr.findKey kt k' es'.toList).run P w = .ok none w ∧ (zeroValue et).run P w = .ok z w ∧ v = (bif ok then .tuple #[z, .bool false] else z) ∧ VR m z z)) := by
        intro es es' he hr
        refine ⟨akey_ok 20 10000 (by omega) hk hkey, ?_⟩
        split at hr
        · rename_i i v2 hf
          injection hr with hr; subst hr
          obtain ⟨r', g1, g2⟩ := afind_ok h hk he hf (akey_under hkey)
          rcases g2 with ⟨g2, _⟩ | ⟨j, u, u', g2, rfl, g3⟩
          · cases g2
          · injection g2 with g2; injection g2 with _ g2; subst g2
            exact .inl ⟨j, _, _, g1, rfl, g3⟩
        · rename_i hf
          obtain ⟨r', g1, g2⟩ := afind_ok h hk he hf (akey_under hkey)
          rcases g2 with ⟨_, rfl⟩ | ⟨j, u, u', g2, _⟩
          · split at hr
            · rename_i i hi
              split at hr
              · rename_i z hz2
                injection hr with hr; subst hr
                have hf : flat z = true := by unfold zflat at hz; rw [hi] at hz; dsimp only at hz; rw [hz2] at hz; exact hz
                exact .inr ⟨z, g1, by simp [zeroValue, typeInfo, Go.program, Sem.run, hi, hz2], rfl, vr_flat hf⟩
              · cases hr
            · cases hr
          · cases g2
        · cases hr
      cases hx with
      | mnil =>
        obtain ⟨hck, ⟨j, u, u', g1, rfl, g2⟩ | ⟨z, g1, g2, rfl, g3⟩⟩ := tail [] #[] .nil hr
        · exact ⟨_, by simp [hck, g1], vr_ok ok g2 true⟩
        · refine ⟨_, ?_, vr_ok ok g3 false⟩
          dsimp only
          simp only [Sem.run_bind, Sem.run_pure, Result.andThen_ok, hck, g1, g2]
      | map hb =>
        dsimp only at hr
        unfold objAt at hr
        split at hr
        · rename_i hes
          split at hes
          · rename_i es hes2
            split at hes2
            · rename_i o ho
              obtain ⟨c', x', o', h2, h3, h4⟩ := h.dom _ _ ho
              rw [hb] at h2; injection h2 with h2; injection h2 with e1 e2; subst e1; subst e2
              cases h4 with
              | obj hx0 h4 =>
                injection hes2 with hes2; subst hes2
                cases h4 with
                | map he =>
                  injection hes with hes; subst hes
                  have hgo := getObj_map (P := P) h3
                  obtain ⟨hck, ⟨j, u, u', g1, rfl, g2⟩ | ⟨z, g1, g2, rfl, g3⟩⟩ := tail _ _ he hr
                  · refine ⟨_, ?_, vr_ok ok g2 true⟩
                    dsimp only
                    simp only [Sem.run_bind, Sem.run_pure, Result.andThen_ok, hgo, hck, g1]
                  · refine ⟨_, ?_, vr_ok ok g3 false⟩
                    dsimp only
                    simp only [Sem.run_bind, Sem.run_pure, Result.andThen_ok, hgo, hck, g1, g2]
            · cases hes2
          · cases hes
        · cases hr
      | _ => cases hr
  · cases hr
theorem ER.get {l l' : List MapEntry} (h : ER m l l') : ∀ {i : Nat} {e : MapEntry}, l[i]? = some e → ∃ e', l'[i]? = some e' ∧ VR m e.key e'.key ∧ VR m e.val e'.val ∧ e.born = e'.born := by
  induction h with
  | nil => intro i e he; simp at he
  | cons hk hv hb _ ih =>
    intro i e he
    cases i with
    | zero => simp at he; subst he; exact ⟨_, rfl, hk, hv, hb⟩
    | succ i => exact ih (by simpa using he)
theorem ER.append {l l' k k' : List MapEntry} (h : ER m l l') (h' : ER m k k') : ER m (l ++ k) (l' ++ k') := by
  induction h with
  | nil => exact h'
  | cons a b c _ ih => exact .cons a b c ih
theorem ER.set {k k' v v' : Value} (hk : VR m k k') (hv : VR m v v') : ∀ {l l' : List MapEntry} (_ : ER m l l') (i : Nat), ER m (l.modify i fun e => { e with key := k, val := v }) (l'.modify i fun e => { e with key := k', val := v' })
  | [], _, .nil, i => by cases i <;> exact .nil
  | _ :: _, _, .cons a b c t, 0 => by simpa using .cons hk hv c t
  | _ :: _, _, .cons a b c t, i + 1 => by simpa using .cons a b c (ER.set hk hv t i)
theorem same_ok : ∀ (n : Nat) {x x' y y' : Value} (_ : VR m x x') (_ : VR m y y'), Instr.sameBits n x y = true → (∀ xs, y ≠ .agg xs) → Instr.sameBits n x' y' = true := by
  intro n x x' y y' hx hy h hna
  cases hx <;> cases hy <;> first
    | exact h
    | (cases n <;> cases h; done)
    | (rename_i b c xx o hb b2 c2 x2 o2 hb2
       have e : b = b2 ∧ o = o2 := by cases n <;> simpa [Instr.sameBits] using h
       obtain ⟨rfl, rfl⟩ := e
       rw [hb] at hb2; injection hb2 with hb2; injection hb2 with e1 _; subst e1
       cases n <;> simp [Instr.sameBits])
    | exact absurd rfl (hna _)
theorem getObj_ok (h : Ok P m s w) {b c x : Nat} (hb : m b = some (c, x)) {o : Obj} (ho : objAt s b = some o) : ∃ o', w.heap[c]? = some o' ∧ OR m o o' ∧ s.heap.get b = some (.obj o) ∧ x = 0 := by
  unfold objAt at ho
  split at ho
  · rename_i o2 h1
    injection ho with ho; subst ho
    obtain ⟨c', x', o', h2, h3, h4⟩ := h.dom _ _ h1
    rw [hb] at h2; injection h2 with h2; injection h2 with e1 e2; subst e1; subst e2
    cases h4 with
    | obj hx h4 => exact ⟨o', h3, h4, h1, hx⟩
  · cases ho
theorem putObj_ok (h : Ok P m s w) {b c x : Nat} (hb : m b = some (c, x)) {o o' o2 : Obj} (hoo : OR m o o') (h2 : w.heap[c]? = some o2) (hc : ∀ cs e f, o2 ≠ .cells cs e f) (hp : putObj s b o = some s2) :
    ∃ w2, (setObj c o').run P w = .ok () w2 ∧ Post P m s w m s2 w2 := by
  unfold putObj at hp
  split at hp
  · rename_i o1 h1
    cases hq : (Nat.blt b lim && plainObj o) with
    | false => rw [hq] at hp; cases hp
    | true =>
      rw [hq] at hp
      simp only [cond] at hp
      injection hp with hp; subst hp
      simp only [Bool.and_eq_true, Nat.blt_eq] at hq
      obtain ⟨c', x', o3, g2, g3, g4⟩ := h.dom _ _ h1
      rw [hb] at g2; injection g2 with g2; injection g2 with e1 e2; subst e1; subst e2
      cases g4 with
      | obj hx _ =>
        refine ⟨_, ?_, put_ok h hq.1 h1 hb (.obj hx hoo)⟩
        cases o2 <;> first | (exact absurd rfl (hc _ _ _)) | simp [setObj, Sem.run, h2]
  · cases hp
theorem aupd_ok (h : Ok P m s w) {t : TypeId} {x x' k k' v v' : Value} (hx : VR m x x') (hk : VR m k k') (hv : VR m v v') (hna : ∀ xs, k ≠ .agg xs) (hr : aupd P s t x k v = some s2) : ∃ w2, (Instr.mapUpdate t x' k' v').run P w = .ok () w2 ∧ Post P m s w m s2 w2 := by
  unfold aupd at hr
  split at hr
  · rename_i kt et r ht
    split at hr
    · rename_i es clock ho
      cases hkey : akey P 20 kt k with
      | false => rw [hkey] at hr; cases hr
      | true =>
        rw [hkey] at hr
        simp only [cond] at hr
        cases hx with
        | map hb =>
        obtain ⟨o', h1, h2, h3, _⟩ := getObj_ok h hb ho
        cases h2 with
        | map he =>
        have hgo := getObj_map (P := P) h1
        have hck := fun e => akey_ok (P := P) (w := w) 20 10000 (by omega) hk hkey e
        unfold Instr.mapUpdate
        rw [Sem.run_bind, run_under ht, Result.andThen_ok]
        dsimp only
        rw [Sem.run_bind, hgo, Result.andThen_ok]
        dsimp only
        rw [Sem.run_bind, hck, Result.andThen_ok, Sem.run_bind]
        split at hr
        · rename_i i u hf
          obtain ⟨r', g1, g2⟩ := afind_ok h hk he hf (akey_under hkey)
          rcases g2 with ⟨g2, _⟩ | ⟨j, u1, u', g2, rfl, g3⟩
          · cases g2
          · injection g2 with g2; injection g2 with e1 e2; subst e1; subst e2
            rw [g1, Result.andThen_ok]
            cases hs : Instr.sameBits 10000 (((es[i]?).map (·.key)).getD k) k with
            | false => rw [hs] at hr; cases hr
            | true =>
              rw [hs] at hr
              simp only at hr
              have hkk : VR m (((es[i]?).map (·.key)).getD k) (((‹Array MapEntry›[i]?).map (·.key)).getD k') := by
                cases hq : es[i]? with
                | none =>
                  have : (‹Array MapEntry› : Array MapEntry)[i]? = none := by
                    rw [Array.getElem?_eq_none_iff] at hq ⊢
                    have := he.length; simp only [Array.length_toList] at this; omega
                  rw [this]; exact hk
                | some e =>
                  obtain ⟨e', k1, k2, _⟩ := he.get (i := i) (e := e) (by rw [Array.getElem?_toList]; exact hq)
                  rw [Array.getElem?_toList] at k1
                  rw [k1]; exact k2
              have hsb := same_ok 10000 hkk hk hs hna
              dsimp only
              rw [Sem.run_bind]
              unfold Instr.keyThatStays
              rw [hsb, if_pos rfl, Sem.run_pure, Result.andThen_ok]
              exact putObj_ok h hb (.map (by simpa [Array.toList_modify] using ER.set hk hv he i)) h1 (by intro _ _ _ e; cases e) hr
        · rename_i hf
          obtain ⟨r', g1, g2⟩ := afind_ok h hk he hf (akey_under hkey)
          rcases g2 with ⟨_, rfl⟩ | ⟨j, u1, u', g2, _⟩
          · rw [g1, Result.andThen_ok]
            exact putObj_ok h hb (.map (by simpa using he.append (.cons (e := ⟨k, v, clock⟩) (e' := ⟨k', v', clock⟩) hk hv rfl .nil))) h1 (by intro _ _ _ e; cases e) hr
          · cases g2
        · cases hr
    · cases hr
  · cases hr
end
end Go.Proofs.YtgfnakdfhfoplaaGreatDoor.Cx
