/- The run of code on what is known. Generic over the program. -/
import Derived.Test.YtgfnakdfhfoplaaGreatDoorCxM
namespace Go.Proofs.YtgfnakdfhfoplaaGreatDoor.Cx
open Go
structure Fr where
  t : T Value
  n : Nat
  marks : List Nat
inductive Ex where
  | normal
  | exit (id : Nat)
  | ret
inductive Task where
  | code (c : Code) (rd : Option Nat) (a : Fr)
  | call (f : FuncId) (args : Array Value)
  | round (l : Nat) (t : T Value) (n : Nat) (assign body : Code)
inductive Out where
  | exit (e : Ex) (a : Fr)
  | val (v : Value)
abbrev Rec := Task → St → Option (Out × St)
def Fr.put (a : Fr) (d : Option Tmp) (v : Value) : Option Fr := match d with
  | none => some a
  | some d => bif Nat.blt d a.n && Nat.blt d lim then some { t := a.t.set d v, n := a.n, marks := a.marks } else none
def setParams (n : Nat) : List Tmp → List Value → T Value → Option (T Value)
  | [], [], t => some t
  | d :: ds, v :: vs, t => bif Nat.blt d n && Nat.blt d lim then setParams n ds vs (t.set d v) else none
  | _, _, _ => none
def yieldOf (P : Program) (t : T Value) (o : Oper) : Option (Nat × List Value) := match o.op with
  | .call c => (match c.callee with
    | .value f => (match aev P t f with
      | some (.func (.yield l) first caps) => (match aevs P t c.args.toList with
        | some vs => bif first.isEmpty && caps.isEmpty then some (l, vs) else none
        | none => none)
      | _ => none)
    | _ => none)
  | _ => none
def runOp (P : Program) (F : T (Option FI)) (ih : Rec) (o : Oper) (a : Fr) (s : St) : Option (Value × St) := match yieldOf P a.t o with
  | some (l, vs) => (match s.heap.get l with
    | some (.loop _ _ t n ps as bd _) => (match setParams n ps.toList vs t with
      | some t => (match ih (.round l t n as bd) s with
        | some (.val v, s) => some (v, s)
        | _ => none)
      | none => none)
    | _ => none)
  | none => (match aexec P F a.t o s with
    | some (.value v, s) => some (v, s)
    | some (.skip, s) => some (undef, s)
    | some (.enter f args, s) => (match ih (.call f args) s with
      | some (.val v, s) => some (v, s)
      | _ => none)
    | _ => none)
def awant (ops : Array Oper) (a : Fr) (o : Oper) : Option Bool := match o.guard with
  | none => some true
  | some (j, w) => (match ops[j]? with
    | some p => (match p.dst with
      | some d => (match a.t.get d with
        | some (.bool b) => some (b == w)
        | some _ => some false
        | none => none)
      | none => none)
    | none => none)
def runSeq (P : Program) (F : T (Option FI)) (ih : Rec) (ops : Array Oper) : List Oper → Fr → St → Option (Fr × St)
  | [], a, s => some (a, s)
  | o :: l, a, s => match awant ops a o with
    | some true => (match runOp P F ih o a s with
      | some (v, s) => (match a.put o.dst v with
        | some a => runSeq P F ih ops l a s
        | none => none)
      | none => none)
    | some false => (match a.put o.dst undef with
      | some a => runSeq P F ih ops l a s
      | none => none)
    | none => none
/-! ### A region whose order is drawn -/
def T.keys {α : Type} : T α → List Nat
  | .e => []
  | .n l v r => (match v with | some _ => [0] | none => []) ++ (l.keys.map fun k => 2 * k + 1) ++ (r.keys.map fun k => 2 * k + 2)
/-- An operation of a region that has run: what it read, what it left. -/
structure Rc where
  i : Nat
  o : Oper
  ns : List Nat
  mask : Nat
  a : Fr
  view : T AObj
  n0 : Nat
  v : Value
  post : St
def touch (r : Rc) (b : Nat) : Bool := (match r.post.wr.get b with | some _ => true | none => false) || (Nat.ble r.n0 b && Nat.blt b r.post.next)
def addrs1 : Value → List Nat
  | .pointer (some a) => [a.block]
  | .slice (some a) _ _ => [a.block]
  | .map (some r) => [r]
  | _ => []
def addrs : Value → List Nat
  | .agg xs => xs.toList.flatMap addrs1
  | v => addrs1 v
def restr {α : Type} (h : T α) : List Nat → T α
  | [] => .e
  | b :: l => match h.get b with
    | some o => bif Nat.blt b lim then (restr h l).set b o else restr h l
    | none => restr h l
def wide : Op → Bool
  | .call c => (match c.callee with
    | .builtin _ => false
    | _ => true)
  | .lookup .. | .mapUpdate .. | .insert .. => true
  | _ => false
/-- Operations that look at memory. -/
def reads : Op → Bool
  | .load .. | .store .. | .slice .. | .convert .. | .index .. | .call _ => true
  | _ => false
/-- What r has touched is taken out. -/
def delRange (h : T AObj) (k : Nat) : Nat → T AObj
  | 0 => h
  | n + 1 => delRange (h.del (k + n)) k n
def hide (h : T AObj) (r : Rc) : T AObj := delRange ((r.post.wr.keys).foldl (fun h b => h.del b) h) r.n0 (r.post.next - r.n0)
def layRange (h g : T AObj) (k : Nat) : Nat → T AObj
  | 0 => h
  | n + 1 => layRange (h.put 50 (k + n) (g.get (k + n))) g k n
def cover (h : T AObj) (r : Rc) : T AObj := layRange ((r.post.wr.keys).foldl (fun h b => h.put 50 b (r.post.heap.get b)) h) r.post.heap r.n0 (r.post.next - r.n0)
def opTmps : List Operand → List Nat
  | [] => []
  | .tmp t :: l => t :: opTmps l
  | _ :: l => opTmps l
def names (ops : Array Oper) (o : Oper) : List Nat := (match o.guard with
  | none => []
  | some (j, _) => (match ops[j]? with
    | some p => (match p.dst with
      | some d => [d]
      | none => [])
    | none => [])) ++ opTmps o.op.operands.toList
def look (k : Nat) : List Rc → Nat
  | [] => 0
  | r :: l => bif Nat.beq r.i k then r.mask else look k l
def maskOf (done : List Rc) : List Edge → Nat
  | [] => 0
  | e :: l => bif Region.binds .any e then (2 ^ e.on ||| look e.on done) ||| maskOf done l else maskOf done l
/-- Two operations of which neither waits for the other one do not meet: p came up before q. -/
def apart (q p : Rc) : Bool :=
  (q.post.wr.keys.all fun b => !touch p b && (match p.view.get b with | some _ => false | none => true)) &&
  ((p.post.wr.keys.all fun b => !touch q b) &&
  ((match p.o.dst with | some d => !q.ns.elem d && (match q.o.dst with | some e => !Nat.beq e d | none => true) | none => true) &&
  (match q.o.dst with | some d => !p.ns.elem d | none => true)))
def noTouch (ids : List Nat) (un : List Rc) : Bool := ids.all fun b => un.all fun r => !touch r b
def unOf (mask : Nat) (done : List Rc) : List Rc := done.filter fun r => !(mask.testBit r.i)
def checkRc (r : Rc) (done : List Rc) : Bool :=
  Nat.ble r.n0 r.post.next && (Nat.blt r.post.next lim && ((r.post.wr.keys.all fun b => Nat.blt b r.post.next) && ((unOf r.mask done).all (apart r) && (r.o.after.toList.all fun e => !Region.binds .any e || Nat.blt e.on r.i))))
def mkRc (P : Program) (F : T (Option FI)) (ih : Rec) (ops : Array Oper) (o : Oper) (i : Nat) (a : Fr) (h : T AObj) (nx : Nat) (done : List Rc) : Option Rc :=
  let ns := names ops o
  let b : Fr := { t := restr a.t ns, n := a.n, marks := a.marks }
  let mask := maskOf done o.after.toList
  match awant ops b o with
  | some true =>
    let un := unOf mask done
    let ids := bif wide o.op || !reads o.op then [] else (match aevs P b.t o.op.operands.toList with | some vs => vs.flatMap addrs | none => [])
    let view := bif wide o.op then un.foldl hide h else restr h ids
    bif noTouch ids un then
      (match runOp P F ih o b { heap := view, next := nx, wr := .e } with
      | some (v, s) => some ⟨i, o, ns, mask, b, view, nx, v, s⟩
      | none => none)
    else none
  | some false => some ⟨i, o, ns, mask, b, .e, nx, undef, { heap := .e, next := nx, wr := .e }⟩
  | none => none
def runDraw (P : Program) (F : T (Option FI)) (ih : Rec) (ops : Array Oper) : List Oper → Nat → Fr → T AObj → Nat → List Rc → Option (Fr × T AObj × Nat × List Rc)
  | [], _, a, h, nx, done => some (a, h, nx, done)
  | o :: l, i, a, h, nx, done => match mkRc P F ih ops o i a h nx done with
    | some r => bif checkRc r done then
        (match a.put o.dst r.v with
        | some a => runDraw P F ih ops l (i + 1) a (cover h r) r.post.next (r :: done)
        | none => none)
      else none
    | none => none
def joinWr (done : List Rc) (w : T Unit) : T Unit := done.foldl (fun w r => r.post.wr.keys.foldl (fun w b => w.set b ()) w) w
def exArgs (n : Nat) (args : List Value) (k : Nat) : T Value := T.lay (T.ofList args) args.length (List.replicate (n - k) undef)
def isAggD : TypeDesc → Bool
  | .struct _ | .array _ _ => true
  | _ => false
def resOne (P : Program) (a : Fr) (s : St) : ResultVar → Option Value
  | .tmp t => a.t.get t
  | .cell ad ty => (match a.t.get ad, P.underlying ty, P.info? ty with
    | some (.pointer (some ⟨b, o, none⟩)), some d, some i => bif isAggD d then (match rd s b o i.size with
        | some l => some (.agg l.toArray)
        | none => none) else getCell s ⟨b, o, none⟩
    | _, _, _ => none)
def resAll (P : Program) (a : Fr) (s : St) : List ResultVar → Option (List Value)
  | [] => some []
  | r :: l => (match resOne P a s r with
    | some v => (match resAll P a s l with
      | some vs => some (v :: vs)
      | none => none)
    | none => none)
/-- A function is left: the marks are taken off. -/
def shut : List Nat → St → Option St
  | [], s => some s
  | b :: l, s => match objAt s b with
    | some (.deferred (some [])) => (match putObj s b (.deferred none) with
      | some s => shut l s
      | none => none)
    | _ => none
def resVal : List Value → Value
  | [v] => v
  | vs => .tuple vs.toArray
def newPd : Option (Option Code) → Option Code → Option Code
  | some p, _ => p
  | none, p => p
def setLoop (s : St) (l : Nat) (st : LoopState) (pd : Option (Option Code)) : Option St := match s.heap.get l with
  | some (.loop _ p t n ps as bd d) => bif Nat.blt l lim then some { heap := s.heap.set l (.loop st (newPd pd p) t n ps as bd d), next := s.next, wr := s.wr.set l () } else none
  | _ => none
def fresh (s : St) (o : AObj) : Option St := bif Nat.blt s.next lim then some { heap := s.heap.set s.next o, next := s.next + 1, wr := s.wr } else none
def step (P : Program) (F : T (Option FI)) (ih : Rec) : Rec
  | .code c rd a, s => (match c with
    | .skip => some (.exit .normal a, s)
    | .label _ => some (.exit .normal a, s)
    | .ret => some (.exit .ret a, s)
    | .exit id => some (.exit (.exit id) a, s)
    | .seq x y => (match ih (.code x rd a) s with
      | some (.exit .normal a, s) => ih (.code y rd a) s
      | r => r)
    | .cond c x y => (match aev P a.t c with
      | some (.bool true) => ih (.code x rd a) s
      | some (.bool false) => ih (.code y rd a) s
      | _ => none)
    | .block id b => (match ih (.code b rd a) s with
      | some (.exit (.exit i) a, s) => bif Nat.beq i id then some (.exit .normal a, s) else some (.exit (.exit i) a, s)
      | r => r)
    | .loop b => (match ih (.code b rd a) s with
      | some (.exit .normal a, s) => ih (.code (.loop b) rd a) s
      | r => r)
    | .region _ ops false => (match runSeq P F ih ops ops.toList a s with
      | some (a, s) => some (.exit .normal a, s)
      | none => none)
    | .region _ ops true => (match runDraw P F ih ops ops.toList 0 a s.heap s.next [] with
      | some (a, h, nx, done) => some (.exit .normal a, { heap := h, next := nx, wr := joinWr done s.wr })
      | none => none)
    | .rangeFunc g ps as bd => (match aev P a.t g with
      | some (.func (.func f) first caps) => (match (match rd with
        | some l => (match s.heap.get l with
          | some (.loop _ _ _ _ _ _ _ d) => some (d, [], s)
          | _ => none)
        | none => (match fresh s (.obj (.deferred (some []))) with
          | some s2 => some (s.next, [s.next], s2)
          | none => none)) with
        | some (d, mk, s1) => (match fresh s1 (.loop .ready none a.t a.n ps as bd d) with
          | some s2 => (match F.get f with
            | some (some _) => (match ih (.call f (first ++ #[.func (.yield s1.next) #[] #[]] ++ caps)) s2 with
              | some (.val _, s3) => (match s3.heap.get s1.next with
                | some (.loop .busy _ _ _ _ _ _ _) => none
                | some (.loop _ pd _ _ _ _ _ _) => (match setLoop s3 s1.next .exhausted none with
                  | some s4 => (match pd with
                    | none => some (.exit .normal { t := a.t, n := a.n, marks := mk ++ a.marks }, s4)
                    | some .ret => some (.exit .ret { t := a.t, n := a.n, marks := mk ++ a.marks }, s4)
                    | some (.exit id) => some (.exit (.exit id) { t := a.t, n := a.n, marks := mk ++ a.marks }, s4)
                    | _ => none)
                  | none => none)
                | _ => none)
              | _ => none)
            | _ => none)
          | none => none)
        | none => none)
      | _ => none)
    | _ => none)
  | .call f args, s => (match F.get f with
    | some (some fi) => bif Nat.ble args.size fi.ntmps && Nat.blt fi.ntmps lim then (match ih (.code fi.body none { t := exArgs fi.ntmps args.toList args.size, n := fi.ntmps, marks := [] }) s with
      | some (.exit (.exit _) _, _) => none
      | some (.exit _ a, s) => (match shut a.marks s with
        | some s => (match resAll P a s fi.results.toList with
          | some vs => some (.val (resVal vs), s)
          | none => none)
        | none => none)
      | _ => none) else none
    | _ => none)
  | .round l t n as bd, s => (match ih (.code as (some l) { t := t, n := n, marks := [] }) s with
    | some (.exit .normal a, s) => (match s.heap.get l with
      | some (.loop .ready _ _ _ _ _ _ _) => (match setLoop s l .busy none with
        | some s => (match ih (.code bd (some l) a) s with
          | some (.exit .normal _, s) => (match setLoop s l .ready (some none) with
            | some s => some (.val (.bool true), s)
            | none => none)
          | some (.exit .ret _, s) => (match setLoop s l .done (some (some .ret)) with
            | some s => some (.val (.bool false), s)
            | none => none)
          | some (.exit (.exit id) _, s) => (match setLoop s l .done (some (some (.exit id))) with
            | some s => some (.val (.bool false), s)
            | none => none)
          | _ => none)
        | none => none)
      | _ => none)
    | _ => none)
def ev (P : Program) (F : T (Option FI)) : Nat → Rec
  | 0 => fun _ _ => none
  | n + 1 => step P F (ev P F n)
def FT (P : Program) : T (Option FI) := T.ofList (P.funcs.toList.map fiOf)
end Go.Proofs.YtgfnakdfhfoplaaGreatDoor.Cx
