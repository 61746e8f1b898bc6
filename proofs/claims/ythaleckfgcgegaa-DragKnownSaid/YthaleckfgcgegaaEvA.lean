/-
  THE EVALUATOR: abstract values, abstract memory, and a run of the program's text over them. Abstract blocks have names of their own; a slice's capacity may be unknown; an append that may or may not write in place kills the old name.
-/
import GoSem.Step
import Derived.Orders
namespace Go.Ev
noncomputable section

/-- Names of blocks: the ways through a tree. -/
inductive Pos where
  | e
  | o (p : Pos)
  | i (p : Pos)
  deriving Inhabited, DecidableEq

inductive T (α : Type) where
  | nil : T α
  | node (v : Option α) (l r : T α) : T α
  deriving Inhabited

def Pos.succ (p : Pos) : Pos := Pos.rec (motive := fun _ => Pos) (.o .e) (fun p _ => .i p) (fun _ q => .o q) p

def T.get {α : Type} (p : Pos) : T α → Option α :=
  Pos.rec (motive := fun _ => T α → Option α)
    (fun t => T.rec (motive := fun _ => Option α) none (fun v _ _ _ _ => v) t)
    (fun _ ih t => T.rec (motive := fun _ => Option α) none (fun _ l _ _ _ => ih l) t)
    (fun _ ih t => T.rec (motive := fun _ => Option α) none (fun _ _ r _ _ => ih r) t) p

def T.set {α : Type} (a : α) (p : Pos) : T α → T α :=
  Pos.rec (motive := fun _ => T α → T α)
    (fun t => T.rec (motive := fun _ => T α) (.node (some a) .nil .nil) (fun _ l r _ _ => .node (some a) l r) t)
    (fun _ ih t => T.rec (motive := fun _ => T α) (.node none (ih .nil) .nil) (fun v l r _ _ => .node v (ih l) r) t)
    (fun _ ih t => T.rec (motive := fun _ => T α) (.node none .nil (ih .nil)) (fun v l r _ _ => .node v l (ih r)) t) p

def posN (n : Nat) : Pos := match n with
  | 0 => .e
  | n + 1 => (posN n).succ

def lget {α : Type} (l : List α) : Nat → Option α :=
  List.rec (motive := fun _ => Nat → Option α) (fun _ => none) (fun a _ ih k => Nat.rec (motive := fun _ => Option α) (some a) (fun j _ => ih j) k) l

def lset {α : Type} (a : α) (l : List α) : Nat → Option (List α) :=
  List.rec (motive := fun _ => Nat → Option (List α)) (fun _ => none)
    (fun b l ih k => Nat.rec (motive := fun _ => Option (List α)) (some (a :: l)) (fun j _ => Option.rec (motive := fun _ => Option (List α)) none (fun l' => some (b :: l')) (ih j)) k) l

/-- A row of places, in rows of eight. -/
abbrev M (α : Type) := List (List α)

def M.get {α : Type} (m : M α) (k : Nat) : Option α := match lget m (Nat.div k (nat_lit 8)) with
  | some row => lget row (Nat.mod k (nat_lit 8))
  | none => none

def M.set {α : Type} (m : M α) (k : Nat) (a : α) : Option (M α) := match lget m (Nat.div k (nat_lit 8)) with
  | some row => match lset a row (Nat.mod k (nat_lit 8)) with
    | some row => lset row m (Nat.div k (nat_lit 8))
    | none => none
  | none => none

/-- Abstract values. -/
inductive AV where
  | bool (b : Bool)
  | int (k : IntKind) (n : Int)
  | str (s : ByteArray)
  | ptr (id : Pos) (off : Nat)
  | nilp
  | sl (id : Pos) (off len : Nat) (cap : Option Nat) (esz : Nat)
  | nils
  | map (id : Pos)
  | nilm
  | fn (f : FuncId) (first captured : List AV)
  | yld (id : Pos)
  | nilf
  | iface (t : TypeId) (v : AV)
  | nili
  | agg (cs : List AV)
  | tup (vs : List AV)
  deriving Inhabited

def AV.cells (a : AV) : List AV :=
  AV.rec (motive_1 := fun _ => List AV) (motive_2 := fun _ => Unit)
    (fun b => [.bool b])
    (fun k n => [.int k n])
    (fun s => [.str s])
    (fun id off => [.ptr id off])
    ([.nilp])
    (fun id off len cap esz => [.sl id off len cap esz])
    ([.nils])
    (fun id => [.map id])
    ([.nilm])
    (fun f first captured _ _ => [.fn f first captured])
    (fun id => [.yld id])
    ([.nilf])
    (fun t v _ => [.iface t v])
    ([.nili])
    (fun cs _ => cs)
    (fun vs _ => [.tup vs])
    () (fun _ _ _ _ => ()) a

/-- How code ends. -/
inductive J where
  | norm
  | exit (id : Nat)
  | ret

def J.code : J → Option Code
  | .norm => none
  | .exit id => some (.exit id)
  | .ret => some .ret

/-- Abstract objects. -/
inductive AO where
  | cells (c : M AV) (elem : TypeId)
  | ro (c : Nat → Option AV)
  | map (es : List (Value × AV × Nat)) (clock : Nat)
  | loop (state : LoopState) (pend : J) (fn n : Nat) (tm : M AV) (params : Array Tmp) (assign body : Code) (dfr : Pos)
  | dfr
  | taken
  | dead
  deriving Inhabited

/-- Abstract memory: the objects with the times at which they were made, the next name, the time, and the mark: nothing that was made before the time w has been written since the mark was set. -/
structure H where
  objs : T (Nat × AO)
  next : Pos
  clock : Nat
  w : Nat

structure FS where
  fn : Nat
  n : Nat
  tm : M AV
  defs : List Pos
  round : Option Pos

inductive Tgt where
  | fn (g : FuncId) (args : List AV)
  | yld (id : Pos) (args : List AV)

inductive RV where
  | no
  | ok (v : AV) (h : H)
inductive RF where
  | no
  | ok (fs : FS) (h : H)
inductive RJ where
  | no
  | ok (j : J) (fs : FS) (h : H)

structure Evs where
  code : Code → FS → H → RJ
  call : Tgt → H → RV

def RV.of (o : Option AV) (h : H) : RV := Option.rec (motive := fun _ => RV) .no (fun v => .ok v h) o

def RV.done (o : Option H) : RV := match o with
  | some h => .ok (.tup []) h
  | none => .no

def asI64 (a : AV) : Option Int :=
  AV.rec (motive_1 := fun _ => Option Int) (motive_2 := fun _ => Unit)
    (fun _ => none)
    (fun k n => IntKind.rec (motive := fun _ => Int → Option Int) (fun _ => none) (fun _ => none) (fun _ => none) (fun n => some n) (fun _ => none) (fun _ => none) (fun _ => none) (fun _ => none) k n)
    (fun _ => none)
    (fun _ _ => none)
    (none)
    (fun _ _ _ _ _ => none)
    (none)
    (fun _ => none)
    (none)
    (fun _ _ _ _ _ => none)
    (fun _ => none)
    (none)
    (fun _ _ _ => none)
    (none)
    (fun _ _ => none)
    (fun _ _ => none)
    () (fun _ _ _ _ => ()) a
def asB (a : AV) : Option Bool :=
  AV.rec (motive_1 := fun _ => Option Bool) (motive_2 := fun _ => Unit)
    (fun b => some b)
    (fun _ _ => none)
    (fun _ => none)
    (fun _ _ => none)
    (none)
    (fun _ _ _ _ _ => none)
    (none)
    (fun _ => none)
    (none)
    (fun _ _ _ _ _ => none)
    (fun _ => none)
    (none)
    (fun _ _ _ => none)
    (none)
    (fun _ _ => none)
    (fun _ _ => none)
    () (fun _ _ _ _ => ()) a
def asPtr (a : AV) : Option (Pos × Nat) :=
  AV.rec (motive_1 := fun _ => Option (Pos × Nat)) (motive_2 := fun _ => Unit)
    (fun _ => none)
    (fun _ _ => none)
    (fun _ => none)
    (fun id off => some (id, off))
    (none)
    (fun _ _ _ _ _ => none)
    (none)
    (fun _ => none)
    (none)
    (fun _ _ _ _ _ => none)
    (fun _ => none)
    (none)
    (fun _ _ _ => none)
    (none)
    (fun _ _ => none)
    (fun _ _ => none)
    () (fun _ _ _ _ => ()) a
def asSl (a : AV) : Option (Pos × Nat × Nat) :=
  AV.rec (motive_1 := fun _ => Option (Pos × Nat × Nat)) (motive_2 := fun _ => Unit)
    (fun _ => none)
    (fun _ _ => none)
    (fun _ => none)
    (fun _ _ => none)
    (none)
    (fun id off len _ _ => some (id, off, len))
    (none)
    (fun _ => none)
    (none)
    (fun _ _ _ _ _ => none)
    (fun _ => none)
    (none)
    (fun _ _ _ => none)
    (none)
    (fun _ _ => none)
    (fun _ _ => none)
    () (fun _ _ _ _ => ()) a
def asTup (a : AV) : Option (List AV) :=
  AV.rec (motive_1 := fun _ => Option (List AV)) (motive_2 := fun _ => Unit)
    (fun _ => none)
    (fun _ _ => none)
    (fun _ => none)
    (fun _ _ => none)
    (none)
    (fun _ _ _ _ _ => none)
    (none)
    (fun _ => none)
    (none)
    (fun _ _ _ _ _ => none)
    (fun _ => none)
    (none)
    (fun _ _ _ => none)
    (none)
    (fun _ _ => none)
    (fun vs _ => some vs)
    () (fun _ _ _ _ => ()) a
def cellsOf (o : AO) : Option (Nat → Option AV) :=
  AO.rec (motive := fun _ => Option (Nat → Option AV)) (fun m _ => some m.get) (fun m => some m) (fun _ _ => none) (fun _ _ _ _ _ _ _ _ _ => none) none none none o
def cellsE (o : AO) : Option (M AV × TypeId) :=
  AO.rec (motive := fun _ => Option (M AV × TypeId)) (fun m e => some (m, e)) (fun _ => none) (fun _ _ => none) (fun _ _ _ _ _ _ _ _ _ => none) none none none o

/-- Values without an address. -/
def abs1 : Value → Option AV
  | .bool b => some (.bool b)
  | .int k n => some (.int k n)
  | .string s => some (.str s)
  | .pointer none => some .nilp
  | .slice none 0 0 => some .nils
  | .map none => some .nilm
  | .nilFunc => some .nilf
  | .nilIface => some .nili
  | .func (.func f) first captured => match first.toList, captured.toList with
    | [], [] => some (.fn f [] [])
    | _, _ => none
  | _ => none

def absL : List Value → Option (List AV)
  | [] => some []
  | v :: vs => match abs1 v with
    | some a => match absL vs with
      | some as => some (a :: as)
      | none => none
    | none => none

def abs0 : Value → Option AV
  | .agg cs => match absL cs.toList with
    | some l => some (.agg l)
    | none => none
  | .tuple cs => match absL cs.toList with
    | some l => some (.tup l)
    | none => none
  | v => abs1 v

def conc1 : AV → Option Value
  | .bool b => some (.bool b)
  | .int k n => some (.int k n)
  | .str s => some (.string s)
  | .nilp => some (.pointer none)
  | .nils => some (.slice none 0 0)
  | .nilm => some (.map none)
  | .nilf => some .nilFunc
  | .nili => some .nilIface
  | _ => none

def concL : List AV → Option (List Value)
  | [] => some []
  | v :: vs => match conc1 v with
    | some a => match concL vs with
      | some as => some (a :: as)
      | none => none
    | none => none

def conc0 : AV → Option Value
  | .agg cs => match concL cs with
    | some l => some (.agg l.toArray)
    | none => none
  | v => conc1 v

def evT (tm : M AV) (x : Operand) : Option AV :=
  Operand.rec (motive := fun _ => M AV → Option AV) (fun t tm => tm.get t) (fun v _ => abs0 v) (fun g _ => bif Nat.ble g 63 then some (.ptr (posN g) 0) else none) (fun f _ => some (.fn f [] [])) x tm

def evL (tm : M AV) : List Operand → Option (List AV)
  | [] => some []
  | x :: xs => match evT tm x with
    | some a => match evL tm xs with
      | some as => some (a :: as)
      | none => none
    | none => none

def pureRun {α : Type} (P : Program) : Sem α → Option α
  | .pure a => some a
  | .program k => pureRun P (k P)
  | _ => none

/-- Numbers are made numerals at once. -/
def forceNat {β : Type} (n : Nat) (f : Nat → β) : β :=
  Nat.rec (motive := fun _ => β) (f 0) (fun m _ => f (Nat.succ m)) n

def forceInt {β : Type} (n : Int) (f : Int → β) : β :=
  Int.rec (motive := fun _ => β) (fun m => forceNat m fun m => f (.ofNat m)) (fun m => forceNat m fun m => f (.negSucc m)) n

def force0 : AV → Option AV
  | .int k n => forceInt n fun n => some (.int k n)
  | v => some v

def newObj (o : AO) (h : H) : Option (Pos × H) :=
  H.rec (motive := fun _ => AO → Option (Pos × H)) (fun objs next clock w o =>
    Option.rec (motive := fun _ => Option (Pos × H)) (some (next, ⟨objs.set (clock, o) next, next.succ, Nat.succ clock, w⟩)) (fun _ => none) (objs.get next)) h o

def setObj (id : Pos) (o : AO) (h : H) : Option H :=
  H.rec (motive := fun _ => Pos → AO → Option H) (fun objs next clock w id o =>
    Option.rec (motive := fun _ => Option H) none (fun bo => Prod.rec (motive := fun _ => Option H) (fun born _ => some ⟨objs.set (born, o) id, next, clock, bif Nat.ble born w then born else w⟩) bo) (objs.get id)) h id o

def getObj (id : Pos) (h : H) : Option AO :=
  Option.rec (motive := fun _ => Option AO) none (fun bo => some bo.2) (h.objs.get id)

/-- One cell's value. -/
def oneB (a : AV) : Bool :=
  AV.rec (motive_1 := fun _ => Bool) (motive_2 := fun _ => Unit) (fun _ => true) (fun _ _ => true) (fun _ => true) (fun _ _ => true) (true) (fun _ _ _ _ _ => true) (true) (fun _ => true) (true) (fun _ _ _ _ _ => true) (fun _ => true) (true) (fun _ _ _ => true) (true) (fun _ _ => false) (fun _ _ => false) () (fun _ _ _ _ => ()) a

def allOne : List AV → Bool
  | [] => true
  | v :: vs => bif oneB v then allOne vs else false

def fillM : M AV → Nat → List AV → Option (M AV)
  | m, _, [] => some m
  | m, i, v :: vs => match m.set i v with
    | some m' => fillM m' (Nat.succ i) vs
    | none => none

def rowsOf (cs : List AV) : M AV :=
  List.rec (motive := fun _ => Nat → List AV → M AV) (fun _ row => [row.reverse]) (fun v _ ih k row => Nat.rec (motive := fun _ => M AV) (row.reverse :: ih 7 [v]) (fun j _ => ih j (v :: row)) k) cs 8 []

def mkCells (cs : List AV) : M AV := match cs with
  | [v] => [[v]]
  | cs => rowsOf cs

def newCells (elem : TypeId) (cs : List AV) (h : H) : Option (Pos × H) := newObj (.cells (mkCells cs) elem) h

def newPtr (elem : TypeId) (cs : List AV) (h : H) : RV :=
  match newCells elem cs h with
  | some (id, h) => .ok (.ptr id 0) h
  | none => .no

def readM (m : Nat → Option AV) : Nat → Nat → Option (List AV)
  | 0, _ => some []
  | n + 1, i => match m i with
    | some v => match readM m n (Nat.succ i) with
      | some vs => some (v :: vs)
      | none => none
    | none => none

def readCells (h : H) (id : Pos) (off n : Nat) : Option (List AV) :=
  match getObj id h with
  | some o => match cellsOf o with
    | some m => readM m n off
    | none => none
  | none => none

def writeCells (id : Pos) (off : Nat) (vs : List AV) (h : H) : Option H :=
  match getObj id h with
  | some o => match cellsE o with
    | some (m, e) => bif allOne vs then
        match fillM m off vs with
        | some m' => setObj id (.cells m' e) h
        | none => none
      else none
    | none => none
  | none => none

def isAggB (P : Program) (t : TypeId) : Option Bool :=
  match P.underlying t with
  | some (.struct _) => some true
  | some (.array _ _) => some true
  | some _ => some false
  | none => none

def sizeE (P : Program) (t : TypeId) : Option Nat :=
  match P.info? t with
  | some i => forceNat i.size fun n => some n
  | none => none

def zeroE (P : Program) (t : TypeId) : Option AV :=
  match P.info? t with
  | some i => match i.zero with
    | some v => abs0 v
    | none => none
  | none => none

def partE (P : Program) (t : TypeId) (cs : List AV) (off : Nat) : Option AV :=
  match isAggB P t with
  | some true => match sizeE P t with
    | some n => some (.agg ((cs.drop off).take n))
    | none => none
  | some false => cs[off]?
  | none => none

def toNatE (a : AV) : Option Nat :=
  AV.rec (motive_1 := fun _ => Option Nat) (motive_2 := fun _ => Unit)
    (fun _ => none)
    (fun _ n => Int.rec (motive := fun _ => Option Nat) (fun n => some n) (fun _ => none) n)
    (fun _ => none)
    (fun _ _ => none)
    (none)
    (fun _ _ _ _ _ => none)
    (none)
    (fun _ => none)
    (none)
    (fun _ _ _ _ _ => none)
    (fun _ => none)
    (none)
    (fun _ _ _ => none)
    (none)
    (fun _ _ => none)
    (fun _ _ => none)
    () (fun _ _ _ _ => ()) a

def load1 (id : Pos) (off : Nat) (h : H) : Option AV :=
  match getObj id h with
  | some o => match cellsOf o with
    | some m => m off
    | none => none
  | none => none

def loadAgg (id : Pos) (off : Nat) (n : Option Nat) (h : H) : Option AV :=
  match n with
  | some n => match readCells h id off n with
    | some cs => some (.agg cs)
    | none => none
  | none => none

def loadE (P : Program) (t : TypeId) (a : AV) (h : H) : Option AV :=
  match asPtr a with
  | some (id, off) => match isAggB P t with
    | some b => bif b then loadAgg id off (sizeE P t) h else load1 id off h
    | none => none
  | none => none

def store1 (id : Pos) (off : Nat) (v : AV) (h : H) : Option H :=
  match getObj id h with
  | some o => match cellsE o with
    | some (m, e) => bif oneB v then
        match m.set off v with
        | some m' => setObj id (.cells m' e) h
        | none => none
      else none
    | none => none
  | none => none

def storeAll (id : Pos) (off : Nat) (cs : List AV) (h : H) : Option H :=
  match cs with
  | [v] => store1 id off v h
  | cs => writeCells id off cs h

def storeCs (id : Pos) (off : Nat) (n : Option Nat) (cs : List AV) (h : H) : Option H :=
  match n with
  | some n => bif Nat.beq cs.length n then storeAll id off cs h else none
  | none => none

def storeE (P : Program) (t : TypeId) (a v : AV) (h : H) : Option H :=
  match asPtr a with
  | some (id, off) => storeCs id off (sizeE P t) v.cells h
  | none => none

/-- Parts laid over cells. -/
def layOver (cells : List AV) (off : Nat) (vs : List AV) : List AV :=
  cells.take off ++ vs ++ cells.drop (off + vs.length)

def fillE (place : Nat → Option (Nat × Nat)) (cells : List AV) : List (Nat × AV) → Option (List AV)
  | [] => some cells
  | (i, v) :: rest => match place i with
    | some (off, size) =>
      bif Nat.beq v.cells.length size && Nat.ble (off + v.cells.length) cells.length then fillE place (layOver cells off v.cells) rest else none
    | none => none

def evParts (tm : M AV) : List (Nat × Operand) → Option (List (Nat × AV))
  | [] => some []
  | (i, x) :: xs => match evT tm x with
    | some a => match evParts tm xs with
      | some as => some ((i, a) :: as)
      | none => none
    | none => none

def placesE (P : Program) : List Field → Option (List (Nat × Nat))
  | [] => some []
  | f :: fsd => match sizeE P f.type with
    | some n => match placesE P fsd with
      | some r => some ((f.offset, n) :: r)
      | none => none
    | none => none

def buildE (P : Program) (t : TypeId) (parts : List (Nat × AV)) : Option AV :=
  match zeroE P t with
  | some z => match P.underlying t with
    | some (.struct fields) => match placesE P fields.toList with
      | some ps => match fillE (fun i => ps[i]?) z.cells parts with
        | some cs => some (.agg cs)
        | none => none
      | none => none
    | some (.array _ elem) => match sizeE P elem with
      | some n => match fillE (fun i => some (i * n, n)) z.cells parts with
        | some cs => some (.agg cs)
        | none => none
      | none => none
    | _ => none
  | none => none

def zerosE (z : List AV) : Nat → List AV
  | 0 => []
  | n + 1 => z ++ zerosE z n

def newSlice (elem : TypeId) (cs : List AV) (len cap n : Nat) (h : H) : RV :=
  match newCells elem cs h with
  | some (id, h) => .ok (.sl id 0 len (some cap) n) h
  | none => .no

def buildSliceE (P : Program) (t : TypeId) (len : Nat) (parts : List (Nat × AV)) (h : H) : RV :=
  match P.underlying t with
  | some (.slice elem) => match sizeE P elem, zeroE P elem with
    | some n, some z => bif Nat.ble (len * n) 16777216 && Nat.beq z.cells.length n then
        match fillE (fun i => some (i * n, n)) (zerosE z.cells len) parts with
        | some cs => newSlice elem cs len len n h
        | none => .no
      else .no
    | _, _ => .no
  | _ => .no

def makeSliceE (P : Program) (t : TypeId) (len cap : AV) (h : H) : RV :=
  match P.underlying t with
  | some (.slice elem) => match P.info? elem, zeroE P elem with
    | some i, some z => match toNatE len, toNatE cap with
      | some l, some c => bif Nat.ble l c && Nat.ble c 1048576 && Nat.ble (i.bytes * c) 281474976710656 && Nat.beq z.cells.length i.size then
          newSlice elem (zerosE z.cells c) l c i.size h
        else .no
      | _, _ => .no
    | _, _ => .no
  | _ => .no

def optNat (tm : M AV) : Option Operand → Option (Option Nat)
  | none => some none
  | some x => match evT tm x with
    | some v => match toNatE v with
      | some n => some (some n)
      | none => none
    | none => none

/-- An empty slice of unknown top may lie anywhere. -/
def okTop (cap : Option Nat) (len : Nat) : Bool := match cap with
  | some _ => true
  | none => match len with
    | 0 => false
    | _ + 1 => true

/-- Low, high and the new top (none: unknown). -/
def boundsE (len : Nat) (cap : Option Nat) (lo hi mx : Option Nat) : Option (Nat × Nat × Option Nat) :=
  match mx with
  | some m => match hi with
    | some h => bif Nat.ble m (cap.getD len) && Nat.ble h m && Nat.ble (lo.getD 0) h && okTop cap len then some (lo.getD 0, h, some m) else none
    | none => none
  | none => bif Nat.ble (hi.getD len) (cap.getD len) && Nat.ble (lo.getD 0) (hi.getD len) then some (lo.getD 0, hi.getD len, cap) else none

def sliceOf (id : Pos) (off esz : Nat) : Option (Nat × Nat × Option Nat) → Option AV
  | some (l, h, some m) => some (.sl id (bif Nat.beq m l then off else off + l * esz) (h - l) (some (m - l)) esz)
  | some (0, h, none) => some (.sl id off h none esz)
  | some (l + 1, h, none) => bif Nat.beq (off + (l + 1) * esz) 0 then none else some (.sl id (off + (l + 1) * esz) (h - (l + 1)) none esz)
  | none => none

def sliceE (P : Program) (t : TypeId) (x : AV) (lo hi mx : Option Nat) : Option AV :=
  match P.underlying t, x with
  | some .string, .str s => match mx with
    | none => match hi.getD s.size, lo.getD 0 with
      | h, l => bif Nat.ble h s.size && Nat.ble l h then some (.str (s.extract l h)) else none
    | some _ => none
  | some (.slice elem), .sl id off len cap esz => match sizeE P elem with
    | some n => bif Nat.beq n esz then sliceOf id off n (boundsE len cap lo hi mx) else none
    | none => none
  | some (.slice elem), .nils => match sizeE P elem, boundsE 0 (some 0) lo hi mx with
    | some _, some _ => some .nils
    | _, _ => none
  | some (.array n elem), .ptr id off => match sizeE P elem with
    | some size => sliceOf id off size (boundsE n (some n) lo hi mx)
    | none => none
  | some (.pointer arr), .ptr id off => match P.underlying arr with
    | some (.array n elem) => match sizeE P elem with
      | some size => sliceOf id off size (boundsE n (some n) lo hi mx)
      | none => none
    | _ => none
  | _, _ => none

/-- A slice whose top is known is one of elements of any size. -/
def resz (n : Nat) (a : AV) : AV := match a with
  | .sl id off len (some c) _ => .sl id off len (some c) n
  | a => a

def reszT (P : Program) (t : TypeId) (a : AV) : AV := match P.underlying t with
  | some (.slice elem) => match sizeE P elem with
    | some n => resz n a
    | none => a
  | _ => a

/-- The offset of a field that has cells. -/
def fieldOff (P : Program) (s : TypeId) (f : Nat) : Option Nat :=
  match P.underlying s with
  | some (.struct fields) => match fields[f]? with
    | some fd => match sizeE P fd.type with
      | some (_ + 1) => forceNat fd.offset fun n => some n
      | _ => none
    | none => none
  | _ => none

def addOff (id : Pos) (off : Nat) : Option Nat → Option AV
  | some k => forceNat (Nat.add off k) fun o => some (.ptr id o)
  | none => none

def fieldAddrE (P : Program) (s : TypeId) (x : AV) (f : Nat) : Option AV :=
  match asPtr x with
  | some (id, off) => addOff id off (fieldOff P s f)
  | none => none

def elemAddr (id : Pos) (off i len : Nat) : Option Nat → Option AV
  | some n => bif Nat.ble (Nat.succ i) len then forceNat (Nat.add off (Nat.mul i n)) fun o => some (.ptr id o) else none
  | none => none

/-- What is indexed: an array of so many elements (some), or a slice; and an element's cells. -/
def idxKind (P : Program) (t : TypeId) : Option (Option Nat × Nat) :=
  match P.underlying t with
  | some (.array len elem) => match sizeE P elem with
    | some n => some (some len, n)
    | none => none
  | some (.slice elem) => match sizeE P elem with
    | some n => some (none, n)
    | none => none
  | _ => none

def indexAt (k : Option Nat) (n : Nat) (x : AV) (i : Nat) : Option AV :=
  match k with
  | some len => match asPtr x with
    | some (id, off) => elemAddr id off i len (some n)
    | none => none
  | none => match asSl x with
    | some (id, off, len) => elemAddr id off i len (some n)
    | none => none

def indexAddrE (P : Program) (t : TypeId) (x i : AV) : Option AV :=
  match toNatE i with
  | some i => match idxKind P t with
    | some (k, n) => indexAt k n x i
    | none => none
  | none => none

def fieldE (P : Program) (t : TypeId) (x : AV) (f : Nat) : Option AV :=
  match P.underlying t, x with
  | some (.struct fields), .agg cs => match fields[f]? with
    | some fd => partE P fd.type cs fd.offset
    | none => none
  | _, _ => none

def indexE (P : Program) (t : TypeId) (x i : AV) : Option AV :=
  match toNatE i with
  | some i => match P.underlying t, x with
    | some (.array len elem), .agg cs => match sizeE P elem with
      | some n => bif Nat.ble (Nat.succ i) len then partE P elem cs (i * n) else none
      | none => none
    | some .string, .str s => match s[i]? with
      | some b => some (.int .u8 b.toNat)
      | none => none
    | _, _ => none
  | none => none

def asEntries : List (Value × AV × Nat) → List MapEntry
  | [] => []
  | (k, _, b) :: es => { key := k, val := .tuple #[], born := b } :: asEntries es

/-- The place of a key: 'some none' where it is not there. -/
def findE (P : Program) (empty : Bool) (kt : TypeId) (k : Value) (es : List (Value × AV × Nat)) : Option (Option Nat) :=
  match pureRun P (Instr.checkKey empty 10000 kt k) with
  | some _ => match pureRun P (Instr.findKey kt k (asEntries es)) with
    | some (some (i, _)) => some (some i)
    | some none => some none
    | none => none
  | none => none

def mapVal (ok : Bool) (v : AV) (b : Bool) : AV := bif ok then .tup [v, .bool b] else v

def lookupIn (P : Program) (kt et : TypeId) (k : Value) (ok : Bool) (es : List (Value × AV × Nat)) : Option AV :=
  match findE P es.isEmpty kt k es with
  | some (some i) => match es[i]? with
    | some (_, v, _) => some (mapVal ok v true)
    | none => none
  | some none => match zeroE P et with
    | some z => some (mapVal ok z false)
    | none => none
  | none => none

def lookupE (P : Program) (t : TypeId) (x k : AV) (ok : Bool) (h : H) : Option AV :=
  match P.underlying t, conc0 k with
  | some (.map kt et), some kv => match x with
    | .nilm => lookupIn P kt et kv ok []
    | .map id => match getObj id h with
      | some (.map es _) => lookupIn P kt et kv ok es
      | _ => none
    | _ => none
  | _, _ => none

def setAt (es : List (Value × AV × Nat)) (i : Nat) (k : Value) (v : AV) : List (Value × AV × Nat) :=
  match es, i with
  | [], _ => []
  | (_, _, b) :: es, 0 => (k, v, b) :: es
  | e :: es, i + 1 => e :: setAt es i k v

def updateIn (P : Program) (kt : TypeId) (k : Value) (v : AV) (es : List (Value × AV × Nat)) (clock : Nat) : Option AO :=
  match findE P false kt k es with
  | some (some i) => match es[i]? with
    | some (old, _, _) => bif Instr.sameBits 10000 old k then some (.map (setAt es i k v) clock) else none
    | none => none
  | some none => some (.map (es ++ [(k, v, clock)]) (Nat.succ clock))
  | none => none

def updateE (P : Program) (t : TypeId) (m k v : AV) (h : H) : Option H :=
  match P.underlying t, m, conc0 k with
  | some (.map kt _), .map id, some kv => match getObj id h with
    | some (.map es clock) => match updateIn P kt kv v es clock with
      | some o => setObj id o h
      | none => none
    | _ => none
  | _, _, _ => none

def pureVal (P : Program) (s : Sem Value) : Option AV :=
  match pureRun P s with
  | some v => match abs0 v with
    | some a => force0 a
    | none => none
  | none => none

/-- A value held against nil. -/
def nilEqE (P : Program) (t : TypeId) (a b : AV) : Option Bool :=
  match P.underlying t, a, b with
  | some (.slice _), .sl _ _ _ _ _, .nils => some false
  | some (.slice _), .nils, .sl _ _ _ _ _ => some false
  | some (.map _ _), .map _, .nilm => some false
  | some (.map _ _), .nilm, .map _ => some false
  | some (.func _ _ _), .fn _ _ _, .nilf => some false
  | some (.func _ _ _), .nilf, .fn _ _ _ => some false
  | some (.pointer _), .ptr _ _, .nilp => some false
  | some (.pointer _), .nilp, .ptr _ _ => some false
  | _, _, _ => none

/-- 64 bits: a number in range is as it is. -/
def wrap64E (n : Int) : Int :=
  Int.rec (motive := fun _ => Int) (fun m => bif Nat.ble m 9223372036854775807 then .ofNat m else IntKind.i64.wrap (.ofNat m)) (fun m => bif Nat.ble m 9223372036854775807 then .negSucc m else IntKind.i64.wrap (.negSucc m)) n

def leInt (a b : Int) : Bool :=
  Int.rec (motive := fun _ => Int → Bool) (fun a b => Int.rec (motive := fun _ => Bool) (fun b => Nat.ble a b) (fun _ => false) b) (fun a b => Int.rec (motive := fun _ => Bool) (fun _ => true) (fun b => Nat.ble b a) b) a b

def eqInt (a b : Int) : Bool :=
  Int.rec (motive := fun _ => Int → Bool) (fun a b => Int.rec (motive := fun _ => Bool) (fun b => Nat.beq a b) (fun _ => false) b) (fun a b => Int.rec (motive := fun _ => Bool) (fun _ => false) (fun b => Nat.beq a b) b) a b

def int64E (n : Int) : Option AV := forceInt (wrap64E n) fun n => some (.int .i64 n)

/-- Two numbers of 64 bits. -/
def bin64E (op : BinOp) (a b : Int) : Option AV :=
  BinOp.rec (motive := fun _ => Int → Int → Option AV) (fun a b => int64E (Int.add a b)) (fun a b => int64E (Int.sub a b)) (fun a b => int64E (Int.mul a b)) (fun _ _ => none) (fun _ _ => none) (fun _ _ => none) (fun _ _ => none) (fun _ _ => none) (fun _ _ => none) (fun _ _ => none) (fun _ _ => none) (fun a b => some (.bool (eqInt a b))) (fun a b => some (.bool (!eqInt a b))) (fun a b => some (.bool (!leInt b a))) (fun a b => some (.bool (leInt a b))) (fun a b => some (.bool (!leInt a b))) (fun a b => some (.bool (leInt b a))) op a b

def nilCmp (op : BinOp) (o : Option Bool) : Option AV := match o with
  | some r => match op with
    | .eql => some (.bool r)
    | .neq => some (.bool !r)
    | _ => none
  | none => none

def binSlow (P : Program) (op : BinOp) (t : TypeId) (x y : Operand) (a b : AV) : Option AV :=
  match conc0 a, conc0 b with
  | some u, some v => pureVal P (do eqGuard op t x y u v; binOp op t u v)
  | _, _ => nilCmp op (nilEqE P t a b)

def orElse (o : Option AV) (f : Unit → Option AV) : Option AV := match o with
  | some v => some v
  | none => f ()

def bin2 (op : BinOp) (a b : Option Int) : Option AV := match a with
  | some m => match b with
    | some n => bin64E op m n
    | none => none
  | none => none

def binE (P : Program) (op : BinOp) (t : TypeId) (x y : Operand) (a b : AV) : Option AV :=
  orElse (bin2 op (asI64 a) (asI64 b)) fun _ => binSlow P op t x y a b

def lenE (P : Program) (t : TypeId) (x : AV) (h : H) : Option AV :=
  match P.underlying t, x with
  | some .string, .str s => some (.int .i64 (.ofNat s.size))
  | some (.array n _), _ => some (.int .i64 (.ofNat n))
  | some (.pointer arr), _ => match P.underlying arr with
    | some (.array n _) => some (.int .i64 (.ofNat n))
    | _ => none
  | some (.slice _), .sl _ _ len _ _ => some (.int .i64 (.ofNat len))
  | some (.slice _), .nils => some (.int .i64 (.ofNat 0))
  | some (.map _ _), .nilm => some (.int .i64 (.ofNat 0))
  | some (.map _ _), .map id => match getObj id h with
    | some (.map es _) => some (.int .i64 (.ofNat es.length))
    | _ => none
  | _, _ => none

/-- What is appended, and its cells. -/
def srcCells (h : H) (size : Nat) : AV → Option (Nat × List AV)
  | .sl id off len _ esz => bif Nat.beq esz size then
      match readCells h id off (len * size) with
      | some cs => some (len, cs)
      | none => none
    else none
  | .nils => some (0, [])
  | .str s => bif Nat.beq size 1 then some (s.size, s.data.toList.map fun b => .int .u8 b.toNat) else none
  | _ => none

def growE (P : Program) (elem : TypeId) (need size : Nat) (cs : List AV) (h : H) : RV :=
  match P.info? elem, zeroE P elem with
  | some i, some z => bif Nat.ble ((2 * need + 1000) * i.bytes) 281474976710656 && Nat.ble need 1073741824 && Nat.beq z.cells.length size && Nat.beq cs.length (need * size) then
      match newCells elem cs h with
      | some (id, h) => .ok (.sl id 0 need none size) h
      | none => .no
    else .no
  | _, _ => .no

def appendSome (P : Program) (elem : TypeId) (size : Nat) (n : Nat) (new : List AV) (s : AV) (h : H) : RV :=
  match s with
  | .nils => growE P elem n size new h
  | .sl id off len (some c) esz => bif Nat.beq esz size then
      bif Nat.ble (Nat.add len n) c then
        match writeCells id (off + len * size) new h with
        | some h => forceNat (Nat.add len n) fun l => .ok (.sl id off l (some c) size) h
        | none => .no
      else match readCells h id off (len * size) with
        | some old => forceNat (Nat.add len n) fun l => growE P elem l size (old ++ new) h
        | none => .no
    else .no
  | .sl id off len none esz => bif Nat.beq esz size && Nat.beq off 0 then
      match getObj id h with
      | some (.cells m e) => bif Nat.beq e elem && allOne new && Nat.beq new.length (n * size) then
          match readM m.get (len * size) 0 with
          | some old => match setObj id .dead h with
            | some h => forceNat (Nat.add len n) fun l => growE P elem l size (old ++ new) h
            | none => .no
          | none => .no
        else .no
      | _ => .no
    else .no
  | _ => .no

def isSlice : AV → Bool
  | .sl _ _ _ _ _ => true
  | .nils => true
  | _ => false

def appendE (P : Program) (t : TypeId) (s x : AV) (h : H) : RV :=
  match P.underlying t with
  | some (.slice elem) => match sizeE P elem with
    | some size => match srcCells h size x with
      | some (n, new) => bif Nat.beq n 0 then (bif isSlice s then .ok s h else .no) else appendSome P elem size n new s h
      | none => .no
    | none => .no
  | _ => .no

def copyE (P : Program) (t : TypeId) (d x : AV) (h : H) : RV :=
  match P.underlying t with
  | some (.slice elem) => match sizeE P elem with
    | some size => match d, srcCells h size x with
      | .nils, some _ => .ok (.int .i64 (.ofNat 0)) h
      | .sl id off len _ _, some (n, cs) => forceNat (bif Nat.ble n len then n else len) fun m =>
        bif Nat.beq m 0 then .ok (.int .i64 (.ofNat 0)) h else
        match writeCells id off (cs.take (m * size)) h with
        | some h => .ok (.int .i64 (.ofNat m)) h
        | none => .no
      | _, _ => .no
    | none => .no
  | _ => .no

def clearE (P : Program) (t : TypeId) (x : AV) (h : H) : RV :=
  match P.underlying t, x with
  | some (.map _ _), .nilm => .ok (.tup []) h
  | some (.slice _), .nils => .ok (.tup []) h
  | some (.map _ _), .map id => match getObj id h with
    | some (.map _ clock) => .done (setObj id (.map [] clock) h)
    | _ => .no
  | some (.slice elem), .sl id off len _ _ => match zeroE P elem with
    | some z => .done (writeCells id off (zerosE z.cells len) h)
    | none => .no
  | _, _ => .no

def notInt (P : Program) (u : TypeId) : Bool := match P.underlying u with
  | some (.int _) => false
  | some _ => true
  | none => false

def builtinE (P : Program) (b : Builtin) (ats : List TypeId) (ty : TypeId) (args : List AV) (h : H) : RV :=
  match b, ats, args with
  | .len, [t], [x] => .of (lenE P t x h) h
  | .append, [t, u], [s, x] => bif notInt P u then appendE P t (reszT P t s) (reszT P t x) h else .no
  | .copy, [t, _], [d, x] => copyE P t d (reszT P t x) h
  | .clear, [t], [x] => clearE P t x h
  | .min, ats, args => match concL args with
    | some vs => .of (pureVal P (Builtin.min_ ats.toArray ty vs.toArray)) h
    | none => .no
  | .max, ats, args => match concL args with
    | some vs => .of (pureVal P (Builtin.max_ ats.toArray ty vs.toArray)) h
    | none => .no
  | _, _, _ => .no

def plainB (P : Program) (g : FuncId) : Bool :=
  match P.funcs[g]? with
  | some fn => fn.body.isSome && !(fn.name == "runtime.NumGoroutine")
  | none => false

def callV (P : Program) (ih : Evs) (f : AV) (args : List AV) (h : H) : RV :=
  match f with
  | .fn g first cap => bif plainB P g then ih.call (.fn g (first ++ (args ++ cap))) h else .no
  | .yld id => ih.call (.yld id args) h
  | _ => .no

def callE (P : Program) (ih : Evs) (tm : M AV) (ty : TypeId) (c : Call) (h : H) : RV :=
  match evL tm c.args.toList with
  | some args => match c.callee with
    | .builtin b => builtinE P b c.argTypes.toList ty args h
    | .value f => match evT tm f with
      | some f => callV P ih f args h
      | none => .no
    | .invoke _ _ => .no
  | none => .no

def on1 (o : Option AV) (f : AV → RV) : RV := Option.rec (motive := fun _ => RV) .no f o

def pickE (tm : M AV) (c a b : Operand) : Option AV := match evT tm c with
  | some v => match asB v with
    | some t => evT tm (bif t then a else b)
    | none => none
  | none => none

def allocE (P : Program) (e : TypeId) (h : H) : RV := match zeroE P e with
  | some z => newPtr e z.cells h
  | none => .no

def unE (P : Program) (op : UnOp) (a : AV) : Option AV := match conc1 a with
  | some v => pureVal P (Op.unary op v)
  | none => none

def convE (P : Program) (s d : TypeId) (a : AV) : Option AV := match a with
  | .int k n => match P.underlying d with
    | some (.int _) => pureVal P (convert s d (.int k n))
    | _ => none
  | _ => none

def makeFuncE (tm : M AV) (f : Fn) (first cap : Array Operand) (h : H) : RV := match f with
  | .func f => match evL tm first.toList, evL tm cap.toList with
    | some a, some b => .ok (.fn f a b) h
    | _, _ => .no
  | _ => .no

def newMap (h : H) : RV := match newObj (.map [] 0) h with
  | some (id, h) => .ok (.map id) h
  | none => .no

def makeMapE (P : Program) (tm : M AV) (t : TypeId) (r : Option Operand) (h : H) : RV := match r with
  | none => newMap h
  | some x => match P.underlying t, evT tm x with
    | some (.map _ _), some (.int _ _) => newMap h
    | _, _ => .no

def slicesE (P : Program) (tm : M AV) (t : TypeId) (x : Operand) (lo hi mx : Option Operand) : Option AV :=
  match evT tm x, optNat tm lo, optNat tm hi, optNat tm mx with
  | some v, some lo, some hi, some mx => sliceE P t (reszT P t v) lo hi mx
  | _, _, _, _ => none

def extractE (a : AV) (i : Nat) : Option AV := match asTup a with
  | some vs => lget vs i
  | none => none

def nilCheckE (a : AV) : Option AV := match a with
  | .ptr id off => some (.ptr id off)
  | .fn f a b => some (.fn f a b)
  | .yld id => some (.yld id)
  | _ => none

def buildO (P : Program) (tm : M AV) (t : TypeId) (ps : Array (Nat × Operand)) : Option AV := match evParts tm ps.toList with
  | some parts => buildE P t parts
  | none => none

def buildSliceO (P : Program) (tm : M AV) (t : TypeId) (n : Nat) (ps : Array (Nat × Operand)) (h : H) : RV := match evParts tm ps.toList with
  | some parts => buildSliceE P t n parts h
  | none => .no

def execE (P : Program) (ih : Evs) (tm : M AV) (ty : TypeId) (op : Op) (h : H) : RV :=
  Op.rec (motive := fun _ => Program → Evs → M AV → TypeId → H → RV)
    (fun x _ _ tm _ h => .of (evT tm x) h)
    (fun x _ _ tm _ h => .of (evT tm x) h)
    (fun c a b _ _ tm _ h => .of (pickE tm c a b) h)
    (fun e P _ _ _ h => allocE P e h)
    (fun e x _ _ tm _ h => on1 (evT tm x) fun v => newPtr e v.cells h)
    (fun t ps P _ tm _ h => .of (buildO P tm t ps) h)
    (fun t n ps P _ tm _ h => buildSliceO P tm t n ps h)
    (fun _ _ _ _ _ _ _ _ _ => .no)
    (fun t a P _ tm _ h => on1 (evT tm a) fun p => .of (loadE P t p h) h)
    (fun t a x P _ tm _ h => on1 (evT tm a) fun p => on1 (evT tm x) fun v => .done (storeE P t p v h))
    (fun _ _ _ _ _ _ => .no)
    (fun _ _ _ _ _ _ => .no)
    (fun x _ _ tm _ h => on1 (evT tm x) fun v => .of (nilCheckE v) h)
    (fun op t x y _ P _ tm _ h => on1 (evT tm x) fun a => on1 (evT tm y) fun b => .of (binE P op t x y a b) h)
    (fun op _ x P _ tm _ h => on1 (evT tm x) fun a => .of (unE P op a) h)
    (fun sr d x P _ tm _ h => on1 (evT tm x) fun a => .of (convE P sr d a) h)
    (fun _ _ _ _ _ _ _ => .no)
    (fun _ _ _ _ _ _ _ => .no)
    (fun f first cap _ _ tm _ h => makeFuncE tm f first cap h)
    (fun t r P _ tm _ h => makeMapE P tm t r h)
    (fun _ _ _ _ _ _ _ => .no)
    (fun t l c P _ tm _ h => on1 (evT tm l) fun l => on1 (evT tm c) fun c => makeSliceE P t l c h)
    (fun t x lo hi mx P _ tm _ h => .of (slicesE P tm t x lo hi mx) h)
    (fun sx x f P _ tm _ h => on1 (evT tm x) fun v => .of (fieldAddrE P sx v f) h)
    (fun t x f P _ tm _ h => on1 (evT tm x) fun v => .of (fieldE P t v f) h)
    (fun t x i P _ tm _ h => on1 (evT tm x) fun v => on1 (evT tm i) fun i => .of (indexAddrE P t v i) h)
    (fun t x i P _ tm _ h => on1 (evT tm x) fun v => on1 (evT tm i) fun i => .of (indexE P t v i) h)
    (fun t x k ok P _ tm _ h => on1 (evT tm x) fun m => on1 (evT tm k) fun k => .of (lookupE P t m k ok h) h)
    (fun t m k x P _ tm _ h => on1 (evT tm m) fun m => on1 (evT tm k) fun k => on1 (evT tm x) fun v => .done (updateE P t m k v h))
    (fun _ _ _ _ _ _ _ _ => .no)
    (fun _ _ _ _ _ _ _ _ _ => .no)
    (fun _ _ _ _ _ _ _ => .no)
    (fun _ _ _ _ _ _ _ => .no)
    (fun _ _ _ _ _ _ => .no)
    (fun _ _ _ _ _ _ _ _ _ => .no)
    (fun t i _ _ tm _ h => on1 (evT tm t) fun v => .of (extractE v i) h)
    (fun c P ih tm ty h => callE P ih tm ty c h)
    (fun _ _ _ _ _ _ => .no)
    (fun _ _ _ _ _ _ => .no)
    (fun _ _ _ _ _ _ => .no)
    (fun _ _ _ _ _ _ _ => .no)
    (fun _ _ _ _ _ _ _ _ => .no)
    (fun _ _ _ _ _ _ _ => .no)
    op P ih tm ty h

/-- Lay a value into a temporary, and go on. -/
def putE (dst : Option Tmp) (v : AV) (fs : FS) (h : H) (k : FS → H → RF) : RF :=
  Option.rec (motive := fun _ => AV → FS → H → (FS → H → RF) → RF) (fun _ fs h k => k fs h)
    (fun d v fs h k => FS.rec (motive := fun _ => Nat → AV → H → (FS → H → RF) → RF) (fun fn n tm defs round d v h k =>
      bif Nat.ble (Nat.succ d) n then Option.rec (motive := fun _ => RF) .no (fun tm => k ⟨fn, n, tm, defs, round⟩ h) (tm.set d v) else .no) fs d v h k) dst v fs h k

/-- Is a guarded operation wanted? -/
def guardE (ops : Array Oper) (tm : M AV) (j : Nat) (want : Bool) : Option Bool :=
  match ops[j]? with
  | some oj => match oj.dst with
    | some d => match tm.get d with
      | some v => match asB v with
        | some b => some (b == want)
        | none => some false
      | none => none
    | none => none
  | none => none

def wantE (ops : Array Oper) (tm : M AV) (g : Option (Nat × Bool)) : Option Bool :=
  Option.rec (motive := fun _ => Array Oper → M AV → Option Bool) (fun _ _ => some true) (fun g ops tm => guardE ops tm g.1 g.2) g ops tm

def goE (dst : Option Tmp) (fs : FS) (k : FS → H → RF) (r : RV) : RF :=
  RV.rec (motive := fun _ => RF) .no (fun v h => putE dst v fs h k) r

def oneE (P : Program) (ih : Evs) (ops : Array Oper) (o : Oper) (fs : FS) (h : H) (k : FS → H → RF) : RF :=
  Option.rec (motive := fun _ => RF) .no (fun b => bif b then goE o.dst fs k (execE P ih fs.tm o.type o.op h) else putE o.dst (.tup []) fs h k) (wantE ops fs.tm o.guard)

/-- A region, in the order of the text. -/
def opsE (P : Program) (ih : Evs) (ops : Array Oper) (l : List Oper) : FS → H → RF :=
  List.rec (motive := fun _ => FS → H → RF) (fun fs h => .ok fs h) (fun o _ k fs h => oneE P ih ops o fs h k) l

/-- The mark is set before an operation of a region whose order is drawn, and before a call: has it written nothing that was there before? -/
def marked : H → H
  | ⟨objs, next, clock, _⟩ => ⟨objs, next, clock, clock⟩

def flat1 : AV → Bool
  | .bool _ => true
  | .int _ _ => true
  | .str _ => true
  | .nilp => true
  | .nils => true
  | .nilm => true
  | .nilf => true
  | .nili => true
  | _ => false

def flatL : List AV → Bool
  | [] => true
  | v :: vs => bif flat1 v then flatL vs else false

def flat2 : AV → Bool
  | .agg cs => flatL cs
  | .fn _ a c => bif flatL a then flatL c else false
  | v => flat1 v

def flatL2 : List AV → Bool
  | [] => true
  | v :: vs => bif flat2 v then flatL2 vs else false

def flat : AV → Bool
  | .tup vs => flatL2 vs
  | v => flat2 v

/-- A call that has written nothing that was there before, and hands back no address, leaves memory as it was. -/
def pureCall (h0 : H) : RV → RV
  | .ok v ⟨objs, next, clock, w⟩ => match h0 with
    | ⟨objs0, next0, clock0, w0⟩ => bif Nat.ble clock0 w && flat v then .ok v ⟨objs0, next0, clock0, w0⟩ else .ok v ⟨objs, next, clock, bif Nat.ble w0 w then w0 else w⟩
  | .no => .no

/-- Operations that touch memory. -/
def touches (o : Op) : Bool :=
  match o with
  | .move _ | .assign _ | .pick .. | .build .. | .nilCheck _ | .binOp .. | .unOp .. | .convert .. | .makeFunc .. | .slice .. | .fieldAddr .. | .field .. | .indexAddr .. | .index .. | .extract .. => false
  | _ => true

def namesHit (o : Option Tmp) (l : List Tmp) : Bool := match o with
  | some d => l.contains d
  | none => false

def sameDst (a b : Option Tmp) : Bool := match a, b with
  | some d, some e => Nat.beq d e
  | _, _ => false

/-- Two operations that share a temporary. -/
def share (ops : Array Oper) (a b : Oper) : Bool := sameDst a.dst b.dst || namesHit a.dst (b.looksAt ops) || namesHit b.dst (a.looksAt ops)

/-- Is one of two operations surely before the other? -/
def ordered (b : Array Nat) (i j : Nat) : Bool := bif Nat.ble i j then (b.getD j 0).testBit i else (b.getD i 0).testBit j

/-- What the static look at a region whose order is drawn finds: do temporaries agree with the order; do operations wait for earlier ones alone; which operations are barriers. -/
def tempsOk (ops : Array Oper) (b : Array Nat) : Bool :=
  ops.toList.zipIdx.all fun (oj, j) => ops.toList.zipIdx.all fun (oi, i) => !Nat.ble (Nat.succ i) j || !share ops oi oj || (b.getD j 0).testBit i

def edgesOk (ops : Array Oper) : Bool :=
  ops.toList.zipIdx.all fun (o, i) => o.after.toList.all fun e => !Region.binds .any e || Nat.ble (Nat.succ e.on) i

def barrier (ops : Array Oper) (b : Array Nat) (j : Nat) : Bool :=
  ops.toList.zipIdx.all fun (oi, i) => !touches oi.op || Nat.beq i j || ordered b i j

inductive Bar where
  | full
  | soft (l : List Tmp)
  | no

/-- No operation from number i on writes a temporary. -/
def unwritten (ops : Array Oper) (i : Nat) (a : Tmp) : Bool := ops.toList.zipIdx.all fun (o, k) => !Nat.ble i k || !sameDst o.dst (some a)

def softList (ops : Array Oper) (b : Array Nat) (j : Nat) : List (Oper × Nat) → Option (List Tmp)
  | [] => some []
  | (oi, i) :: rest => match softList ops b j rest with
    | none => none
    | some l => bif !touches oi.op || Nat.beq i j || ordered b i j then some l else
      match oi.op with
      | .load _ (.tmp a) => bif Nat.ble (Nat.succ i) j && unwritten ops i a then some (a :: l) else none
      | _ => none

def barOf (ops : Array Oper) (b : Array Nat) (o : Oper) (j : Nat) : Bar :=
  bif barrier ops b j then .full else
  match o.op with
  | .store .. => match softList ops b j ops.toList.zipIdx with
    | some l => .soft l
    | none => .no
  | .call c => match c.callee with
    | .builtin .append => match softList ops b j ops.toList.zipIdx with
      | some l => .soft l
      | none => .no
    | _ => .no
  | _ => .no

def withBars (ops : Array Oper) (b : Array Nat) : List (Oper × Bar) := ops.toList.zipIdx.map fun (o, j) => (o, barOf ops b o j)

def drawn (ops : Array Oper) : Option (List (Oper × Bar)) := bif tempsOk ops (Region.before ops) && edgesOk ops then some (withBars ops (Region.before ops)) else none

/-- Is what a store writes no block behind these addresses? -/
def apartFrom (tm : M AV) (id : Pos) : List Tmp → Bool
  | [] => true
  | t :: ts => match tm.get t with
    | some u => match asPtr u with
      | some (id', _) => bif decide (id' = id) then false else apartFrom tm id ts
      | none => false
    | none => false

def barOk (bar : Bar) (tm : M AV) (op : Op) : Bool := match bar with
  | .full => true
  | .soft l => match op with
    | .store _ a _ => match evT tm a with
      | some v => match asPtr v with
        | some (id, _) => apartFrom tm id l
        | none => false
      | none => false
    | .call c => match c.callee with
      | .builtin .append => match evL tm c.args.toList with
        | some [.sl id _ _ _ _, _] => apartFrom tm id l
        | _ => false
      | _ => false
    | _ => false
  | .no => false

def unmark (bar : Bar) (tm : M AV) (op : Op) (h0 : H) : RV → RV
  | .ok v ⟨objs, next, clock, w⟩ => bif Nat.ble h0.clock w || barOk bar tm op then .ok v ⟨objs, next, clock, bif Nat.ble h0.w w then h0.w else w⟩ else .no
  | .no => .no

def oneD (P : Program) (ih : Evs) (ops : Array Oper) (bar : Bar) (o : Oper) (fs : FS) (h : H) (k : FS → H → RF) : RF :=
  match wantE ops fs.tm o.guard with
  | some true => goE o.dst fs k (unmark bar fs.tm o.op h (execE P ih fs.tm o.type o.op (marked h)))
  | some false => putE o.dst (.tup []) fs h k
  | none => .no

def opsD (P : Program) (ih : Evs) (ops : Array Oper) (l : List (Oper × Bar)) : FS → H → RF :=
  List.rec (motive := fun _ => FS → H → RF) (fun fs h => .ok fs h) (fun ob _ k fs h => oneD P ih ops ob.2 ob.1 fs h k) l

def regionE (P : Program) (ih : Evs) (ops : Array Oper) (draw : Bool) (fs : FS) (h : H) : RF :=
  match draw with
  | true => match drawn ops with
    | some l => opsD P ih ops l fs h
    | none => .no
  | false => opsE P ih ops ops.toList fs h

def endLoopE (l : Pos) (fs : FS) : RV → RJ
  | .ok _ h => match getObj l h with
    | some (.loop st pend fn n tm params assign body d) => match st with
      | .busy => .no
      | _ => match setObj l (.loop .exhausted pend fn n tm params assign body d) h with
        | some h => .ok pend fs h
        | none => .no
    | _ => .no
  | .no => .no

def loopE (P : Program) (ih : Evs) (fv : AV) (params : Array Tmp) (assign body : Code) (d : Pos) (fs : FS) (h : H) : RJ :=
  match fs with
  | ⟨fn, n, tm, defs, round⟩ => match newObj (.loop .ready .norm fn n tm params assign body d) h with
    | some (l, h) => endLoopE l ⟨fn, n, tm, defs, round⟩ (callV P ih fv [.yld l] h)
    | none => .no

def rangeE (P : Program) (ih : Evs) (f : Operand) (params : Array Tmp) (assign body : Code) (fs : FS) (h : H) : RJ :=
  match fs with
  | ⟨fn, n, tm, defs, round⟩ => match evT tm f with
    | some fv => match round with
      | none => match newObj .dfr h with
        | some (d, h) => loopE P ih fv params assign body d ⟨fn, n, tm, d :: defs, none⟩ h
        | none => .no
      | some l => match getObj l h with
        | some (.loop _ _ _ _ _ _ _ _ d) => loopE P ih fv params assign body d ⟨fn, n, tm, defs, some l⟩ h
        | _ => .no
    | none => .no

def thenE (k : FS → H → RJ) (r : RJ) : RJ :=
  RJ.rec (motive := fun _ => (FS → H → RJ) → RJ) (fun _ => .no) (fun j fs h k => J.rec (motive := fun _ => FS → H → (FS → H → RJ) → RJ) (fun fs h k => k fs h) (fun id fs h _ => .ok (.exit id) fs h) (fun fs h _ => .ok .ret fs h) j fs h k) r k

def outE (id : Nat) : RJ → RJ
  | .ok (.exit id') fs h => .ok (bif Nat.beq id' id then .norm else .exit id') fs h
  | r => r

def normE : RF → RJ
  | .ok fs h => .ok .norm fs h
  | .no => .no

def condE (ih : Evs) (c : Operand) (a b : Code) (fs : FS) (h : H) : RJ :=
  match evT fs.tm c with
  | some v => match asB v with
    | some t => ih.code (bif t then a else b) fs h
    | none => .no
  | none => .no

def codeE (P : Program) (ih : Evs) (c : Code) (fs : FS) (h : H) : RJ :=
  Code.rec (motive := fun _ => Program → Evs → FS → H → RJ)
    (fun _ _ fs h => .ok .norm fs h)
    (fun _ ops draw P ih fs h => normE (regionE P ih ops draw fs h))
    (fun a b _ _ _ ih fs h => thenE (ih.code b) (ih.code a fs h))
    (fun c a b _ _ _ ih fs h => condE ih c a b fs h)
    (fun id b _ _ ih fs h => outE id (ih.code b fs h))
    (fun b _ _ ih fs h => thenE (ih.code (.loop b)) (ih.code b fs h))
    (fun f params assign body _ _ P ih fs h => rangeE P ih f params assign body fs h)
    (fun id _ _ fs h => .ok (.exit id) fs h)
    (fun b _ _ ih fs h => ih.code b fs h)
    (fun _ _ _ fs h => .ok .norm fs h)
    (fun _ _ _ _ _ => .no)
    (fun _ _ fs h => .ok .ret fs h)
    (fun _ _ _ _ _ => .no)
    c P ih fs h

def takeAll : List Pos → H → Option H
  | [], h => some h
  | d :: ds, h => match getObj d h with
    | some .dfr => match setObj d .taken h with
      | some h => takeAll ds h
      | none => none
    | _ => none

def resultE (P : Program) (tm : M AV) (h : H) : ResultVar → Option AV
  | .tmp t => tm.get t
  | .cell a t => match tm.get a with
    | some p => loadE P t p h
    | none => none

def resultsE (P : Program) (tm : M AV) (h : H) : List ResultVar → Option (List AV)
  | [] => some []
  | r :: rs => match resultE P tm h r with
    | some v => match resultsE P tm h rs with
      | some vs => some (v :: vs)
      | none => none
    | none => none

def setParams (n : Nat) : List Tmp → List AV → M AV → Option (M AV)
  | [], [], tm => some tm
  | t :: ts, v :: vs, tm => bif Nat.ble (Nat.succ t) n then
      match tm.set t v with
      | some tm => setParams n ts vs tm
      | none => none
    else none
  | _, _, _ => none

def retE (P : Program) (rs : List ResultVar) (tm : M AV) (h : H) : RV :=
  match resultsE P tm h rs with
  | some [v] => .ok v h
  | some vs => .ok (.tup vs) h
  | none => .no

def leaveE (P : Program) (rs : List ResultVar) : RJ → RV
  | .ok (.exit _) _ _ => .no
  | .ok _ ⟨_, _, tm, defs, _⟩ h => match takeAll defs h with
    | some h => retE P rs tm h
    | none => .no
  | .no => .no

def undefRow : List AV := [.tup [], .tup [], .tup [], .tup [], .tup [], .tup [], .tup [], .tup []]
def baseRows : M AV := [undefRow, undefRow, undefRow, undefRow, undefRow, undefRow, undefRow, undefRow, undefRow, undefRow, undefRow, undefRow, undefRow, undefRow, undefRow, undefRow,
  undefRow, undefRow, undefRow, undefRow, undefRow, undefRow, undefRow, undefRow, undefRow, undefRow, undefRow, undefRow, undefRow, undefRow, undefRow, undefRow,
  undefRow, undefRow, undefRow, undefRow, undefRow, undefRow, undefRow, undefRow, undefRow, undefRow, undefRow, undefRow, undefRow, undefRow, undefRow, undefRow]

def callFnE (P : Program) (ih : Evs) (g : FuncId) (args : List AV) (h : H) : RV :=
  match P.funcs[g]? with
  | some fn => match fn.body with
    | some body => bif Nat.ble args.length fn.ntmps && Nat.ble fn.ntmps 384 then
        match fillM baseRows 0 args with
        | some tm => forceNat fn.ntmps fun n => leaveE P fn.results.toList (ih.code body ⟨g, n, tm, [], none⟩ h)
        | none => .no
      else .no
    | none => .no
  | none => .no

def endRoundE (l : Pos) : RJ → RV
  | .ok j _ h => match getObj l h with
    | some (.loop _ _ fn n tm params assign body d) =>
      match j with
      | .norm => match setObj l (.loop .ready .norm fn n tm params assign body d) h with
        | some h => .ok (.bool true) h
        | none => .no
      | j => match setObj l (.loop .done j fn n tm params assign body d) h with
        | some h => .ok (.bool false) h
        | none => .no
    | _ => .no
  | .no => .no

def bodyE (ih : Evs) (l : Pos) (body : Code) : RJ → RV
  | .ok .norm fs h => match getObj l h with
    | some (.loop .ready pend fn n tm params assign body' d) => match setObj l (.loop .busy pend fn n tm params assign body' d) h with
      | some h => endRoundE l (ih.code body fs h)
      | none => .no
    | _ => .no
  | _ => .no

def callYldE (ih : Evs) (l : Pos) (args : List AV) (h : H) : RV :=
  match getObj l h with
  | some (.loop _ _ fn n tm params assign body _) => match setParams n params.toList args tm with
    | some tm => bodyE ih l body (ih.code assign ⟨fn, n, tm, [], some l⟩ h)
    | none => .no
  | _ => .no

def tgtE (P : Program) (ih : Evs) (t : Tgt) (h : H) : RV :=
  match t with
  | .fn g args => pureCall h (callFnE P ih g args (marked h))
  | .yld l args => callYldE ih l args h

def ev (P : Program) (n : Nat) : Evs := Nat.rec ⟨fun _ _ _ => .no, fun _ _ => .no⟩ (fun _ e => ⟨codeE P e, tgtE P e⟩) n

end
end Go.Ev
