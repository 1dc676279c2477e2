/- A reckoner for runs of fixed texts, first part: what it does. Values of the reckoner are values of the model whose blocks are names (ids): a relation says what they stand for. No conditions. -/
import Derived.Orders
import Derived.Below
import Derived.Laws.Cells
import Derived.Laws.CopyRow
set_option linter.unusedVariables false
set_option linter.unusedSimpArgs false
namespace Go.Proofs.YtefnfbidphmgoaaDoor.Ex
open Go Go.RowKit

/-! ### Tables by number -/

/- By the recursors themselves: a reckoning in the kernel goes over them many times. -/
noncomputable def lget {α : Type} (l : List α) : Nat → Option α :=
  List.rec (motive := fun _ => Nat → Option α) (fun _ => none) (fun x _ ih n => Nat.rec (motive := fun _ => Option α) (some x) (fun m _ => ih m) n) l
noncomputable def lput {α : Type} (e : α) (n : Nat) : List α → α → List α :=
  Nat.rec (motive := fun _ => List α → α → List α) (fun l x => List.rec (motive := fun _ => List α) [x] (fun _ r _ => x :: r) l) (fun _ ih l x => List.rec (motive := fun _ => List α) (e :: ih [] x) (fun y r _ => y :: ih r x) l) n
abbrev T (α : Type) := List (List (List (Option α)))
noncomputable def tget {α : Type} (t : T α) (k : Nat) : Option α :=
  (lget ((lget ((lget t (Nat.div k 256)).getD []) (Nat.mod (Nat.div k 16) 16)).getD []) (Nat.mod k 16)).getD none
noncomputable def tput {α : Type} (t : T α) (k : Nat) (x : Option α) : T α :=
  let a := (lget t (Nat.div k 256)).getD []
  let b := (lget a (Nat.mod (Nat.div k 16) 16)).getD []
  lput [] (Nat.div k 256) t (lput [] (Nat.mod (Nat.div k 16) 16) a (lput none (Nat.mod k 16) b x))

/-! ### Values and objects -/

/-- No block in it. -/
noncomputable def closed : Nat → Value → Bool
  | 0, _ => false
  | d + 1, v => match v with
    | .pointer (some _) | .slice (some _) _ _ | .map (some _) | .chan (some _) => false
    | .iface _ v => closed d v
    | .agg cs => cs.toList.all (closed d)
    | .tuple cs => cs.toList.all (closed d)
    | .func _ a b => a.toList.all (closed d) && b.toList.all (closed d)
    | _ => true
/-- So deep are the values that stay closed. -/
noncomputable def DC : Nat := 6

/-- An object: kind 0, a row of cells (open: more may follow; marked: a text may share its end); kind 1, a map; kind 2, an iterator over a map (of that name; nats: when it stepped last, and what it has seen). -/
structure HO where
  kind : Nat
  cells : List Value
  elem : TypeId
  opn : Bool
  ro : Bool
  mkd : Bool
  entries : List (Value × Value × Nat)
  clock : Nat
  nats : List Nat
noncomputable def rowO (cells : List Value) (elem : TypeId) (opn : Bool) : HO := ⟨0, cells, elem, opn, false, false, [], 0, []⟩
noncomputable def rowM (cells : List Value) (elem : TypeId) (opn : Bool) : HO := ⟨0, cells, elem, opn, false, true, [], 0, []⟩
noncomputable def mapO (es : List (Value × Value × Nat)) (clock : Nat) : HO := ⟨1, [], 0, false, false, false, es, clock, []⟩
noncomputable def iterO (id : Nat) (since : Nat) (nats : List Nat) : HO := ⟨2, [], id, false, false, false, [], since, nats⟩
noncomputable def HO.asRow (o : HO) : Option (List Value) := bif Nat.beq o.kind 0 then some o.cells else none
noncomputable def HO.asMap (o : HO) : Option (List (Value × Value × Nat)) := bif Nat.beq o.kind 1 then some o.entries else none

noncomputable def HO.asIter (o : HO) : Option (List Nat) := bif Nat.beq o.kind 2 then some o.nats else none

noncomputable def optL {α β : Type} (f : α → Option β) (l : List α) : Option (List β) :=
  List.rec (motive := fun _ => Option (List β)) (some []) (fun a _ ih => Option.rec (motive := fun _ => Option (List β)) none (fun b => Option.rec (motive := fun _ => Option (List β)) none (fun l => some (b :: l)) ih) (f a)) l
noncomputable def setNth {α : Type} (l : List α) : Nat → α → Option (List α) :=
  List.rec (motive := fun _ => Nat → α → Option (List α)) (fun _ _ => none) (fun y r ih n x => Nat.rec (motive := fun _ => Option (List α)) (some (x :: r)) (fun m _ => Option.rec (motive := fun _ => Option (List α)) none (fun l => some (y :: l)) (ih m x)) n) l
noncomputable def setMany {α : Type} : List α → Nat → List α → Option (List α)
  | l, _, [] => some l
  | l, n, x :: xs => match setNth l n x with
    | none => none
    | some l' => setMany l' (n + 1) xs
noncomputable def takeN {α : Type} (n : Nat) : List α → Option (List α) :=
  Nat.rec (motive := fun _ => List α → Option (List α)) (fun _ => some []) (fun _ ih l => List.rec (motive := fun _ => Option (List α)) none (fun x r _ => Option.rec (motive := fun _ => Option (List α)) none (fun l => some (x :: l)) (ih r)) l) n
noncomputable def getMany {α : Type} (l : List α) (off n : Nat) : Option (List α) := takeN n (l.drop off)
noncomputable def cellsOf : Value → List Value
  | .agg cs => cs.toList
  | v => [v]
noncomputable def rep {α : Type} (l : List α) : Nat → List α
  | 0 => []
  | n + 1 => l ++ rep l n
/-- A value of one cell. -/
noncomputable def one : Value → Bool
  | .agg _ | .tuple _ => false
  | _ => true

/-- Where nothing of memory is asked for, what comes of it. -/
noncomputable def pureEval {α : Type} (P : Program) : Sem α → Option α
  | .pure a => some a
  | .program k => pureEval P (k P)
  | .mark _ k => pureEval P k
  | _ => none

structure Out where
  v : Value
  heap : T HO
  next : Nat
  ws : List Nat

section
variable (P : Program)

noncomputable def sizeA (t : TypeId) : Option Nat := match P.info? t with | some i => some i.size | none => none
noncomputable def zeroA (t : TypeId) : Option Value := match P.info? t with
  | some i => match i.zero with
    | some z => bif closed DC z then some z else none
    | none => none
  | none => none
noncomputable def isAggA (t : TypeId) : Option Bool := match P.underlying t with
  | some (.struct _) => some true
  | some (.array _ _) => some true
  | some _ => some false
  | none => none
/-- A part of cells, of a type, at a place. -/
noncomputable def partA (t : TypeId) (cs : List Value) (off : Nat) : Option Value := match isAggA P t with
  | some true => match sizeA P t with
    | some n => match getMany cs off n with
      | some l => some (.agg l.toArray)
      | none => none
    | none => none
  | some false => lget cs off
  | none => none
noncomputable def natOf : Value → Option Nat
  | .int _ (.ofNat n) => some n
  | _ => none

noncomputable def fillA (place : Nat → Option (Nat × Nat)) : List Value → List (Nat × Value) → Option (List Value)
  | cells, [] => some cells
  | cells, (i, v) :: rest => match place i with
    | none => none
    | some (off, size) => bif Nat.beq (cellsOf v).length size && Nat.ble (off + size) cells.length then
        (match setMany cells off (cellsOf v) with
          | some c => fillA place c rest
          | none => none)
      else none

/-- A new object. -/
noncomputable def newA (v : Value) (o : HO) (h : T HO) (n : Nat) : Option Out := some ⟨v, tput h n (some o), n + 1, [n]⟩
/-- An object turned. -/
noncomputable def updA (v : Value) (id : Nat) (o : HO) (h : T HO) (n : Nat) : Option Out := some ⟨v, tput h id (some o), n, [id]⟩

noncomputable def allocA (elem : TypeId) (h : T HO) (n : Nat) : Option Out := match zeroA P elem with
  | some z => newA (.pointer (some ⟨n, 0, none⟩)) (rowO (cellsOf z) elem false) h n
  | none => none
noncomputable def boxA (elem : TypeId) (v : Value) (h : T HO) (n : Nat) : Option Out :=
  newA (.pointer (some ⟨n, 0, none⟩)) (rowO (cellsOf v) elem false) h n
noncomputable def buildA (t : TypeId) (ps : List (Nat × Value)) : Option Value := match zeroA P t with
  | none => none
  | some z => match P.underlying t with
    | some (.struct fields) => match optL (fun f => match sizeA P f.type with | some s => some (f.offset, s) | none => none) fields.toList with
      | none => none
      | some places => match fillA (fun j => lget places j) (cellsOf z) ps with
        | some c => some (.agg c.toArray)
        | none => none
    | some (.array _ e) => match sizeA P e with
      | none => none
      | some s => match fillA (fun j => some (j * s, s)) (cellsOf z) ps with
        | some c => some (.agg c.toArray)
        | none => none
    | _ => none
noncomputable def buildSliceA (t : TypeId) (len : Nat) (ps : List (Nat × Value)) (h : T HO) (n : Nat) : Option Out := match P.underlying t with
  | some (.slice e) => match sizeA P e, zeroA P e with
    | some s, some z => bif Nat.beq (cellsOf z).length s && Nat.ble (len * s) 1000000 then
        (match fillA (fun j => some (j * s, s)) (rep (cellsOf z) len) ps with
          | some c => newA (.slice (some ⟨n, 0, none⟩) len len) (rowO c e false) h n
          | none => none)
      else none
    | _, _ => none
  | _ => none
noncomputable def loadA (t : TypeId) (a : Value) (h : T HO) : Option Value := match a with
  | .pointer (some ⟨id, off, none⟩) => match tget h id with
    | some o => match o.asRow with
      | some cs => partA P t cs off
      | none => none
    | none => none
  | _ => none
noncomputable def storeA (t : TypeId) (a v : Value) (h : T HO) (n : Nat) : Option Out := match a with
  | .pointer (some ⟨id, off, none⟩) => match tget h id, sizeA P t with
    | some o, some s => match o.asRow with
      | some cs => bif Nat.beq (cellsOf v).length s && (cellsOf v).all one && !o.ro then
          (match setMany cs off (cellsOf v) with
            | some cs' => updA undef id { o with cells := cs' } h n
            | none => none)
        else none
      | none => none
    | _, _ => none
  | _ => none
noncomputable def nilCheckA : Value → Option Value
  | .pointer (some a) => some (.pointer (some a))
  | _ => none
noncomputable def fieldAddrA (s : TypeId) (a : Value) (f : Nat) : Option Value := match a, P.underlying s with
  | .pointer (some ⟨id, off, none⟩), some (.struct fields) => match lget fields.toList f with
    | some fl => match sizeA P fl.type with
      | some (_ + 1) => some (.pointer (some ⟨id, off + fl.offset, none⟩))
      | _ => none
    | none => none
  | _, _ => none
noncomputable def fieldA (s : TypeId) (v : Value) (f : Nat) : Option Value := match v, P.underlying s with
  | .agg cs, some (.struct fields) => match lget fields.toList f with
    | some fl => partA P fl.type cs.toList fl.offset
    | none => none
  | _, _ => none
noncomputable def indexAddrA (t : TypeId) (a ix : Value) : Option Value := match natOf ix, a, P.underlying t with
  | some k, .pointer (some ⟨id, off, none⟩), some (.array len e) => match sizeA P e with
    | some s => bif Nat.blt k len then some (.pointer (some ⟨id, off + k * s, none⟩)) else none
    | none => none
  | some k, .slice (some ⟨id, off, sp⟩) len c, some (.slice e) => match sizeA P e, sp with
    | some s, none => bif Nat.blt k len then some (.pointer (some ⟨id, off + k * s, none⟩)) else none
    | some s, some alt => bif Nat.blt k len && Nat.beq alt off then some (.pointer (some ⟨id, off + k * s, none⟩)) else none
    | none, _ => none
  | _, _, _ => none
noncomputable def indexA (t : TypeId) (v ix : Value) : Option Value := match natOf ix, v, P.underlying t with
  | some k, .agg cs, some (.array len e) => match sizeA P e with
    | some s => bif Nat.blt k len then partA P e cs.toList (k * s) else none
    | none => none
  | _, _, _ => none
/-- A slice as an array's address. -/
noncomputable def arrPtrA (t : TypeId) (v : Value) : Option Value := match v, P.underlying t with
  | .slice (some ⟨id, off, sp⟩) len _, some (.array k _) =>
    bif Nat.ble k len && (match sp with | none => true | some alt => Nat.beq alt off) then some (.pointer (some ⟨id, off, none⟩)) else none
  | _, _ => none
noncomputable def extractA : Value → Nat → Option Value
  | .tuple vs, i => lget vs.toList i
  | _, _ => none

/-- How many cells' worth of elements a slice has room for, at least. -/
noncomputable def capLow (h : T HO) (e size id off : Nat) (sp : Option Nat) (len c : Nat) : Nat := match sp with
  | none => c
  | some alt => bif Nat.beq alt off && Nat.beq off (c * size) && Nat.blt 0 size then
      (match tget h id with
        | some o => bif Nat.beq o.kind 0 && o.opn && Nat.beq o.elem e && Nat.ble len (Nat.div (o.cells.length - off) size) then Nat.div (o.cells.length - off) size else len
        | none => len)
    else len
noncomputable def boundA (d : Nat) : Option Value → Option Nat
  | none => some d
  | some v => natOf v
noncomputable def sliceA (t : TypeId) (x : Value) (lo hi mx : Option Value) (h : T HO) : Option Value := match x, P.underlying t with
  | .slice (some ⟨id, off, sp⟩) len c, some (.slice e) => match boundA 0 lo, boundA len hi, sizeA P e with
    | some l, some hh, some s =>
      let low := capLow h e s id off sp len c
      match mx with
      | none => bif Nat.ble l hh && Nat.ble hh low then
          (match sp with
            | none => some (.slice (some ⟨id, bif Nat.beq l c then off else off + l * s, none⟩) (hh - l) (c - l))
            | some alt => bif Nat.beq l 0 then some (.slice (some ⟨id, off, some alt⟩) hh c)
              else bif !Nat.beq alt off then none
              else bif Nat.blt l low then some (.slice (some ⟨id, off + l * s, some (off + l * s)⟩) (hh - l) (c + l))
              else some (.slice (some ⟨id, off + l * s, some off⟩) (hh - l) (c + l)))
        else none
      | some m => match natOf m with
        | some m => bif Nat.ble l hh && Nat.ble hh m && Nat.ble m low then
            (match sp with
              | none => some (.slice (some ⟨id, bif Nat.beq l m then off else off + l * s, none⟩) (hh - l) (m - l))
              | some alt => bif Nat.beq alt off then some (.slice (some ⟨id, bif Nat.beq l m then off else off + l * s, none⟩) (hh - l) (m - l)) else none)
          else none
        | none => none
    | _, _, _ => none
  | .pointer (some ⟨id, off, none⟩), some (.array k e) => match boundA 0 lo, boundA k hi, sizeA P e, mx with
    | some l, some hh, some s, none => bif Nat.ble l hh && Nat.ble hh k then
        some (.slice (some ⟨id, bif Nat.beq l k then off else off + l * s, none⟩) (hh - l) (k - l)) else none
    | _, _, _, _ => none
  | _, _ => none
noncomputable def lenA (v : Value) (h : T HO) : Option Value := match v with
  | .slice _ len _ => some (.int .i64 len)
  | .map (some id) => match tget h id with
    | some o => match o.asMap with
      | some es => some (.int .i64 es.length)
      | none => none
    | none => none
  | _ => none
noncomputable def bytesOf (s : ByteArray) : List Value := s.data.toList.map fun b => .int .u8 b.toNat
/-- Where a slice begins is known. -/
noncomputable def plainSp (sp : Option Nat) (off : Nat) : Bool := match sp with
  | none => true
  | some alt => Nat.beq alt off
noncomputable def fixSp : Option Nat → Bool
  | none => true
  | some _ => false
noncomputable def rowPartA (s id off len : Nat) (h : T HO) : Option (List Value) := match tget h id with
  | some o => match o.asRow with
    | some cs => getMany cs off (len * s)
    | none => none
  | none => none
/-- The cells that are appended, or copied. -/
noncomputable def sourceA (s : Nat) (x : Value) (h : T HO) : Option (Nat × List Value) := match x with
  | .slice none len _ => bif Nat.beq len 0 then some (0, []) else none
  | .slice (some ⟨id, off, sp⟩) len _ => bif Nat.beq len 0 then some (0, []) else
      bif plainSp sp off then
        (match rowPartA s id off len h with
          | some l => some (len, l)
          | none => none)
      else none
  | .string b => bif Nat.beq s 1 then some (b.size, bytesOf b) else none
  | _ => none
noncomputable def lenOfA : Value → Nat
  | .slice _ n _ => n
  | _ => 0
/-- No length is so great that memory could not bear it. -/
noncomputable def growOk (need bytes : Nat) : Bool := Nat.ble need 100000000 && Nat.ble ((2 * need + 192) * bytes) 100000000
noncomputable def bytesA (e : TypeId) : Nat := match P.info? e with
  | some i => i.bytes
  | none => 0
/-- A row that is a slice's own, all of it: with room that is not known, or without room. -/
noncomputable def ownB (e s : Nat) (o : HO) (off : Nat) (sp : Option Nat) (len c : Nat) (cs : List Value) : Bool := match sp with
  | some alt => Nat.beq off 0 && Nat.beq alt 0 && Nat.beq c 0 && o.opn && Nat.beq o.elem e && Nat.beq cs.length (len * s)
  | none => Nat.beq off 0 && Nat.beq len c && Nat.beq cs.length (len * s) && !o.opn && Nat.beq o.elem e
noncomputable def ownRow (e s id off : Nat) (sp : Option Nat) (len c : Nat) (h : T HO) : Option (HO × List Value) := match tget h id with
  | none => none
  | some o => match o.asRow with
    | none => none
    | some cs => bif !o.ro && ownB e s o off sp len c cs then some (o, cs) else none
/-- So many cells more, behind a slice. -/
noncomputable def appendCore (e s m : Nat) (new : List Value) (x : Value) (h : T HO) (n : Nat) : Option Out := match x with
  | .slice none len c => bif Nat.beq len 0 && Nat.beq c 0 then
      (bif Nat.beq m 0 then some ⟨x, h, n, []⟩ else newA (.slice (some ⟨n, 0, some 0⟩) m 0) (rowO new e true) h n)
    else none
  | .slice (some ⟨id, off, sp⟩) len c => match ownRow e s id off sp len c h with
    | some (o, cs) => some ⟨.slice (some ⟨n, 0, some 0⟩) (len + m) 0, tput (tput h id none) n (some { rowO (cs ++ new) e true with mkd := o.mkd }), n + 1, [id, n]⟩
    | none =>
    bif Nat.beq m 0 && Nat.ble len c && fixSp sp then some ⟨x, h, n, []⟩ else
    match tget h id with
    | none => none
    | some o => match o.asRow with
      | none => none
      | some cs => bif o.ro then none else
        bif Nat.ble (len + m) (capLow h e s id off sp len c) then
          (match setMany cs (off + len * s) new with
            | some cs' => updA (.slice (some ⟨id, off, sp⟩) (len + m) c) id { o with cells := cs' } h n
            | none => none)
        else match getMany cs off (len * s) with
          | none => none
          | some old => match sp with
            | none => newA (.slice (some ⟨n, 0, some 0⟩) (len + m) 0) (rowO (old ++ new) e true) h n
            | some alt => bif Nat.beq off 0 && Nat.beq alt 0 && Nat.beq c 0 && o.opn && Nat.beq o.elem e && Nat.beq cs.length (len * s) then
                some ⟨.slice (some ⟨n, 0, some 0⟩) (len + m) 0, tput (tput h id none) n (some { rowO (old ++ new) e true with mkd := o.mkd }), n + 1, [id, n]⟩
              else none
  | _ => none
noncomputable def appendA (e : TypeId) (x y : Value) (h : T HO) (n : Nat) : Option Out := match sizeA P e, zeroA P e with
  | some s, some z => bif Nat.beq (cellsOf z).length s && Nat.blt 0 s then
      (match sourceA s y h with
        | none => none
        | some (m, new) => bif new.all one && growOk (lenOfA x + m) (bytesA P e) then appendCore e s m new x h n else none)
    else none
  | _, _ => none
/-- append(x, make([]E, m)...). -/
noncomputable def appendZ (e : TypeId) (x y : Value) (h : T HO) (n : Nat) : Option Out := match sizeA P e, zeroA P e, natOf y with
  | some s, some z, some m => bif Nat.beq (cellsOf z).length s && Nat.blt 0 s && (cellsOf z).all one && Nat.ble (m * bytesA P e) 100000000 && growOk (lenOfA x + m) (bytesA P e) then
      appendCore e s m (rep (cellsOf z) m) x h n else none
  | _, _, _ => none
noncomputable def capA (v : Value) : Option Value := match v with
  | .slice (some ⟨_, _, none⟩) _ c => some (.int .i64 c)
  | _ => none
noncomputable def copyA (e : TypeId) (x y : Value) (h : T HO) (n : Nat) : Option Out := match sizeA P e with
  | none => none
  | some s => match sourceA s y h with
    | none => none
    | some (m, cs) => match x with
      | .slice (some ⟨id, off, sp⟩) len _ =>
        let k := Nat.min m len
        bif Nat.beq k 0 then some ⟨.int .i64 0, h, n, []⟩ else
        bif plainSp sp off then
          (match tget h id, takeN (k * s) cs with
            | some o, some l => match o.asRow with
              | some r => bif l.all one && !o.ro then
                  (match setMany r off l with
                    | some r' => updA (.int .i64 k) id { o with cells := r' } h n
                    | none => none)
                else none
              | none => none
            | _, _ => none)
        else none
      | _ => none
noncomputable def clearA (e : TypeId) (x : Value) (h : T HO) (n : Nat) : Option Out := match sizeA P e, zeroA P e, x with
  | some s, some z, .slice (some ⟨id, off, sp⟩) len _ => bif Nat.beq len 0 then some ⟨undef, h, n, []⟩ else
    bif plainSp sp off && Nat.beq (cellsOf z).length s && (cellsOf z).all one then
      (match tget h id with
        | some o => match o.asRow with
          | some r => bif !o.ro then
              (match setMany r off (rep (cellsOf z) len) with
                | some r' => updA undef id { o with cells := r' } h n
                | none => none)
            else none
          | none => none
        | none => none)
    else none
  | _, _, _ => none
noncomputable def makeSliceA (t : TypeId) (l c : Value) (h : T HO) (n : Nat) : Option Out := match P.underlying t, natOf l, natOf c with
  | some (.slice e), some len, some cap => match sizeA P e, zeroA P e with
    | some s, some z => bif Nat.beq (cellsOf z).length s && Nat.ble len cap && Nat.ble (cap * (match P.info? e with | some i => i.bytes | none => 0)) 1000000 && Nat.ble cap 1000000 then
        newA (.slice (some ⟨n, 0, none⟩) len cap) (rowO (rep (cellsOf z) cap) e false) h n else none
    | _, _ => none
  | _, _, _ => none
/-- Where a key stands in a map: keys are closed. -/
noncomputable def findK (kt : TypeId) (k : Value) (es : List (Value × Value × Nat)) : Option (Option Nat) :=
  match pureEval P (Instr.findKey kt k (es.map fun e => { key := e.1, val := undef, born := e.2.2 })) with
  | some (some (i, _)) => some (some i)
  | some none => some none
  | none => none
noncomputable def keyOk (e : Bool) (kt : TypeId) (k : Value) : Bool := bif closed DC k then (match pureEval P (Instr.checkKey e 10000 kt k) with | some _ => true | none => false) else false
noncomputable def setK (k x : Value) : Nat → List (Value × Value × Nat) → List (Value × Value × Nat)
  | _, [] => []
  | 0, (_, _, b) :: r => (k, x, b) :: r
  | n + 1, e :: r => e :: setK k x n r
noncomputable def lookupA (t : TypeId) (x k : Value) (ok : Bool) (h : T HO) : Option Value := match x, P.underlying t with
  | .map (some id), some (.map kt e) => match tget h id with
    | none => none
    | some o => match o.asMap with
      | none => none
      | some es => bif keyOk P es.isEmpty kt k then
          (match findK P kt k es with
            | some (some i) => match lget es i with
              | some (_, v, _) => some (bif ok then .tuple #[v, .bool true] else v)
              | none => none
            | some none => match zeroA P e with
              | some z => some (bif ok then .tuple #[z, .bool false] else z)
              | none => none
            | none => none)
        else none
  | _, _ => none
noncomputable def mapUpdateA (t : TypeId) (x k v : Value) (h : T HO) (n : Nat) : Option Out := match x, P.underlying t with
  | .map (some id), some (.map kt _) => match tget h id with
    | none => none
    | some o => match o.asMap with
      | none => none
      | some es => bif keyOk P false kt k && !o.ro then
          (match findK P kt k es with
            | some (some i) => match lget es i with
              | some (k', _, _) => bif Instr.sameBits 10000 k' k then updA undef id (mapO (setK k v i es) o.clock) h n else none
              | none => none
            | some none => updA undef id (mapO (es ++ [(k, v, o.clock)]) (o.clock + 1)) h n
            | none => none)
        else none
  | _, _ => none
noncomputable def deleteA (t : TypeId) (x k : Value) (h : T HO) (n : Nat) : Option Out := match x, P.underlying t with
  | .map (some id), some (.map kt _) => match tget h id with
    | none => none
    | some o => match o.asMap with
      | none => none
      | some es => bif keyOk P es.isEmpty kt k && !o.ro then
          (match findK P kt k es with
            | some (some i) => updA undef id (mapO (es.eraseIdx i) o.clock) h n
            | some none => updA undef id (mapO es o.clock) h n
            | none => none)
        else none
  | _, _ => none
/-- m[k] op= v: the entry. -/
noncomputable def mapEntryA (t : TypeId) (x k : Value) (h : T HO) (n : Nat) : Option Out := match x, P.underlying t with
  | .map (some id), some (.map kt e) => match tget h id with
    | none => none
    | some o => match o.asMap with
      | none => none
      | some es => bif keyOk P false kt k && !o.ro then
          (match findK P kt k es with
            | some (some i) => match lget es i with
              | some (k', v, b) => bif Instr.sameBits 10000 k' k then updA (.tuple #[v, .int .i64 b]) id (mapO (setK k v i es) o.clock) h n else none
              | none => none
            | some none => match zeroA P e with
              | some z => updA (.tuple #[z, .int .i64 o.clock]) id (mapO (es ++ [(k, z, o.clock)]) (o.clock + 1)) h n
              | none => none
            | none => none)
        else none
  | _, _ => none
noncomputable def findBorn (b : Nat) : List (Value × Value × Nat) → Nat → Option Nat
  | [], _ => none
  | e :: r, i => bif Nat.beq e.2.2 b then some i else findBorn b r (i + 1)
noncomputable def setV (x : Value) : Nat → List (Value × Value × Nat) → List (Value × Value × Nat)
  | _, [] => []
  | 0, (k, _, b) :: r => (k, x, b) :: r
  | n + 1, e :: r => e :: setV x n r
noncomputable def entryStoreA (x s v : Value) (h : T HO) (n : Nat) : Option Out := match x, natOf s with
  | .map (some id), some b => match tget h id with
    | none => none
    | some o => match o.asMap with
      | none => none
      | some es => bif o.ro then none else match findBorn b es 0 with
        | some i => updA undef id (mapO (setV v i es) o.clock) h n
        | none => none
  | _, _ => none
/-- An iterator over a map. -/
noncomputable def rangeA (t : TypeId) (x : Value) (h : T HO) (n : Nat) : Option Out := match x, P.underlying t with
  | .map none, some (.map _ _) => newA (.pointer (some ⟨n, 0, none⟩)) (iterO 0 0 []) h n
  | .map (some id), some (.map _ _) => match tget h id with
    | none => none
    | some o => match o.asMap with
      | none => none
      | some _ => newA (.pointer (some ⟨n, 0, none⟩)) (iterO id o.clock [o.clock]) h n
  | _, _ => none
noncomputable def leftOf (seen : List Nat) (es : List (Value × Value × Nat)) : List (Value × Value × Nat) := es.filter fun e => !seen.contains e.2.2
/-- Its next step, where there is no choice: one entry is left, or none. -/
noncomputable def nextA (it : Value) (h : T HO) (n : Nat) : Option Out := match it with
  | .pointer (some ⟨id, 0, none⟩) => match tget h id with
    | none => none
    | some o => match o.asIter with
      | none => none
      | some [] => some ⟨.tuple #[.bool false], h, n, []⟩
      | some (last :: seen) => match tget h o.elem with
        | none => none
        | some m => match m.asMap with
          | none => none
          | some es => bif !seen.isEmpty && !es.isEmpty && es.all (fun e => Nat.ble last e.2.2) then none else
            match leftOf seen es with
            | [] => some ⟨.tuple #[.bool false], h, n, []⟩
            | [(k, v, b)] => bif Nat.blt b o.clock && !o.ro then updA (.tuple #[.bool true, k, v]) id (iterO o.elem o.clock (m.clock :: (seen ++ [b]))) h n else none
            | _ => none
  | _ => none
noncomputable def entryA (it : Value) (h : T HO) : Option Value := match it with
  | .pointer (some ⟨id, 0, none⟩) => match tget h id with
    | none => none
    | some o => match o.asIter with
      | some (last :: seen) => match tget h o.elem, seen.getLast? with
        | some m, some b => match m.asMap with
          | none => none
          | some es => bif Nat.beq m.clock last then
              (match findBorn b es 0 with
                | some i => match lget es i with
                  | some (k, v, _) => some (.tuple #[k, v])
                  | none => none
                | none => none)
            else none
        | _, _ => none
      | _ => none
  | _ => none
/-- Held against nil. -/
noncomputable def nilEq (d : Option TypeDesc) (u v : Value) : Option Bool := match d, u, v with
  | some (.pointer _), .pointer (some _), .pointer none => some false
  | some (.pointer _), .pointer none, .pointer (some _) => some false
  | some (.slice _), .slice (some _) _ _, .slice none _ _ => some false
  | some (.map _ _), .map (some _), .map none => some false
  | some (.map _ _), .map none, .map (some _) => some false
  | _, _, _ => none
/-- An address held against another one. -/
noncomputable def ptrEq (d : Option TypeDesc) (u v : Value) (h : T HO) : Option Bool := match d, u, v with
  | some (.pointer el), .pointer (some ⟨i, x, none⟩), .pointer (some ⟨j, y, none⟩) => match sizeA P el with
    | some (_ + 1) => bif Nat.beq i j then some (Nat.beq x y) else
        (match tget h i, tget h j with
          | some o, some q => bif Nat.beq o.kind 0 && Nat.beq q.kind 0 && !o.mkd && !q.mkd && !o.ro && !q.ro then some false else none
          | _, _ => none)
    | _ => none
  | _, _, _ => none
noncomputable def intBin (op : BinOp) (t : TypeId) (u v : Value) : Option Value := match u, v with
  | .int k a, .int l b => match pureEval P (binOp op t (.int k a) (.int l b)) with
    | some (.int m c) => some (.int m c)
    | some (.bool c) => some (.bool c)
    | _ => none
  | _, _ => none
/-- The numbers of cells of one kind. -/
noncomputable def intsK (k : IntKind) : List Value → Option (List Int)
  | [] => some []
  | .int l n :: r => bif decide (k = l) then (match intsK k r with | some m => some (n :: m) | none => none) else none
  | _ :: _ => none
/-- Are these the same? Of an integer, a bool, an array of integers. -/
noncomputable def leafEq (t : TypeId) (xs ys : List Value) : Option Bool := match P.underlying t with
  | some (.int _) => match xs, ys with
    | [.int k a], [.int l b] => bif decide (k = l) then some (a == b) else none
    | _, _ => none
  | some .bool => match xs, ys with
    | [.bool a], [.bool b] => some (a == b)
    | _, _ => none
  | some (.array n e) => match P.underlying e, sizeA P e with
    | some (.int k), some s => match intsK k xs, intsK k ys with
      | some as, some bs => bif Nat.beq s 1 && Nat.beq as.length n && Nat.beq bs.length n then some (as == bs) else none
      | _, _ => none
    | _, _ => none
  | _ => none
noncomputable def fieldsEq (xs ys : List Value) : List Field → Option Bool
  | [] => some true
  | f :: fs => bif f.name == "_" then none else match sizeA P f.type with
    | some s => match leafEq P f.type ((xs.drop f.offset).take s) ((ys.drop f.offset).take s), fieldsEq xs ys fs with
      | some b, some c => some (b && c)
      | _, _ => none
    | none => none
noncomputable def aggEq (t : TypeId) (u v : Value) : Option Bool := match u, v with
  | .agg xs, .agg ys => bif P.eqGuardType P.depth t || !closed DC (.agg xs) || !closed DC (.agg ys) then none else match P.underlying t with
    | some (.struct fs) => bif P.stoodInHeld t then none else fieldsEq P xs.toList ys.toList fs.toList
    | some (.array _ _) => leafEq P t xs.toList ys.toList
    | _ => none
  | _, _ => none
noncomputable def sameA (t : TypeId) (u v : Value) (h : T HO) : Option Bool := match nilEq (P.underlying t) u v with
  | some b => some b
  | none => match ptrEq P (P.underlying t) u v h with
    | some b => some b
    | none => aggEq P t u v
noncomputable def strToBytesA (e : TypeId) (b : ByteArray) (h : T HO) (n : Nat) : Option Out :=
  bif (match sizeA P e with | some s => Nat.beq s 1 | none => false) then newA (.slice (some ⟨n, 0, some 0⟩) b.size 0) (rowM (bytesOf b) e true) h n else none
noncomputable def byteList : List Value → Option (List UInt8)
  | [] => some []
  | .int .u8 n :: r => match byteList r with
    | some l => some (UInt8.ofNat n.toNat :: l)
    | none => none
  | _ :: _ => none
noncomputable def bytesToStrA (x : Value) (h : T HO) : Option Value := match x with
  | .slice none _ _ => some (.string .empty)
  | .slice (some _) _ _ => match sourceA 1 x h with
    | some (_, cs) => match byteList cs with
      | some l => some (.string ⟨l.toArray⟩)
      | none => none
    | none => none
  | _ => none

noncomputable def closedEv (ev : Operand → Option Value) (x : Operand) : Bool := match ev x with
  | some v => closed DC v
  | none => false
/-- A slice of bytes as itself: its row is marked behind its end. -/
noncomputable def markA (v : Value) (h : T HO) (n : Nat) : Option Out := match v with
  | .slice (some ⟨id, _, _⟩) _ _ => match tget h id with
    | some o => match o.asRow with
      | some _ => bif o.ro then none else updA v id { o with mkd := true } h n
      | none => none
    | none => none
  | _ => none
/-- All operands closed, nothing of memory asked for. -/
noncomputable def plainA (ev : Operand → Option Value) (o : Oper) : Option Value :=
  bif o.op.operands.toList.all (closedEv ev) then
    (match o.op with
      | .select _ _ => none
      | _ => match pureEval P (execOp (fun x => (ev x).getD undef) o) with
        | some (.value v) => bif closed DC v then some v else none
        | _ => none)
  else none

noncomputable def valOut (h : T HO) (n : Nat) : Option Value → Option Out
  | some v => some ⟨v, h, n, []⟩
  | none => none
noncomputable def orElse (a : Option Out) (b : Option Out) : Option Out := match a with
  | some x => some x
  | none => b

/-- The operations that the reckoner knows by themselves (no call of a Go function). -/
noncomputable def specA (o : Oper) (ev : Operand → Option Value) (h : T HO) (n : Nat) : Option Out := match o.op with
  | .move x => valOut h n (ev x)
  | .assign x => valOut h n (ev x)
  | .pick c a b => match ev c with
    | some (.bool t) => valOut h n (bif t then ev a else ev b)
    | _ => none
  | .alloc elem => allocA P elem h n
  | .box elem x => match ev x with | some v => boxA elem v h n | none => none
  | .build t parts => match optL (fun p => match ev p.2 with | some v => some (p.1, v) | none => none) parts.toList with
    | some ps => valOut h n (buildA P t ps)
    | none => none
  | .buildSlice t len parts => match optL (fun p => match ev p.2 with | some v => some (p.1, v) | none => none) parts.toList with
    | some ps => buildSliceA P t len ps h n
    | none => none
  | .load t a => match ev a with | some v => valOut h n (loadA P t v h) | none => none
  | .store t a x => match ev a, ev x with | some u, some v => storeA P t u v h n | _, _ => none
  | .nilCheck x => match ev x with | some v => valOut h n (nilCheckA v) | none => none
  | .fieldAddr s x f => match ev x with | some v => valOut h n (fieldAddrA P s v f) | none => none
  | .field s x f => match ev x with | some v => valOut h n (fieldA P s v f) | none => none
  | .indexAddr t x i => match ev x, ev i with | some u, some v => valOut h n (indexAddrA P t u v) | _, _ => none
  | .index t x i => match ev x, ev i with | some u, some v => valOut h n (indexA P t u v) | _, _ => none
  | .sliceToArrayPointer t x => match ev x with | some v => valOut h n (arrPtrA P t v) | none => none
  | .extract x i => match ev x with | some v => valOut h n (extractA v i) | none => none
  | .makeMap _ none => newA (.map (some n)) (mapO [] 0) h n
  | .makeSlice t l c => match ev l, ev c with | some u, some v => makeSliceA P t u v h n | _, _ => none
  | .slice t x lo hi mx => match ev x, optL ev lo.toList, optL ev hi.toList, optL ev mx.toList with
    | some v, some l, some hh, some m => bif mx.isNone || hi.isSome then valOut h n (sliceA P t v l.head? hh.head? m.head? h) else none
    | _, _, _, _ => none
  | .lookup t x k ok => match ev x, ev k with | some u, some v => valOut h n (lookupA P t u v ok h) | _, _ => none
  | .mapUpdate t x k v => match ev x, ev k, ev v with | some a, some b, some c => mapUpdateA P t a b c h n | _, _, _ => none
  | .mapEntry t m k => match ev m, ev k with | some a, some b => mapEntryA P t a b h n | _, _ => none
  | .entryStore t m s x => match ev m, ev s, ev x with | some a, some b, some c => entryStoreA a b c h n | _, _, _ => none
  | .range t x => match ev x with | some v => rangeA P t v h n | none => none
  | .next it false => match ev it with | some v => nextA v h n | none => none
  | .entry it => match ev it with | some v => valOut h n (entryA v h) | none => none
  | .makeInterface t x => match ev x, P.underlying t with
    | some _, some (.interface _) => none
    | some v, some _ => valOut h n (some (.iface t v))
    | _, _ => none
  | .makeFunc fn a b => match optL ev a.toList, optL ev b.toList with
    | some u, some v => valOut h n (some (.func fn u.toArray v.toArray))
    | _, _ => none
  | .binOp op t x y _ => match ev x, ev y with
    | some u, some v => match intBin P op t u v with
      | some r => valOut h n (some r)
      | none => match op with
        | .eql => match sameA P t u v h with
          | some b => valOut h n (some (.bool b))
          | none => none
        | .neq => match sameA P t u v h with
          | some b => valOut h n (some (.bool (!b)))
          | none => none
        | _ => none
    | _, _ => none
  | .unOp .not _ x => match ev x with
    | some (.bool b) => valOut h n (some (.bool (!b)))
    | _ => none
  | .convert s d x => match ev x, P.underlying s, P.underlying d with
    | some (.string b), some .string, some (.slice e) => match P.underlying e with
      | some (.int .u8) => strToBytesA P e b h n
      | _ => none
    | some v, some (.slice _), some (.slice e) => match P.underlying e with
      | some (.int .u8) => bif Nat.beq s d then markA v h n else none
      | _ => none
    | some v, some (.slice e), some .string => match P.underlying e with
      | some (.int .u8) => valOut h n (bytesToStrA v h)
      | _ => none
    | _, _, _ => none
  | .call { callee := .builtin b, args, argTypes } => match b, optL ev args.toList, argTypes.toList with
    | .len, some [v], t :: _ => match P.underlying t, v with
      | some (.slice _), .slice _ _ _ => valOut h n (lenA v h)
      | some (.map _ _), .map (some _) => valOut h n (lenA v h)
      | _, _ => none
    | .append, some [u, v], t :: u' :: _ => match P.underlying t, P.underlying u' with
      | some (.slice e), some (.int _) => appendZ P e u v h n
      | some (.slice e), some _ => appendA P e u v h n
      | _, _ => none
    | .cap, some [v], t :: _ => match P.underlying t with
      | some (.slice _) => valOut h n (capA v)
      | _ => none
    | .copy, some [u, v], t :: _ => match P.underlying t with
      | some (.slice e) => copyA P e u v h n
      | _ => none
    | .clear, some [u], t :: _ => match P.underlying t with
      | some (.slice e) => clearA P e u h n
      | _ => none
    | .delete, some [u, v], t :: _ => deleteA P t u v h n
    | _, _, _ => none
  | _ => none
noncomputable def opA (o : Oper) (ev : Operand → Option Value) (h : T HO) (n : Nat) : Option Out :=
  orElse (specA P o ev h n) (valOut h n (plainA P ev o))

noncomputable def calleeA (o : Oper) : Option (Operand × List Operand) := match o.op with
  | .call { callee := .value f, args, .. } => some (f, args.toList)
  | _ => none

abbrev CallF := FuncId → List Value → T HO → Nat → Except String Out

/-- Has it a text? -/
noncomputable def hasBody (f : FuncId) : Option Bool := bif Nat.blt f 1000000000 then (match P.funcs[f]? with
  | some fn => some fn.body.isSome
  | none => none) else none
/-- A load of a listed variable: it is told of as a call of a number that no function bears. -/
noncomputable def globA (o : Oper) : Option (Nat × TypeId) := match o.op with
  | .load t (.global g) => some (g, t)
  | _ => none
/-- A function without a text, all arguments closed. -/
noncomputable def externA (f : FuncId) (args : List Value) (h : T HO) (n : Nat) : Option Out :=
  bif args.all (closed DC) then
    (match pureEval P (callFunc f args.toArray) with
      | some (.value v) => bif closed DC v then some ⟨v, h, n, []⟩ else none
      | _ => none)
  else none
noncomputable def stepA (call : CallF) (o : Oper) (ev : Operand → Option Value) (h : T HO) (n : Nat) : Except String Out :=
  match calleeA o with
  | some (f, args) => match ev f, optL ev args with
    | some (.func (.func g) a b), some vs => match hasBody P g with
      | some true => call g (a.toList ++ vs ++ b.toList) h n
      | some false => match externA P g (a.toList ++ vs ++ b.toList) h n with
        | some r => .ok r
        | none => .error o.pos
      | none => .error o.pos
    | _, _ => .error o.pos
  | none => match globA o with
    | some (g, t) => call (1000000000 + g) [.int .i64 (Int.ofNat t)] h n
    | none => match opA P o ev h n with
      | some r => .ok r
      | none => .error o.pos
end

structure St where
  tmps : T Value
  heap : T HO
  next : Nat
  ws : List Nat

noncomputable def evalA (tmps : T Value) : Operand → Option Value
  | .tmp t => tget tmps t
  | .const v => bif closed DC v then some v else none
  | .func f => some (.func (.func f) #[] #[])
  | .global _ => none
noncomputable def yieldedA (ops : List Oper) (tmps : T Value) (j : Nat) : Option (Option Bool) := match lget ops j with
  | none => some none
  | some o => match o.dst with
    | none => some none
    | some d => match tget tmps d with
      | some (.bool b) => some (some b)
      | some (.tuple _) => some none
      | _ => none
noncomputable def wantedA (ops : List Oper) (tmps : T Value) (o : Oper) : Option Bool := match o.guard with
  | none => some true
  | some (j, want) => match yieldedA ops tmps j with
    | some (some b) => some (b == want)
    | some none => some false
    | none => none
noncomputable def putDst (tmps : T Value) (dst : Option Tmp) (v : Value) : T Value := match dst with
  | some d => tput tmps d (some v)
  | none => tmps

noncomputable def dstOk (nt : Nat) : Option Tmp → Bool
  | some d => Nat.blt d nt
  | none => true
/-- One operation, in the order of the text. -/
noncomputable def opStep (P : Program) (call : CallF) (nt : Nat) (all : List Oper) (o : Oper) (k : St → Except String St) (s : St) : Except String St :=
  bif dstOk nt o.dst then
    (match wantedA all s.tmps o with
      | none => .error o.pos
      | some false => k { s with tmps := putDst s.tmps o.dst undef }
      | some true => match stepA P call o (evalA s.tmps) s.heap s.next with
        | .error w => .error w
        | .ok r => bif Nat.ble s.next r.next then k { tmps := putDst s.tmps o.dst r.v, heap := r.heap, next := r.next, ws := r.ws ++ s.ws } else .error o.pos)
  else .error o.pos
/-- In the order of the text. -/
noncomputable def runOps (P : Program) (call : CallF) (nt : Nat) (all : List Oper) (l : List Oper) : St → Except String St :=
  List.rec (motive := fun _ => St → Except String St) (fun s => .ok s) (fun o _ ih s => opStep P call nt all o ih s) l
end Go.Proofs.YtefnfbidphmgoaaDoor.Ex
