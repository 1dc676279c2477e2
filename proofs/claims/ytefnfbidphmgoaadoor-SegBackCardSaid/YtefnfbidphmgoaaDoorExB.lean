/- A reckoner for runs of fixed texts, second part: regions that draw their order, frames, calls. No conditions. -/
import Derived.Test.YtefnfbidphmgoaaDoorExA
set_option linter.unusedVariables false
set_option linter.unusedSimpArgs false
namespace Go.Proofs.YtefnfbidphmgoaaDoor.Ex
open Go Go.RowKit

/-! ### A region that draws its order: each operation on what those ahead of it (by its edges) have made -/

structure Rec where
  i : Nat
  dst : Option Nat
  v : Value
  delta : List (Nat × Option HO)
  looks : List Nat
  hin : T HO
  mask : Nat
  lo : Nat
  hi : Nat
noncomputable def maskOf : List Rec → List Edge → Option Nat
  | _, [] => some 0
  | rs, e :: es => bif Region.binds .any e then
      (match rs.find? (fun r => Nat.beq r.i e.on) with
        | none => none
        | some r => match maskOf rs es with
          | none => none
          | some m => some (Nat.lor (Nat.lor m r.mask) (Nat.shiftLeft 1 r.i)))
    else maskOf rs es
noncomputable def inMask (m i : Nat) : Bool := !Nat.beq (Nat.mod (Nat.shiftRight m i) 2) 0
/-- The last that was said of an object, by those of a mask. -/
noncomputable def lastSaid (m : Nat) (id : Nat) : List Rec → Option (Option HO)
  | [] => none
  | r :: rs => match (bif inMask m r.i then r.delta.find? (fun d => Nat.beq d.1 id) else none) with
    | some d => some d.2
    | none => lastSaid m id rs
noncomputable def viewGet (h0 : T HO) (rs : List Rec) (m : Nat) (id : Nat) : Option HO := match lastSaid m id rs with
  | some o => o
  | none => tget h0 id
noncomputable def putAll (h : T HO) : List (Nat × Option HO) → T HO
  | [] => h
  | (id, o) :: r => tput (putAll h r) id o
/-- The whole view: if all that was said is in the mask, what stands; else the rows said, from the elder on. -/
noncomputable def viewAll (h0 hrun : T HO) (rs : List Rec) (m : Nat) : T HO :=
  bif rs.all (fun r => r.delta.isEmpty || inMask m r.i) then hrun
  else rs.foldr (fun r h => bif inMask m r.i then putAll h r.delta else h) h0
noncomputable def idsOf : Value → List Nat
  | .pointer (some a) => [a.block]
  | .slice (some a) _ _ => [a.block]
  | .map (some r) => [r]
  | _ => []
/-- The objects that an operation looks into. -/
noncomputable def readsOf (o : Oper) (ev : Operand → Option Value) : List Nat := match o.op with
  | .move _ | .assign _ | .pick .. | .alloc _ | .box .. | .build .. | .buildSlice .. | .nilCheck _ | .fieldAddr .. | .field .. | .indexAddr .. | .index .. | .extract .. | .makeInterface .. | .makeFunc .. | .makeSlice .. | .makeMap .. | .unOp .. | .binOp .. | .sliceToArrayPointer .. => []
  | .slice _ x _ _ _ => match ev x with
    | some (.slice (some ⟨id, _, some _⟩) _ _) => [id]
    | _ => []
  | _ => o.op.operands.toList.flatMap fun x => match ev x with | some v => idsOf v | none => []
noncomputable def restrict (get : Nat → Option HO) : List Nat → T HO
  | [] => []
  | id :: r => tput (restrict get r) id (get id)
noncomputable def looksOf (all : List Oper) (o : Oper) : List Nat :=
  (o.op.operands.toList.filterMap fun | .tmp t => some t | _ => none) ++
  (match o.guard with
   | some (g, _) => match lget all g with
     | some og => og.dst.toList
     | none => []
   | none => [])
noncomputable def disjoint (a : List Nat) (b : List (Nat × Option HO)) : Bool := b.all fun d => !a.contains d.1
/-- Two operations that no edges order: neither looks at what the other one turns. -/
noncomputable def apart (x y : Rec) : Bool :=
  (match x.dst with | some d => !y.looks.contains d | none => true) &&
  (match y.dst with | some d => !x.looks.contains d | none => true) &&
  x.delta.all (fun d => (tget y.hin d.1).isNone && !y.delta.any (fun e => Nat.beq e.1 d.1)) &&
  y.delta.all (fun d => (tget x.hin d.1).isNone)
noncomputable def sameDst (x y : Rec) : Bool := match x.dst, y.dst with
  | some d, some e => Nat.beq d e
  | _, _ => false
noncomputable def fits (r : Rec) (rs : List Rec) : Bool := rs.all fun x => !sameDst x r && (inMask r.mask x.i || apart x r)

structure Dr where
  recs : List Rec
  tmps : T Value
  heap : T HO
  next : Nat
  ws : List Nat
/-- The part of memory that an operation is run on. -/
noncomputable def hinOf (o : Oper) (h0 : T HO) (s : Dr) (m : Nat) : T HO := match calleeA o with
  | some _ => viewAll h0 s.heap s.recs m
  | none => restrict (viewGet h0 s.recs m) (readsOf o (evalA s.tmps))
noncomputable def drawLoop (P : Program) (call : CallF) (nt : Nat) (all : List Oper) (h0 : T HO) : List Oper → Nat → Dr → Except String Dr
  | [], _, s => .ok s
  | o :: rest, i, s => bif dstOk nt o.dst then
      (match maskOf s.recs o.after.toList, wantedA all s.tmps o with
        | some m, some false =>
          let r : Rec := ⟨i, o.dst, undef, [], looksOf all o, [], m, s.next, s.next⟩
          bif fits r s.recs then drawLoop P call nt all h0 rest (i + 1) { s with recs := r :: s.recs, tmps := putDst s.tmps o.dst undef } else .error o.pos
        | some m, some true =>
          let hin := hinOf o h0 s m
          match stepA P call o (evalA s.tmps) hin s.next with
          | .error w => .error w
          | .ok r =>
            let delta := r.ws.map fun id => (id, tget r.heap id)
            let q : Rec := ⟨i, o.dst, r.v, delta, looksOf all o, hin, m, s.next, r.next⟩
            bif fits q s.recs && Nat.ble s.next r.next then
              drawLoop P call nt all h0 rest (i + 1) ⟨q :: s.recs, putDst s.tmps o.dst r.v, putAll s.heap delta, r.next, r.ws ++ s.ws⟩
            else .error o.pos
        | _, _ => .error o.pos)
    else .error o.pos
noncomputable def runDraw (P : Program) (call : CallF) (nt : Nat) (all : List Oper) (s : St) : Except String St :=
  match drawLoop P call nt all s.heap all 0 ⟨[], s.tmps, s.heap, s.next, []⟩ with
  | .error w => .error w
  | .ok d => .ok ⟨d.tmps, d.heap, d.next, d.ws ++ s.ws⟩

/-! ### Frames and calls -/

/-- One item of a frame; k goes on. -/
noncomputable def itemStep (P : Program) (call : CallF) (nt : Nat) (k : List Item → St → Except String St) (todo : List Item) (s : St) : Except String St := match todo with
  | [] => .ok s
  | .code c :: r => match c with
    | .ret => .ok s
    | .skip => k r s
    | .label _ => k r s
    | .seq a b => k (.code a :: .code b :: r) s
    | .cond c x y => match evalA s.tmps c with
      | some (.bool true) => k (.code x :: r) s
      | some (.bool false) => k (.code y :: r) s
      | _ => .error "cond"
    | .block id body => k (.code body :: .inBlock id :: r) s
    | .loop body => k (.code body :: .inLoop body :: r) s
    | .scope body => k (.code body :: .inScope body :: r) s
    | .exit id => match exitTo id r with
      | some r' => k r' s
      | none => .error "exit"
    | .goto l => match gotoIn l r with
      | some r' => k r' s
      | none => .error "goto"
    | .region _ ops false => match runOps P call nt ops.toList ops.toList s with
      | .ok s' => k r s'
      | .error w => .error w
    | .region _ ops true => match runDraw P call nt ops.toList s with
      | .ok s' => k r s'
      | .error w => .error w
    | _ => .error "code"
  | .inBlock _ :: r => k r s
  | .inScope _ :: r => k r s
  | .inLoop body :: r => k (.code body :: .inLoop body :: r) s
  | _ => .error "item"
noncomputable def runItems (P : Program) (call : CallF) (nt : Nat) (f : Nat) : List Item → St → Except String St :=
  Nat.rec (motive := fun _ => List Item → St → Except String St) (fun _ _ => .error "fuel") (fun _ ih todo s => itemStep P call nt ih todo s) f
noncomputable def putArgs : T Value → Nat → List Value → T Value
  | t, _, [] => t
  | t, i, v :: r => putArgs (tput t i (some v)) (i + 1) r
noncomputable def resA (P : Program) (tmps : T Value) (h : T HO) : ResultVar → Option Value
  | .tmp t => tget tmps t
  | .cell a t => match tget tmps a with
    | some v => loadA P t v h
    | none => none
/-- So many steps may a frame take. -/
noncomputable def fuelA : Nat := 1000000
/-- What is known of calls: of a function with nothing handed in, or with an atom and a number. -/
abbrev Orc := List (Nat × Option (Nat × Nat) × Value)
noncomputable def orcKey : Option (Nat × Nat) → Option (Nat × Nat) → Bool
  | none, none => true
  | some (i, m), some (j, n) => Nat.beq i j && Nat.beq m n
  | _, _ => false
noncomputable def orcFind : Orc → Nat → Option (Nat × Nat) → Option Value
  | [], _, _ => none
  | (f, k, v) :: l, g, q => bif Nat.beq f g && orcKey k q then some v else orcFind l g q
noncomputable def orcA (tb : Orc) (f : FuncId) (args : List Value) : Option Value := match tb with
  | [] => none
  | _ :: _ => match args with
    | [] => orcFind tb f none
    | [.chan (some i), .int .i64 (.ofNat m)] => orcFind tb f (some (i, m))
    | _ => none
noncomputable def runCallO (P : Program) (tb : Orc) : Nat → CallF
  | 0, _, _, _, _ => .error "depth"
  | d + 1, f, args, h, n => bif Nat.ble 1000000000 f then .error "variable" else match orcA tb f args with
    | some v => .ok ⟨v, h, n, []⟩
    | none => match P.funcs[f]? with
      | none => .error "func"
      | some fn => match fn.body with
        | none => .error "body"
        | some c => bif Nat.ble args.length fn.ntmps then
            (match runItems P (runCallO P tb d) fn.ntmps fuelA [.code c] ⟨putArgs [] 0 args, h, n, []⟩ with
              | .error w => .error w
              | .ok s => match optL (resA P s.tmps s.heap) fn.results.toList with
                | none => .error "results"
                | some [v] => .ok ⟨v, s.heap, s.next, s.ws⟩
                | some vs => .ok ⟨.tuple vs.toArray, s.heap, s.next, s.ws⟩)
          else .error "arguments"
noncomputable def runCall (P : Program) : Nat → CallF := runCallO P []
end Go.Proofs.YtefnfbidphmgoaaDoor.Ex
