/- Operations over rows that are known in part: what is owed is said beside. No conditions. -/
import Derived.Test.YtefnfbidphmgoaaDoorExP
set_option linter.unusedVariables false
set_option linter.unusedSimpArgs false
namespace Go.Proofs.YtefnfbidphmgoaaDoor.Ex
open Go Go.RowKit

/-- What is said ahead of an operation. val: its value; out: all of it; idx: which element; sl, sl0, slO: the bounds; ld: what is loaded; st: the row behind a store; ap: there are enough elements; app: what is appended to a new or nil one; appO: to one of its own; cp: copied; ms: made; bs: as a text; alt: of a call, which of the ways that are known. -/
inductive Ch where
  | val (v : Value)
  | out (f : T HO → Nat → Out)
  | idx (k : Nat)
  | sl (l hh off : Nat)
  | sl0 (hh : Nat)
  | slO (l hh off : Nat)
  | slE (l off : Nat)
  | ld (v : Value)
  | st (cs : List Value)
  | ap
  | app (m : Nat) (new : List Value)
  | appO (m : Nat) (new : List Value)
  | appC (m : Nat) (new : List Value)
  | appD (m : Nat) (new : List Value)
  | appW (m : Nat) (new cs : List Value)
  | appN
  | cp (k : Nat) (row : List Value)
  | ms (len cap : Nat)
  | bs (b : List UInt8)
  | alt (j : Nat)

section
variable (P : Program)

noncomputable def plainP (sp : Option Nat) (off : Nat) : Prop := match sp with
  | none => True
  | some alt => alt = off
/-- So many cells from there on; none, wherever it is. -/
def fitP (off len n : Nat) : Prop := len = 0 ∨ off + len ≤ n
noncomputable def bndP (d : Nat) (v : Option Value) (l : Nat) : Prop := match v with
  | none => d = l
  | some (.int _ y) => y = (l : Int)
  | some _ => False
noncomputable def idxS (t : TypeId) (a ix : Value) (k : Nat) : Option (Value × Prop) := match a, P.underlying t, ix with
  | .pointer (some ⟨id, off, none⟩), some (.array len e), .int _ y => match sizeA P e with
    | some s => some (.pointer (some ⟨id, off + k * s, none⟩), y = (k : Int) ∧ k < len)
    | none => none
  | .slice (some ⟨id, off, sp⟩) len c, some (.slice e), .int _ y => match sizeA P e with
    | some s => some (.pointer (some ⟨id, off + k * s, none⟩), y = (k : Int) ∧ k < len ∧ plainP sp off)
    | none => none
  | _, _, _ => none
noncomputable def slS (t : TypeId) (x : Value) (lo hi : Option Value) (l hh o : Nat) : Option (Value × Prop) := match x, P.underlying t with
  | .slice (some ⟨id, off, none⟩) len c, some (.slice e) => match sizeA P e with
    | some s => some (.slice (some ⟨id, o, none⟩) (hh - l) (c - l), bndP 0 lo l ∧ bndP len hi hh ∧ l ≤ hh ∧ hh ≤ c ∧ (bif Nat.beq l c then off else off + l * s) = o)
    | none => none
  | .pointer (some ⟨id, off, none⟩), some (.array k e) => match sizeA P e with
    | some s => some (.slice (some ⟨id, o, none⟩) (hh - l) (k - l), bndP 0 lo l ∧ bndP k hi hh ∧ l ≤ hh ∧ hh ≤ k ∧ (bif Nat.beq l k then off else off + l * s) = o)
    | none => none
  | _, _ => none
noncomputable def sl0S (t : TypeId) (x : Value) (lo hi : Option Value) (hh : Nat) : Option (Value × Prop) := match x, P.underlying t with
  | .slice (some ⟨id, off, some alt⟩) len c, some (.slice e) => match sizeA P e with
    | some _ => some (.slice (some ⟨id, off, some alt⟩) hh c, bndP 0 lo 0 ∧ bndP len hi hh ∧ hh ≤ len)
    | none => none
  | _, _ => none
noncomputable def slOS (t : TypeId) (x : Value) (lo hi : Option Value) (l hh o : Nat) : Option (Value × Prop) := match x, P.underlying t with
  | .slice (some ⟨id, off, some alt⟩) len c, some (.slice e) => match sizeA P e with
    | some s => some (.slice (some ⟨id, o, some o⟩) (hh - l) (c + l), bndP 0 lo l ∧ bndP len hi hh ∧ 0 < l ∧ l ≤ hh ∧ hh ≤ len ∧ l < len ∧ alt = off ∧ off + l * s = o)
    | none => none
  | _, _ => none
/-- All of an own row let go of. -/
noncomputable def slES (t : TypeId) (x : Value) (lo hi : Option Value) (l o : Nat) (h : T HO) : Option (Value × Prop) := match x, P.underlying t with
  | .slice (some ⟨id, off, some alt⟩) len c, some (.slice e) => match sizeA P e, tget h id with
    | some s, some ob => some (.slice (some ⟨id, o, some off⟩) 0 (c + l), bndP 0 lo l ∧ bndP len hi l ∧ 0 < l ∧ l = len ∧ alt = off ∧ off + l * s = o ∧ 0 < s ∧ ob.cells.length ≤ off + len * s)
    | _, _ => none
  | _, _ => none
noncomputable def ldS (t : TypeId) (a v : Value) (h : T HO) : Option (Value × Prop) := match a with
  | .pointer (some ⟨id, off, none⟩) => match tget h id with
    | some o => match o.asRow with
      | some cs => match isAggA P t with
        | some false => some (v, cs[off]? = some v)
        | _ => some (v, partA P t cs off = some v)
      | none => none
    | none => none
  | _ => none
noncomputable def stS (t : TypeId) (a v : Value) (cs' : List Value) (h : T HO) (n : Nat) : Option (Out × Prop) := match a with
  | .pointer (some ⟨id, off, none⟩) => match tget h id, sizeA P t with
    | some o, some s => match o.asRow with
      | some cs => bif !o.ro then
          some (⟨undef, tput h id (some { o with cells := cs' }), n, [id]⟩, (cellsOf v).length = s ∧ (cellsOf v).all one = true ∧ setMany cs off (cellsOf v) = some cs')
        else none
      | none => none
    | _, _ => none
  | _ => none
noncomputable def apS (t : TypeId) (v : Value) : Option (Value × Prop) := match v, P.underlying t with
  | .slice (some ⟨id, off, sp⟩) len _, some (.array k _) => some (.pointer (some ⟨id, off, none⟩), k ≤ len ∧ plainP sp off)
  | _, _ => none
/-- What is appended, or copied, as a part of a row. -/
noncomputable def srcS (s : Nat) (x : Value) (h : T HO) (new : List Value) : Option (Nat × Prop) := match x with
  | .slice none len _ => some (len, len = 0 ∧ new = [])
  | .slice (some ⟨id, off, sp⟩) len _ => match tget h id with
    | some o => match o.asRow with
      | some cs => some (len, plainP sp off ∧ fitP off (len * s) cs.length ∧ (cs.drop off).take (len * s) = new)
      | none => none
    | none => none
  | .string b => bif Nat.beq s 1 then some (b.size, new = bytesOf b) else none
  | _ => none
noncomputable def growP (need bytes : Nat) : Prop := need ≤ 100000000 ∧ (2 * need + 192) * bytes ≤ 100000000
/-- Appended to nil. -/
noncomputable def appS (e : TypeId) (x y : Value) (m : Nat) (new : List Value) (h : T HO) (n : Nat) : Option (Out × Prop) := match sizeA P e, zeroA P e with
  | some s, some z => bif Nat.beq (cellsOf z).length s && Nat.blt 0 s then
      (match srcS s y h new with
        | none => none
        | some (m', p) => match x with
          | .slice none len c => bif Nat.beq len 0 && Nat.beq c 0 then
              some (⟨.slice (some ⟨n, 0, some 0⟩) m 0, tput h n (some (rowO new e true)), n + 1, [n]⟩, p ∧ m' = m ∧ m ≠ 0 ∧ new.all one = true ∧ growP m (bytesA P e)) else none
          | _ => none)
    else none
  | _, _ => none
/-- Appended to a row of its own, all of it: it has a new name then. -/
noncomputable def appOS (e : TypeId) (x y : Value) (m : Nat) (new : List Value) (h : T HO) (n : Nat) : Option (Out × Prop) := match sizeA P e, zeroA P e with
  | some s, some z => bif Nat.beq (cellsOf z).length s && Nat.blt 0 s then
      (match srcS s y h new with
        | none => none
        | some (m', p) => match x with
          | .slice (some ⟨id, 0, some 0⟩) len 0 => match tget h id with
            | some o => match o.asRow with
              | some cs => bif o.opn && Nat.beq o.elem e && !o.ro then
                some (⟨.slice (some ⟨n, 0, some 0⟩) (len + m) 0, tput (tput h id none) n (some { rowO (cs ++ new) e true with mkd := o.mkd }), n + 1, [id, n]⟩, p ∧ m' = m ∧ new.all one = true ∧ growP (len + m) (bytesA P e) ∧ cs.length = len * s) else none
              | none => none
            | none => none
          | .slice (some ⟨id, off, none⟩) len c => match ownRow e s id off none len c h with
            | some (o, cs) => some (⟨.slice (some ⟨n, 0, some 0⟩) (len + m) 0, tput (tput h id none) n (some { rowO (cs ++ new) e true with mkd := o.mkd }), n + 1, [id, n]⟩, p ∧ m' = m ∧ new.all one = true ∧ growP (len + m) (bytesA P e))
            | none => none
          | _ => none)
    else none
  | _, _ => none
/-- Appended to a slice whose room is known, and not enough. -/
noncomputable def appCS (e : TypeId) (x y : Value) (m : Nat) (new : List Value) (h : T HO) (n : Nat) : Option (Out × Prop) := match sizeA P e, zeroA P e with
  | some s, some z => bif Nat.beq (cellsOf z).length s && Nat.blt 0 s then
      (match srcS s y h new with
        | none => none
        | some (m', p) => match x with
          | .slice (some ⟨id, off, none⟩) len c => match tget h id with
            | some o => match o.asRow with
              | some cs => bif !o.ro then
                some (⟨.slice (some ⟨n, 0, some 0⟩) (len + m) 0, tput h n (some (rowO ((cs.drop off).take (len * s) ++ new) e true)), n + 1, [n]⟩, p ∧ m' = m ∧ c < len + m ∧ (off ≠ 0 ∨ len ≠ c) ∧ new.all one = true ∧ growP (len + m) (bytesA P e) ∧ off + len * s ≤ cs.length) else none
              | none => none
            | none => none
          | _ => none)
    else none
  | _, _ => none
noncomputable def appDS (e : TypeId) (x y : Value) (m : Nat) (new : List Value) (h : T HO) (n : Nat) : Option (Out × Prop) := match sizeA P e, zeroA P e with
  | some s, some z => bif Nat.beq (cellsOf z).length s && Nat.blt 0 s then
      (match srcS s y h new with
        | none => none
        | some (m', p) => match x with
          | .slice (some ⟨id, off, none⟩) len c => match tget h id with
            | some o => match o.asRow with
              | some cs => bif !o.ro then
                some (⟨.slice (some ⟨n, 0, some 0⟩) (len + m) 0, tput h n (some (rowO ((cs.drop off).take (len * s) ++ new) e true)), n + 1, [n]⟩, p ∧ m' = m ∧ c < len + m ∧ o.elem ≠ e ∧ new.all one = true ∧ growP (len + m) (bytesA P e) ∧ off + len * s ≤ cs.length) else none
              | none => none
            | none => none
          | _ => none)
    else none
  | _, _ => none
/-- Appended within the room that there is. -/
noncomputable def appWS (e : TypeId) (x y : Value) (m : Nat) (new cs' : List Value) (h : T HO) (n : Nat) : Option (Out × Prop) := match sizeA P e, zeroA P e with
  | some s, some z => bif Nat.beq (cellsOf z).length s && Nat.blt 0 s then
      (match srcS s y h new with
        | none => none
        | some (m', p) => match x with
          | .slice (some ⟨id, off, none⟩) len c => match tget h id with
            | some o => match o.asRow with
              | some cs => bif !o.ro then
                some (⟨.slice (some ⟨id, off, none⟩) (len + m) c, tput h id (some { o with cells := cs' }), n, [id]⟩, p ∧ m' = m ∧ 0 < m ∧ len + m ≤ c ∧ new.all one = true ∧ growP (len + m) (bytesA P e) ∧ setMany cs (off + len * s) new = some cs') else none
              | none => none
            | none => none
          | _ => none)
    else none
  | _, _ => none
/-- Nothing appended, where there is room. -/
noncomputable def appNS (e : TypeId) (x y : Value) (h : T HO) (n : Nat) : Option (Out × Prop) := match sizeA P e, zeroA P e with
  | some s, some z => bif Nat.beq (cellsOf z).length s && Nat.blt 0 s then
      (match srcS s y h [] with
        | none => none
        | some (m', p) => match x with
          | .slice (some ⟨id, off, none⟩) len c => match tget h id with
            | some o => match o.asRow with
              | some cs => some (⟨x, h, n, []⟩, p ∧ m' = 0 ∧ len ≤ c ∧ (len < c ∨ o.elem ≠ e) ∧ growP len (bytesA P e))
              | none => none
            | none => none
          | _ => none)
    else none
  | _, _ => none
noncomputable def cpS (e : TypeId) (x y : Value) (k : Nat) (row : List Value) (h : T HO) (n : Nat) : Option (Out × Prop) := match sizeA P e with
  | none => none
  | some s => match y with
    | .slice none _ _ => none
    | _ => match x with
      | .slice (some ⟨id, off, sp⟩) len _ => match tget h id with
        | some o => match o.asRow with
          | some r => match y with
            | .slice (some ⟨id2, off2, sp2⟩) len2 _ => match tget h id2 with
              | some o2 => match o2.asRow with
                | some cs => bif !o.ro then some (⟨.int .i64 k, tput h id (some { o with cells := row }), n, [id]⟩, plainP sp off ∧ plainP sp2 off2 ∧ k = min len2 len ∧ k ≠ 0 ∧ off2 + len2 * s ≤ cs.length ∧ ((cs.drop off2).take (k * s)).all one = true ∧ setMany r off ((cs.drop off2).take (k * s)) = some row) else none
                | none => none
              | none => none
            | .string b => bif Nat.beq s 1 && !o.ro then some (⟨.int .i64 k, tput h id (some { o with cells := row }), n, [id]⟩, plainP sp off ∧ k = min b.size len ∧ k ≠ 0 ∧ setMany r off ((bytesOf b).take k) = some row) else none
            | _ => none
          | none => none
        | none => none
      | _ => none
noncomputable def msS (t : TypeId) (l c : Value) (len cap : Nat) (h : T HO) (n : Nat) : Option (Out × Prop) := match P.underlying t, l, c with
  | some (.slice e), .int _ x, .int _ y => match sizeA P e, zeroA P e with
    | some s, some z => bif Nat.beq (cellsOf z).length s then
        some (⟨.slice (some ⟨n, 0, none⟩) len cap, tput h n (some (rowO (rep (cellsOf z) cap) e false)), n + 1, [n]⟩, x = (len : Int) ∧ y = (cap : Int) ∧ len ≤ cap ∧ cap * (bytesA P e) ≤ 1000000 ∧ cap ≤ 1000000) else none
    | _, _ => none
  | _, _, _ => none
noncomputable def bsS (x : Value) (b : List UInt8) (h : T HO) : Option (Value × Prop) := match x with
  | .slice (some ⟨id, off, sp⟩) len _ => match tget h id with
    | some o => match o.asRow with
      | some cs => some (.string ⟨b.toArray⟩, plainP sp off ∧ fitP off (len * 1) cs.length ∧ byteList ((cs.drop off).take (len * 1)) = some b)
      | none => none
    | none => none
  | _ => none
/-- An operation, with what is said ahead of it. -/
noncomputable def valS (h : T HO) (n : Nat) : Option (Value × Prop) → Option (Out × Prop)
  | some (v, p) => some (⟨v, h, n, []⟩, p)
  | none => none
noncomputable def opS (c : Ch) (o : Oper) (ev : Operand → Option Value) (h : T HO) (n : Nat) : Option (Out × Prop) := match c with
  | .val v => match opA P o ev h n with
    | some r => some ({ r with v := v }, r.v = v)
    | none => none
  | .out f => some (f h n, opA P o ev h n = some (f h n))
  | .idx k => match o.op with
    | .indexAddr t x i => match ev x, ev i with
      | some u, some v => valS h n (idxS P t u v k)
      | _, _ => none
    | _ => none
  | .sl l hh off => match o.op with
    | .slice t x lo hi none => match ev x, optL ev lo.toList, optL ev hi.toList with
      | some v, some a, some b => valS h n (slS P t v a.head? b.head? l hh off)
      | _, _, _ => none
    | _ => none
  | .sl0 hh => match o.op with
    | .slice t x lo hi none => match ev x, optL ev lo.toList, optL ev hi.toList with
      | some v, some a, some b => valS h n (sl0S P t v a.head? b.head? hh)
      | _, _, _ => none
    | _ => none
  | .slO l hh off => match o.op with
    | .slice t x lo hi none => match ev x, optL ev lo.toList, optL ev hi.toList with
      | some v, some a, some b => valS h n (slOS P t v a.head? b.head? l hh off)
      | _, _, _ => none
    | _ => none
  | .slE l off => match o.op with
    | .slice t x lo hi none => match ev x, optL ev lo.toList, optL ev hi.toList with
      | some v, some a, some b => valS h n (slES P t v a.head? b.head? l off h)
      | _, _, _ => none
    | _ => none
  | .ld w => match o.op with
    | .load t a => match ev a with
      | some u => valS h n (ldS P t u w h)
      | none => none
    | _ => none
  | .st cs => match o.op with
    | .store t a x => match ev a, ev x with
      | some u, some v => stS P t u v cs h n
      | _, _ => none
    | _ => none
  | .ap => match o.op with
    | .sliceToArrayPointer t x => match ev x with
      | some u => valS h n (apS P t u)
      | none => none
    | _ => none
  | .app m new => match o.op with
    | .call { callee := .builtin .append, args, argTypes } => match optL ev args.toList, argTypes.toList with
      | some [u, v], t :: t' :: _ => match P.underlying t, P.underlying t' with
        | some (.slice e), some (.slice _) => appS P e u v m new h n
        | some (.slice e), some .string => appS P e u v m new h n
        | _, _ => none
      | _, _ => none
    | _ => none
  | .appO m new => match o.op with
    | .call { callee := .builtin .append, args, argTypes } => match optL ev args.toList, argTypes.toList with
      | some [u, v], t :: t' :: _ => match P.underlying t, P.underlying t' with
        | some (.slice e), some (.slice _) => appOS P e u v m new h n
        | some (.slice e), some .string => appOS P e u v m new h n
        | _, _ => none
      | _, _ => none
    | _ => none
  | .appC m new => match o.op with
    | .call { callee := .builtin .append, args, argTypes } => match optL ev args.toList, argTypes.toList with
      | some [u, v], t :: t' :: _ => match P.underlying t, P.underlying t' with
        | some (.slice e), some (.slice _) => appCS P e u v m new h n
        | some (.slice e), some .string => appCS P e u v m new h n
        | _, _ => none
      | _, _ => none
    | _ => none
  | .appD m new => match o.op with
    | .call { callee := .builtin .append, args, argTypes } => match optL ev args.toList, argTypes.toList with
      | some [u, v], t :: t' :: _ => match P.underlying t, P.underlying t' with
        | some (.slice e), some (.slice _) => appDS P e u v m new h n
        | some (.slice e), some .string => appDS P e u v m new h n
        | _, _ => none
      | _, _ => none
    | _ => none
  | .appW m new cs => match o.op with
    | .call { callee := .builtin .append, args, argTypes } => match optL ev args.toList, argTypes.toList with
      | some [u, v], t :: t' :: _ => match P.underlying t, P.underlying t' with
        | some (.slice e), some (.slice _) => appWS P e u v m new cs h n
        | some (.slice e), some .string => appWS P e u v m new cs h n
        | _, _ => none
      | _, _ => none
    | _ => none
  | .appN => match o.op with
    | .call { callee := .builtin .append, args, argTypes } => match optL ev args.toList, argTypes.toList with
      | some [u, v], t :: t' :: _ => match P.underlying t, P.underlying t' with
        | some (.slice e), some (.slice _) => appNS P e u v h n
        | some (.slice e), some .string => appNS P e u v h n
        | _, _ => none
      | _, _ => none
    | _ => none
  | .cp k row => match o.op with
    | .call { callee := .builtin .copy, args, argTypes } => match optL ev args.toList, argTypes.toList with
      | some [u, v], t :: _ => match P.underlying t with
        | some (.slice e) => cpS P e u v k row h n
        | _ => none
      | _, _ => none
    | _ => none
  | .ms len cap => match o.op with
    | .makeSlice t l c => match ev l, ev c with
      | some u, some v => msS P t u v len cap h n
      | _, _ => none
    | _ => none
  | .bs b => match o.op with
    | .convert s d x => match ev x, P.underlying s, P.underlying d with
      | some v, some (.slice e), some .string => match P.underlying e with
        | some (.int .u8) => valS h n (bsS v b h)
        | _ => none
      | _, _, _ => none
    | _ => none
  | .alt _ => none
end

/-! ### What is owed suffices -/

section
variable {P : Program}

theorem natOf_int {k : IntKind} {y : Int} {m : Nat} (h : y = (m : Int)) : natOf (.int k y) = some m := by subst h; rfl
theorem boundA_of {d l : Nat} {v : Option Value} (h : bndP d v l) : boundA d v = some l := by
  cases v with
  | none => simp [bndP] at h; simp [boundA, h]
  | some v => cases v <;> simp [bndP] at h; simp [boundA, natOf_int h]
theorem blt_of {a b : Nat} (h : a < b) : Nat.blt a b = true := by
  show Nat.ble (a + 1) b = true
  exact Nat.ble_eq_true_of_le h
theorem plainSp_of {sp : Option Nat} {off : Nat} (h : plainP sp off) : plainSp sp off = true := by
  cases sp with
  | none => rfl
  | some alt => exact beq_yes h
theorem idxS_ok {t : TypeId} {a ix v : Value} {k : Nat} {p : Prop} (e : idxS P t a ix k = some (v, p)) (hp : p) : indexAddrA P t a ix = some v := by
  unfold idxS at e
  split at e
  · rename_i h1 h2
    split at e
    · rename_i s hs
      cases e
      simp [indexAddrA, natOf_int hp.1, h2, hs, blt_of hp.2]
    · cases e
  · rename_i sp _ _ _ _ _ h2
    split at e
    · rename_i s hs
      cases e
      cases sp with
      | none => simp [indexAddrA, natOf_int hp.1, h2, hs, blt_of hp.2.1]
      | some alt => have := hp.2.2; simp only [plainP] at this; simp [indexAddrA, natOf_int hp.1, h2, hs, blt_of hp.2.1, beq_yes this]
    · cases e
  · cases e
theorem slS_ok {t : TypeId} {x v : Value} {lo hi : Option Value} {l hh o : Nat} {h : T HO} {p : Prop} (e : slS P t x lo hi l hh o = some (v, p)) (hp : p) : sliceA P t x lo hi none h = some v := by
  unfold slS at e
  split at e
  · rename_i h2
    split at e
    · rename_i s hs
      cases e
      obtain ⟨q1, q2, q3, q4, q5⟩ := hp
      subst q5
      simp [sliceA, h2, boundA_of q1, boundA_of q2, hs, capLow, Nat.ble_eq_true_of_le q3, Nat.ble_eq_true_of_le q4]
    · cases e
  · rename_i h2
    split at e
    · rename_i s hs
      cases e
      obtain ⟨q1, q2, q3, q4, q5⟩ := hp
      subst q5
      simp [sliceA, h2, boundA_of q1, boundA_of q2, hs, Nat.ble_eq_true_of_le q3, Nat.ble_eq_true_of_le q4]
    · cases e
  · cases e
theorem le_capLow (h : T HO) (e s id off alt len c : Nat) : len ≤ capLow h e s id off (some alt) len c := by
  unfold capLow
  simp only
  cases h1 : (Nat.beq alt off && Nat.beq off (c * s) && Nat.blt 0 s)
  · simp
  · simp only [cond_true]
    split
    · rename_i o _
      cases h2 : (Nat.beq o.kind 0 && o.opn && Nat.beq o.elem e && Nat.ble len (Nat.div (o.cells.length - off) s))
      · simp
      · simp only [cond_true]
        simp only [Bool.and_eq_true] at h2
        exact Nat.le_of_ble_eq_true h2.2
    · exact Nat.le_refl _
theorem sl0S_ok {t : TypeId} {x v : Value} {lo hi : Option Value} {hh : Nat} {h : T HO} {p : Prop} (e : sl0S P t x lo hi hh = some (v, p)) (hp : p) : sliceA P t x lo hi none h = some v := by
  unfold sl0S at e
  split at e
  · rename_i id off alt len c el h2
    split at e
    · rename_i s hs
      cases e
      obtain ⟨q1, q2, q3⟩ := hp
      have q4 : hh ≤ capLow h el s id off (some alt) len c := Nat.le_trans q3 (le_capLow h el s id off alt len c)
      simp [sliceA, h2, boundA_of q1, boundA_of q2, hs, Nat.ble_eq_true_of_le q4, Nat.ble_eq_true_of_le (Nat.zero_le hh)]
    · cases e
  · cases e
theorem slOS_ok {t : TypeId} {x v : Value} {lo hi : Option Value} {l hh o : Nat} {h : T HO} {p : Prop} (e : slOS P t x lo hi l hh o = some (v, p)) (hp : p) : sliceA P t x lo hi none h = some v := by
  unfold slOS at e
  split at e
  · rename_i id off alt len c el h2
    split at e
    · rename_i s hs
      cases e
      obtain ⟨q1, q2, q0, q3, q4, q5, q6, q7⟩ := hp
      subst q6 q7
      have q8 := le_capLow h el s id alt alt len c
      have q9 : hh ≤ capLow h el s id alt (some alt) len c := Nat.le_trans q4 q8
      have q10 : l < capLow h el s id alt (some alt) len c := Nat.lt_of_lt_of_le q5 q8
      simp [sliceA, h2, boundA_of q1, boundA_of q2, hs, Nat.ble_eq_true_of_le q3, Nat.ble_eq_true_of_le q9, beq_no (show l ≠ 0 by omega), beq_yes (rfl : alt = alt), blt_of q10]
    · cases e
  · cases e
theorem slES_ok {t : TypeId} {x v : Value} {lo hi : Option Value} {l o : Nat} {h : T HO} {p : Prop} (e : slES P t x lo hi l o h = some (v, p)) (hp : p) : sliceA P t x lo hi none h = some v := by
  unfold slES at e
  split at e
  · rename_i id off alt len c el h2
    split at e
    · rename_i s ob hs hob
      cases e
      obtain ⟨q1, q2, q0, q3, q6, q7, qs, q9⟩ := hp
      subst q3 q6 q7
      have q8 := le_capLow h el s id alt alt l c
      have q10 : capLow h el s id alt (some alt) l c ≤ l := by
        unfold capLow
        simp only [hob]
        cases h1 : (Nat.beq alt alt && Nat.beq alt (c * s) && Nat.blt 0 s)
        · simp
        · simp only [cond_true]
          cases h2 : (Nat.beq ob.kind 0 && ob.opn && Nat.beq ob.elem el && Nat.ble l (Nat.div (ob.cells.length - alt) s))
          · simp
          · simp only [cond_true]
            show (ob.cells.length - alt) / s ≤ l
            rw [Nat.div_le_iff_le_mul_add_pred qs]
            rw [Nat.mul_comm s l]
            omega
      have hnb : Nat.blt l (capLow h el s id alt (some alt) l c) = false := by
        cases hb : Nat.blt l (capLow h el s id alt (some alt) l c)
        · rfl
        · have : l + 1 ≤ capLow h el s id alt (some alt) l c := Nat.le_of_ble_eq_true hb
          omega
      simp [sliceA, h2, boundA_of q1, boundA_of q2, hs, Nat.ble_eq_true_of_le q8, beq_no (show l ≠ 0 by omega), beq_yes (rfl : alt = alt), hnb, Nat.ble_eq_true_of_le (Nat.le_refl l)]
    · cases e
  · cases e
theorem ldS_ok {t : TypeId} {a u v : Value} {h : T HO} {p : Prop} (e : ldS P t a u h = some (v, p)) (hp : p) : loadA P t a h = some v := by
  unfold ldS at e
  split at e
  · split at e
    · rename_i o ho
      split at e
      · rename_i cs hcs
        split at e
        · rename_i hag
          cases e
          simp [loadA, ho, hcs, partA, hag, lget_eq, hp]
        · cases e
          simp [loadA, ho, hcs, hp]
      · cases e
    · cases e
  · cases e
theorem stS_ok {t : TypeId} {a v : Value} {cs' : List Value} {h : T HO} {n : Nat} {r : Out} {p : Prop} (e : stS P t a v cs' h n = some (r, p)) (hp : p) : storeA P t a v h n = some r := by
  unfold stS at e
  split at e
  · split at e
    · rename_i o s ho hs
      split at e
      · rename_i cs hcs
        cases hro : o.ro <;> simp only [hro, Bool.not_false, Bool.not_true, cond_true, cond_false] at e
        · cases e
          obtain ⟨q1, q2, q3⟩ := hp
          simp [storeA, ho, hs, hcs, beq_yes q1, q2, hro, q3, updA]
        · cases e
      · cases e
    · cases e
  · cases e
theorem apS_ok {t : TypeId} {a v : Value} {p : Prop} (e : apS P t a = some (v, p)) (hp : p) : arrPtrA P t a = some v := by
  unfold apS at e
  split at e
  · rename_i sp _ _ _ _ h2
    cases e
    cases sp with
    | none => simp [arrPtrA, h2, Nat.ble_eq_true_of_le hp.1]
    | some alt => have := hp.2; simp only [plainP] at this; simp [arrPtrA, h2, Nat.ble_eq_true_of_le hp.1, beq_yes this]
  · cases e
theorem takeN_of {α : Type} : ∀ (n : Nat) (l : List α), n ≤ l.length → takeN n l = some (l.take n)
  | 0, l, _ => by simp [takeN_zero]
  | n + 1, [], h => by simp at h
  | n + 1, x :: r, h => by simp only [takeN_cons, takeN_of n r (by simpa using h), List.take_succ_cons]
theorem getMany_of {α : Type} {l : List α} {off n : Nat} (h : off + n ≤ l.length) : getMany l off n = some ((l.drop off).take n) := takeN_of n _ (by rw [List.length_drop]; omega)
theorem srcS_ok {s : Nat} {x : Value} {h : T HO} {new : List Value} {m : Nat} {p : Prop} (e : srcS s x h new = some (m, p)) (hp : p) : sourceA s x h = some (m, new) := by
  unfold srcS at e
  split at e
  · cases e
    obtain ⟨rfl, rfl⟩ := hp
    simp [sourceA, beq_yes]
  · rename_i id off sp len c
    split at e
    · rename_i o ho
      split at e
      · rename_i cs hcs
        cases e
        obtain ⟨q1, q2, q3⟩ := hp
        by_cases h0 : m = 0
        · subst h0
          simp at q3
          subst q3
          simp [sourceA, beq_yes]
        · subst q3
          by_cases hms : m * s = 0
          · have hg : getMany cs off (m * s) = some ((cs.drop off).take (m * s)) := by rw [hms]; simp [getMany, takeN_zero]
            simp [sourceA, beq_no h0, plainSp_of q1, rowPartA, ho, hcs, hg]
          · simp [sourceA, beq_no h0, plainSp_of q1, rowPartA, ho, hcs, getMany_of (q2.resolve_left hms)]
      · cases e
    · cases e
  · rename_i b
    cases hs : Nat.beq s 1 <;> simp only [hs, cond_true, cond_false] at e
    · cases e
    · cases e
      subst hp
      simp [sourceA, hs]
  · cases e
theorem growOk_of {a b : Nat} (h : growP a b) : growOk a b = true := by
  simp [growOk, Nat.ble_eq_true_of_le h.1, Nat.ble_eq_true_of_le h.2]
theorem appS_ok {e : TypeId} {x y : Value} {m : Nat} {new : List Value} {h : T HO} {n : Nat} {r : Out} {p : Prop} (ev : appS P e x y m new h n = some (r, p)) (hp : p) : appendA P e x y h n = some r := by
  unfold appS at ev
  split at ev
  case h_2 => cases ev
  rename_i s z hs hz
  cases hc : (Nat.beq (cellsOf z).length s && Nat.blt 0 s) <;> simp only [hc, cond_true, cond_false] at ev
  · cases ev
  split at ev
  · cases ev
  rename_i m' q hsrc
  split at ev
  · rename_i len c
    cases hb : (Nat.beq len 0 && Nat.beq c 0) <;> simp only [hb, cond_true, cond_false] at ev
    · cases ev
    cases ev
    obtain ⟨q1, rfl, q3, q4, q5⟩ := hp
    have hb' := hb
    simp only [Bool.and_eq_true] at hb'
    have h0 := Nat.eq_of_beq_eq_true hb'.1
    subst h0
    simp [appendA, hs, hz, hc, srcS_ok hsrc q1, q4, lenOfA, growOk_of q5, appendCore, hb'.2, beq_no q3, newA]
  · cases ev
theorem appOS_ok {e : TypeId} {x y : Value} {m : Nat} {new : List Value} {h : T HO} {n : Nat} {r : Out} {p : Prop} (ev : appOS P e x y m new h n = some (r, p)) (hp : p) : appendA P e x y h n = some r := by
  unfold appOS at ev
  split at ev
  case h_2 => cases ev
  rename_i s z hs hz
  cases hc : (Nat.beq (cellsOf z).length s && Nat.blt 0 s) <;> simp only [hc, cond_true, cond_false] at ev
  · cases ev
  split at ev
  · cases ev
  rename_i m' q hsrc
  split at ev
  · rename_i id len
    split at ev
    · rename_i o ho
      split at ev
      · rename_i cs hcs
        cases hb : (o.opn && Nat.beq o.elem e && !o.ro) <;> simp only [hb, cond_true, cond_false] at ev
        · cases ev
        cases ev
        obtain ⟨q1, rfl, q4, q5, q6⟩ := hp
        simp only [Bool.and_eq_true] at hb
        have hel := hb.1.2
        have hop := hb.1.1
        have hro : o.ro = false := by simpa using hb.2
        have how : ownRow e s id 0 (some 0) len 0 h = some (o, cs) := by
          simp [ownRow, ho, hcs, hro, ownB, hop, hel, beq_yes q6, beq_yes (rfl : 0 = 0)]
        simp [appendA, hs, hz, hc, srcS_ok hsrc q1, q4, lenOfA, growOk_of q5, appendCore, how]
      · cases ev
    · cases ev
  · rename_i id off len c
    split at ev
    · rename_i o cs how
      cases ev
      obtain ⟨q1, rfl, q4, q5⟩ := hp
      simp [appendA, hs, hz, hc, srcS_ok hsrc q1, q4, lenOfA, growOk_of q5, appendCore, how]
    · cases ev
  · cases ev
theorem appCS_ok {e : TypeId} {x y : Value} {m : Nat} {new : List Value} {h : T HO} {n : Nat} {r : Out} {p : Prop} (ev : appCS P e x y m new h n = some (r, p)) (hp : p) : appendA P e x y h n = some r := by
  unfold appCS at ev
  split at ev
  case h_2 => cases ev
  rename_i s z hs hz
  cases hc : (Nat.beq (cellsOf z).length s && Nat.blt 0 s) <;> simp only [hc, cond_true, cond_false] at ev
  · cases ev
  split at ev
  · cases ev
  rename_i m' q hsrc
  split at ev
  · rename_i id off len c
    split at ev
    · rename_i o ho
      split at ev
      · rename_i cs hcs
        cases hb : !o.ro <;> simp only [hb, cond_true, cond_false] at ev
        · cases ev
        cases ev
        obtain ⟨q1, rfl, q2, q3, q4, q5, q6⟩ := hp
        have hro : o.ro = false := by simpa using hb
        have how : ownRow e s id off none len c h = none := by
          have : ownB e s o off none len c cs = false := by
            rcases q3 with q3 | q3 <;> simp [ownB, beq_no q3]
          simp [ownRow, ho, hcs, this]
        have hnm : (Nat.beq m' 0 && Nat.ble len c && fixSp none) = false := by
          cases hm0 : Nat.beq m' 0
          · rfl
          · have := Nat.eq_of_beq_eq_true hm0
            have : Nat.ble len c = false := by
              cases hb2 : Nat.ble len c
              · rfl
              · have := Nat.le_of_ble_eq_true hb2; omega
            simp [this]
        have hnb : Nat.ble (len + m') c = false := by
          cases hb : Nat.ble (len + m') c
          · rfl
          · have := Nat.le_of_ble_eq_true hb; omega
        simp [appendA, hs, hz, hc, srcS_ok hsrc q1, q4, lenOfA, growOk_of q5, appendCore, how, hnm, ho, hcs, hro, capLow, hnb, getMany_of q6, newA]
      · cases ev
    · cases ev
  · cases ev
theorem appDS_ok {e : TypeId} {x y : Value} {m : Nat} {new : List Value} {h : T HO} {n : Nat} {r : Out} {p : Prop} (ev : appDS P e x y m new h n = some (r, p)) (hp : p) : appendA P e x y h n = some r := by
  unfold appDS at ev
  split at ev
  case h_2 => cases ev
  rename_i s z hs hz
  cases hc : (Nat.beq (cellsOf z).length s && Nat.blt 0 s) <;> simp only [hc, cond_true, cond_false] at ev
  · cases ev
  split at ev
  · cases ev
  rename_i m' q hsrc
  split at ev
  · rename_i id off len c
    split at ev
    · rename_i o ho
      split at ev
      · rename_i cs hcs
        cases hb : !o.ro <;> simp only [hb, cond_true, cond_false] at ev
        · cases ev
        cases ev
        obtain ⟨q1, rfl, q2, q3, q4, q5, q6⟩ := hp
        have hro : o.ro = false := by simpa using hb
        have how : ownRow e s id off none len c h = none := by
          have : ownB e s o off none len c cs = false := by
            simp [ownB, beq_no q3]
          simp [ownRow, ho, hcs, this]
        have hnm : (Nat.beq m' 0 && Nat.ble len c && fixSp none) = false := by
          cases hm0 : Nat.beq m' 0
          · rfl
          · have := Nat.eq_of_beq_eq_true hm0
            have : Nat.ble len c = false := by
              cases hb2 : Nat.ble len c
              · rfl
              · have := Nat.le_of_ble_eq_true hb2; omega
            simp [this]
        have hnb : Nat.ble (len + m') c = false := by
          cases hb : Nat.ble (len + m') c
          · rfl
          · have := Nat.le_of_ble_eq_true hb; omega
        simp [appendA, hs, hz, hc, srcS_ok hsrc q1, q4, lenOfA, growOk_of q5, appendCore, how, hnm, ho, hcs, hro, capLow, hnb, getMany_of q6, newA]
      · cases ev
    · cases ev
  · cases ev
theorem appWS_ok {e : TypeId} {x y : Value} {m : Nat} {new cs' : List Value} {h : T HO} {n : Nat} {r : Out} {p : Prop} (ev : appWS P e x y m new cs' h n = some (r, p)) (hp : p) : appendA P e x y h n = some r := by
  unfold appWS at ev
  split at ev
  case h_2 => cases ev
  rename_i s z hs hz
  cases hc : (Nat.beq (cellsOf z).length s && Nat.blt 0 s) <;> simp only [hc, cond_true, cond_false] at ev
  · cases ev
  split at ev
  · cases ev
  rename_i m' q hsrc
  split at ev
  · rename_i id off len c
    split at ev
    · rename_i o ho
      split at ev
      · rename_i cs hcs
        cases hb : !o.ro <;> simp only [hb, cond_true, cond_false] at ev
        · cases ev
        cases ev
        obtain ⟨q1, rfl, q2, q3, q4, q5, q6⟩ := hp
        have hro : o.ro = false := by simpa using hb
        have hlc : Nat.beq len c = false := beq_no (by omega)
        have how : ownRow e s id off none len c h = none := by
          have : ownB e s o off none len c cs = false := by
            simp [ownB, hlc]
          simp [ownRow, ho, hcs, this]
        have hm0 : Nat.beq m' 0 = false := beq_no (by omega)
        have hnb : Nat.ble (len + m') c = true := Nat.ble_eq_true_of_le q3
        simp [appendA, hs, hz, hc, srcS_ok hsrc q1, q4, lenOfA, growOk_of q5, appendCore, how, hm0, ho, hcs, hro, capLow, hnb, q6, updA]
      · cases ev
    · cases ev
  · cases ev
theorem appNS_ok {e : TypeId} {x y : Value} {h : T HO} {n : Nat} {r : Out} {p : Prop} (ev : appNS P e x y h n = some (r, p)) (hp : p) : appendA P e x y h n = some r := by
  unfold appNS at ev
  split at ev
  case h_2 => cases ev
  rename_i s z hs hz
  cases hc : (Nat.beq (cellsOf z).length s && Nat.blt 0 s) <;> simp only [hc, cond_true, cond_false] at ev
  · cases ev
  split at ev
  · cases ev
  rename_i m' q hsrc
  split at ev
  · rename_i id off len c
    split at ev
    · rename_i o ho
      split at ev
      · rename_i cs hcs
        cases ev
        obtain ⟨q1, rfl, q2, q3, q5⟩ := hp
        have how : ownRow e s id off none len c h = none := by
          have : ownB e s o off none len c cs = false := by
            rcases q3 with q3 | q3
            · have hlc : Nat.beq len c = false := beq_no (by omega)
              simp [ownB, hlc]
            · simp [ownB, beq_no q3]
          simp [ownRow, ho, hcs, this]
        have hnb : Nat.ble len c = true := Nat.ble_eq_true_of_le (by omega)
        simp [appendA, hs, hz, hc, srcS_ok hsrc q1, lenOfA, growOk_of q5, appendCore, how, hnb, fixSp]
      · cases ev
    · cases ev
  · cases ev
theorem all_take {l : List Value} {k : Nat} : (l.take k).all one = ((l.take k).all one) := rfl
theorem cpS_ok {e : TypeId} {x y : Value} {k : Nat} {row : List Value} {h : T HO} {n : Nat} {r : Out} {p : Prop} (ev : cpS P e x y k row h n = some (r, p)) (hp : p) : copyA P e x y h n = some r := by
  unfold cpS at ev
  split at ev
  · cases ev
  rename_i s hs
  split at ev
  · cases ev
  split at ev
  case h_2 => cases ev
  rename_i id off sp len c
  split at ev
  case h_2 => cases ev
  rename_i o ho
  split at ev
  case h_2 => cases ev
  rename_i row0 hrow
  split at ev
  · rename_i id2 off2 sp2 len2 c2 _
    split at ev
    case h_2 => cases ev
    rename_i o2 ho2
    split at ev
    case h_2 => cases ev
    rename_i cs hcs
    cases hb : !o.ro <;> simp only [hb, cond_true, cond_false] at ev
    · cases ev
    cases ev
    obtain ⟨q1, q2, q3, q4, q5, q6, q7⟩ := hp
    have hro : o.ro = false := by simpa using hb
    have hlen2 : len2 ≠ 0 := by omega
    have hsrc : sourceA s (.slice (some ⟨id2, off2, sp2⟩) len2 c2) h = some (len2, (cs.drop off2).take (len2 * s)) := by
      simp [sourceA, beq_no hlen2, plainSp_of q2, rowPartA, ho2, hcs, getMany_of q5]
    have hk : Nat.min len2 len = k := q3.symm
    have hle : k * s ≤ ((cs.drop off2).take (len2 * s)).length := by
      rw [List.length_take, List.length_drop]
      have : k * s ≤ len2 * s := Nat.mul_le_mul_right _ (by omega)
      omega
    have htk : takeN (k * s) ((cs.drop off2).take (len2 * s)) = some ((cs.drop off2).take (k * s)) := by
      rw [takeN_of _ _ hle, List.take_take]
      have : k * s ≤ len2 * s := Nat.mul_le_mul_right _ (by omega)
      rw [Nat.min_eq_left this]
    simp [copyA, hs, hsrc, hk, beq_no q4, plainSp_of q1, ho, htk, hrow, q6, hro, q7, updA]
  · rename_i b _
    cases hb : (Nat.beq s 1 && !o.ro) <;> simp only [hb, cond_true, cond_false] at ev
    · cases ev
    cases ev
    simp only [Bool.and_eq_true] at hb
    obtain ⟨q1, q3, q4, q7⟩ := hp
    have hro : o.ro = false := by simpa using hb.2
    have h1 := Nat.eq_of_beq_eq_true hb.1
    subst h1
    have hsrc : sourceA 1 (.string b) h = some (b.size, bytesOf b) := rfl
    have hbl : (bytesOf b).length = b.size := by simp [bytesOf]
    have htk : takeN k (bytesOf b) = some ((bytesOf b).take k) := takeN_of _ _ (by rw [hbl]; omega)
    have hone : ((bytesOf b).take k).all one = true := List.all_eq_true.2 fun v hv => by
      have := List.mem_of_mem_take hv
      simp only [bytesOf, List.mem_map] at this
      obtain ⟨_, _, rfl⟩ := this
      rfl
    generalize bytesOf b = B at *
    have hk : Nat.min b.size len = k := q3.symm
    generalize b.size = m at *
    simp only [copyA, hs, hsrc, hk, beq_no q4, plainSp_of q1, ho, Nat.mul_one, htk, hrow, hone, hro, q7, updA, cond_true, cond_false, Bool.not_false, Bool.and_self]
  · cases ev
theorem msS_ok {t : TypeId} {l c : Value} {len cap : Nat} {h : T HO} {n : Nat} {r : Out} {p : Prop} (e : msS P t l c len cap h n = some (r, p)) (hp : p) : makeSliceA P t l c h n = some r := by
  unfold msS at e
  split at e
  · rename_i el _ x _ y h1
    split at e
    · rename_i s z hs hz
      cases hb : Nat.beq (cellsOf z).length s <;> simp only [hb, cond_true, cond_false] at e
      · cases e
      cases e
      obtain ⟨q1, q2, q3, q4, q5⟩ := hp
      have q4' : cap * (match P.info? el with | some i => i.bytes | none => 0) ≤ 1000000 := q4
      simp [makeSliceA, h1, natOf_int q1, natOf_int q2, hs, hz, hb, Nat.ble_eq_true_of_le q3, Nat.ble_eq_true_of_le q5, newA]
      show (bif Nat.ble (cap * bytesA P el) 1000000 then _ else _) = _
      rw [Nat.ble_eq_true_of_le q4]
      rfl
    · cases e
  · cases e
theorem bsS_ok {x v : Value} {b : List UInt8} {h : T HO} {p : Prop} (e : bsS x b h = some (v, p)) (hp : p) : bytesToStrA x h = some v := by
  unfold bsS at e
  split at e
  · rename_i id off sp len c
    split at e
    · rename_i o ho
      split at e
      · rename_i cs hcs
        cases e
        obtain ⟨q1, q2, q3⟩ := hp
        have hsrc : sourceA 1 (.slice (some ⟨id, off, sp⟩) len c) h = some (len, (cs.drop off).take (len * 1)) :=
          srcS_ok (p := plainP sp off ∧ fitP off (len * 1) cs.length ∧ (cs.drop off).take (len * 1) = (cs.drop off).take (len * 1)) (by simp [srcS, ho, hcs]) ⟨q1, q2, rfl⟩
        simp only [bytesToStrA, hsrc, q3]
      · cases e
    · cases e
  · cases e
theorem valS_eq {h : T HO} {n : Nat} {x : Option (Value × Prop)} {r : Out} {p : Prop} (e : valS h n x = some (r, p)) : ∃ v, x = some (v, p) ∧ r = ⟨v, h, n, []⟩ := by
  cases x with
  | none => cases e
  | some y => obtain ⟨v, q⟩ := y; simp only [valS, Option.some.injEq, Prod.mk.injEq] at e; exact ⟨v, by rw [e.2], e.1.symm⟩
theorem orElse_some {a b : Option Out} {r : Out} (h : a = some r) : orElse a b = some r := by rw [h]; rfl
theorem opS_ok {c : Ch} {o : Oper} {ev : Operand → Option Value} {h : T HO} {n : Nat} {r : Out} {p : Prop} (e : opS P c o ev h n = some (r, p)) (hp : p) : opA P o ev h n = some r := by
  cases c with
  | val v =>
    simp only [opS] at e
    split at e
    · rename_i r' hr
      simp only [Option.some.injEq, Prod.mk.injEq] at e
      obtain ⟨rfl, rfl⟩ := e
      rw [hr, ← hp]
    · cases e
  | out f =>
    simp only [opS, Option.some.injEq, Prod.mk.injEq] at e
    obtain ⟨rfl, rfl⟩ := e
    exact hp
  | idx k =>
    simp only [opS] at e
    split at e
    · rename_i t x i ho
      split at e
      · rename_i u v hu hv
        obtain ⟨w, h1, rfl⟩ := valS_eq e
        exact orElse_some (by simp only [specA, ho, hu, hv, idxS_ok h1 hp, valOut])
      · cases e
    · cases e
  | sl l hh off =>
    simp only [opS] at e
    split at e
    · rename_i t x lo hi ho
      split at e
      · rename_i v a b hv ha hb
        obtain ⟨w, h1, rfl⟩ := valS_eq e
        exact orElse_some (by simp [specA, ho, hv, ha, hb, slS_ok h1 hp, valOut, optL_nil])
      · cases e
    · cases e
  | sl0 hh =>
    simp only [opS] at e
    split at e
    · rename_i t x lo hi ho
      split at e
      · rename_i v a b hv ha hb
        obtain ⟨w, h1, rfl⟩ := valS_eq e
        exact orElse_some (by simp [specA, ho, hv, ha, hb, sl0S_ok h1 hp, valOut, optL_nil])
      · cases e
    · cases e
  | slO l hh off =>
    simp only [opS] at e
    split at e
    · rename_i t x lo hi ho
      split at e
      · rename_i v a b hv ha hb
        obtain ⟨w, h1, rfl⟩ := valS_eq e
        exact orElse_some (by simp [specA, ho, hv, ha, hb, slOS_ok h1 hp, valOut, optL_nil])
      · cases e
    · cases e
  | slE l off =>
    simp only [opS] at e
    split at e
    · rename_i t x lo hi ho
      split at e
      · rename_i v a b hv ha hb
        obtain ⟨w, h1, rfl⟩ := valS_eq e
        exact orElse_some (by simp [specA, ho, hv, ha, hb, slES_ok h1 hp, valOut, optL_nil])
      · cases e
    · cases e
  | ld w =>
    simp only [opS] at e
    split at e
    · rename_i t a ho
      split at e
      · rename_i u hu
        obtain ⟨w', h1, rfl⟩ := valS_eq e
        have hw : w' = w := by
          unfold ldS at h1
          split at h1
          · split at h1
            · split at h1
              · split at h1 <;> (cases h1; rfl)
              · cases h1
            · cases h1
          · cases h1
        subst hw
        exact orElse_some (by simp only [specA, ho, hu, ldS_ok h1 hp, valOut])
      · cases e
    · cases e
  | st cs =>
    simp only [opS] at e
    split at e
    · rename_i t a x ho
      split at e
      · rename_i u v hu hv
        exact orElse_some (by simp only [specA, ho, hu, hv, stS_ok e hp])
      · cases e
    · cases e
  | ap =>
    simp only [opS] at e
    split at e
    · rename_i t x ho
      split at e
      · rename_i u hu
        obtain ⟨w, h1, rfl⟩ := valS_eq e
        exact orElse_some (by simp only [specA, ho, hu, apS_ok h1 hp, valOut])
      · cases e
    · cases e
  | app m new =>
    simp only [opS] at e
    split at e
    · rename_i args ats ho
      split at e
      · rename_i u v t t' r' ha ht
        split at e
        · rename_i el el' h1 h2
          exact orElse_some (by simp only [specA, ho, ha, ht, h1, h2, appS_ok e hp])
        · rename_i el h1 h2
          exact orElse_some (by simp only [specA, ho, ha, ht, h1, h2, appS_ok e hp])
        · cases e
      · cases e
    · cases e
  | appO m new =>
    simp only [opS] at e
    split at e
    · rename_i args ats ho
      split at e
      · rename_i u v t t' r' ha ht
        split at e
        · rename_i el el' h1 h2
          exact orElse_some (by simp only [specA, ho, ha, ht, h1, h2, appOS_ok e hp])
        · rename_i el h1 h2
          exact orElse_some (by simp only [specA, ho, ha, ht, h1, h2, appOS_ok e hp])
        · cases e
      · cases e
    · cases e
  | appC m new =>
    simp only [opS] at e
    split at e
    · rename_i args ats ho
      split at e
      · rename_i u v t t' r' ha ht
        split at e
        · rename_i el el' h1 h2
          exact orElse_some (by simp only [specA, ho, ha, ht, h1, h2, appCS_ok e hp])
        · rename_i el h1 h2
          exact orElse_some (by simp only [specA, ho, ha, ht, h1, h2, appCS_ok e hp])
        · cases e
      · cases e
    · cases e
  | appD m new =>
    simp only [opS] at e
    split at e
    · rename_i args ats ho
      split at e
      · rename_i u v t t' r' ha ht
        split at e
        · rename_i el el' h1 h2
          exact orElse_some (by simp only [specA, ho, ha, ht, h1, h2, appDS_ok e hp])
        · rename_i el h1 h2
          exact orElse_some (by simp only [specA, ho, ha, ht, h1, h2, appDS_ok e hp])
        · cases e
      · cases e
    · cases e
  | appW m new cs =>
    simp only [opS] at e
    split at e
    · rename_i args ats ho
      split at e
      · rename_i u v t t' r' ha ht
        split at e
        · rename_i el el' h1 h2
          exact orElse_some (by simp only [specA, ho, ha, ht, h1, h2, appWS_ok e hp])
        · rename_i el h1 h2
          exact orElse_some (by simp only [specA, ho, ha, ht, h1, h2, appWS_ok e hp])
        · cases e
      · cases e
    · cases e
  | appN =>
    simp only [opS] at e
    split at e
    · rename_i args ats ho
      split at e
      · rename_i u v t t' r' ha ht
        split at e
        · rename_i el el' h1 h2
          exact orElse_some (by simp only [specA, ho, ha, ht, h1, h2, appNS_ok e hp])
        · rename_i el h1 h2
          exact orElse_some (by simp only [specA, ho, ha, ht, h1, h2, appNS_ok e hp])
        · cases e
      · cases e
    · cases e
  | cp k row =>
    simp only [opS] at e
    split at e
    · rename_i args ats ho
      split at e
      · rename_i u v t r' ha ht
        split at e
        · rename_i el h1
          exact orElse_some (by simp only [specA, ho, ha, ht, h1, cpS_ok e hp])
        · cases e
      · cases e
    · cases e
  | ms len cap =>
    simp only [opS] at e
    split at e
    · rename_i t l c ho
      split at e
      · rename_i u v hu hv
        exact orElse_some (by simp only [specA, ho, hu, hv, msS_ok e hp])
      · cases e
    · cases e
  | bs b =>
    simp only [opS] at e
    split at e
    · rename_i s d x ho
      split at e
      · rename_i v el hv h1 h2
        split at e
        · rename_i h3
          obtain ⟨w, g1, rfl⟩ := valS_eq e
          have hsl : ∃ a l c, v = .slice a l c := by
            unfold bsS at g1
            split at g1
            · exact ⟨_, _, _, rfl⟩
            · cases g1
          obtain ⟨a, l, c, rfl⟩ := hsl
          exact orElse_some (by simp only [specA, ho, hv, h1, h2, h3, bsS_ok g1 hp, valOut])
        · cases e
      · cases e
    · cases e
  | alt j => cases e
end
end Go.Proofs.YtefnfbidphmgoaaDoor.Ex
