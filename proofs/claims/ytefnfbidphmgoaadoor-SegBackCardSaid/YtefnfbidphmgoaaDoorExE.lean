/- A reckoner for runs of fixed texts, fifth part: the operations on values, on variables, and those that make objects. No conditions. -/
import Derived.Test.YtefnfbidphmgoaaDoorExD
set_option linter.unusedVariables false
set_option linter.unusedSimpArgs false
namespace Go.Proofs.YtefnfbidphmgoaaDoor.Ex
open Go Go.RowKit

/-! ### Sem, as it is asked here -/

section
variable {P : Program}
theorem pureEval_run {α : Type} : ∀ (s : Sem α) (x : α) (w : World), pureEval P s = some x → s.run P w = .ok x w
  | .pure a, x, w, h => by simp [pureEval] at h; subst h; rfl
  | .program k, x, w, h => by simp only [pureEval] at h; simp only [Sem.run]; exact pureEval_run (k P) x w h
  | .mark _ k, x, w, h => by simp only [pureEval] at h; simp only [Sem.run]; exact pureEval_run k x w h
  | .load .., _, _, h => by simp [pureEval] at h
  | .store .., _, _, h => by simp [pureEval] at h
  | .new .., _, _, h => by simp [pureEval] at h
  | .shape .., _, _, h => by simp [pureEval] at h
  | .freeze .., _, _, h => by simp [pureEval] at h
  | .frozen .., _, _, h => by simp [pureEval] at h
  | .getObj .., _, _, h => by simp [pureEval] at h
  | .setObj .., _, _, h => by simp [pureEval] at h
  | .choose .., _, _, h => by simp [pureEval] at h
  | .sys .., _, _, h => by simp [pureEval] at h
  | .halt _, _, _, h => by simp [pureEval] at h

theorem sizeA_info {t : TypeId} {s : Nat} (h : sizeA P t = some s) : ∃ i, P.info? t = some i ∧ i.size = s := by
  unfold sizeA at h
  split at h
  · rename_i i hi; exact ⟨i, hi, by simpa using h⟩
  · cases h
theorem run_sizeA {t : TypeId} {s : Nat} (h : sizeA P t = some s) (w : World) : (sizeOf t).run P w = .ok s w := by
  obtain ⟨i, hi, rfl⟩ := sizeA_info h
  simp [sizeOf, typeInfo, hi]
theorem zeroA_info {t : TypeId} {z : Value} (h : zeroA P t = some z) : ∃ i, P.info? t = some i ∧ i.zero = some z ∧ closed DC z = true := by
  unfold zeroA at h
  split at h
  · rename_i i hi
    split at h
    · rename_i z' hz
      cases hc : closed DC z' <;> simp [hc] at h
      subst h
      exact ⟨i, hi, hz, hc⟩
    · cases h
  · cases h
theorem run_zeroA {t : TypeId} {z : Value} (h : zeroA P t = some z) (w : World) : (zeroValue t).run P w = .ok z w := by
  obtain ⟨i, hi, hz, _⟩ := zeroA_info h
  simp [zeroValue, typeInfo, hi, hz]
theorem run_under {t : TypeId} {d : TypeDesc} (h : P.underlying t = some d) (w : World) : (underlying t).run P w = .ok d w := by simp [underlying, h]
theorem run_isAggA {t : TypeId} {b : Bool} (h : isAggA P t = some b) (w : World) : (isAgg t).run P w = .ok b w := by
  unfold isAggA at h
  cases hu : P.underlying t with
  | none => simp [hu] at h
  | some d =>
    simp only [hu] at h
    simp only [isAgg, Sem.run_bind, run_under hu, Result.andThen_ok]
    cases d <;> simp_all
end

section
variable {P : Program} {ε : Nat → Option Value} {base : Base} {ρ : Rho} {w : World}

/-- An operation's run, with a value or without. -/
def Runs (P : Program) (e : Operand → Value) (o : Oper) (w : World) (V : Value) (w' : World) : Prop :=
  (execOp e o).run P w = .ok (.value V) w' ∨ ((execOp e o).run P w = .ok .skip w' ∧ V = undef)
/-- What an operation comes to, as the reckoner says. -/
def Good (P : Program) (ε : Nat → Option Value) (base : Base) (ρ : Rho) (w : World) (h : T HO) (n : Nat) (r : Out) (V : Value) (w' : World) : Prop :=
  ∃ ρ', Step P ε base ρ w (tget h) n ρ' w' (tget r.heap) r.next r.ws ∧ Rl ρ' ε r.v V

theorem add_at (b off k : Nat) : (⟨b, off, none⟩ : Addr).add k = ⟨b, off + k, none⟩ := by unfold Addr.add; split <;> simp_all
theorem cell_row {b : Nat} {cs tl : List Value} {el : TypeId} {fr : Nat × Nat} (h : w.heap[b]? = some (.cells (cs ++ tl).toArray el fr)) (i : Nat) (hi : i < cs.length) : w.cell? ⟨b, i, none⟩ = some cs[i] := by
  simp only [World.cell?, h]
  simp [List.getElem?_append_left hi]
/-- A row that the reckoner knows: its block. -/
theorem Mod.row {h : T HO} (hm : Mod P ρ ε base w (tget h)) {id : Nat} {o : HO} {cs : List Value} (ho : tget h id = some o) (hr : o.asRow = some cs) :
    ∃ b CS tl el fr, ρ id = some b ∧ b.1 < w.heap.size ∧ w.heap[b.1]? = some (.cells (CS ++ tl).toArray el fr) ∧ RlL ρ ε cs CS ∧ cs = o.cells ∧ o.kind = 0 ∧ (o.opn = false → tl = []) ∧
      (o.ro = false → el = o.elem ∧ FrOk fr (CS ++ tl).length ∧ (o.mkd = false → fr.1 = fr.2)) ∧ (o.opn = true → ∀ s, sizeA P o.elem = some s → (CS ++ tl).length = b.2 * s) ∧ (o.ro = false → base.n ≤ b.1) := by
  obtain ⟨b, h1, h2, h3, h4⟩ := hm.obj id o ho
  have hk : o.kind = 0 ∧ cs = o.cells := by
    unfold HO.asRow at hr
    cases hb : Nat.beq o.kind 0 <;> simp [hb] at hr
    exact ⟨Nat.eq_of_beq_eq_true hb, hr.symm⟩
  unfold ObjR at h3
  rw [if_pos hk.1] at h3
  obtain ⟨CS, tl, el, fr, g1, g2, g3, g4, g5⟩ := h3
  exact ⟨b, CS, tl, el, fr, h1, h2, g1, by rw [hk.2]; exact g2, hk.2, hk.1, g3, g4, g5, h4⟩
theorem Mod.mapO {h : T HO} (hm : Mod P ρ ε base w (tget h)) {id : Nat} {o : HO} {es : List (Value × Value × Nat)} (ho : tget h id = some o) (hr : o.asMap = some es) :
    ∃ b ES, ρ id = some b ∧ b.1 < w.heap.size ∧ w.heap[b.1]? = some (.map ES.toArray o.clock) ∧ EntR ρ ε es ES ∧ es = o.entries ∧ o.kind = 1 ∧ (o.ro = false → base.n ≤ b.1) := by
  obtain ⟨b, h1, h2, h3, h4⟩ := hm.obj id o ho
  have hk : o.kind = 1 ∧ es = o.entries := by
    unfold HO.asMap at hr
    cases hb : Nat.beq o.kind 1 <;> simp [hb] at hr
    exact ⟨Nat.eq_of_beq_eq_true hb, hr.symm⟩
  unfold ObjR at h3
  rw [if_neg (by omega), if_pos hk.1] at h3
  obtain ⟨ES, g1, g2⟩ := h3
  exact ⟨b, ES, h1, h2, g1, by rw [hk.2]; exact g2, hk.2, hk.1, h4⟩

theorem Mod.iterO {h : T HO} (hm : Mod P ρ ε base w (tget h)) {id : Nat} {o : HO} {ns : List Nat} (ho : tget h id = some o) (hr : o.asIter = some ns) :
    ∃ b, ρ id = some b ∧ b.1 < w.heap.size ∧ IterR ρ o w.heap[b.1]? ∧ ns = o.nats ∧ o.kind = 2 ∧ (o.ro = false → base.n ≤ b.1) := by
  obtain ⟨b, h1, h2, h3, h4⟩ := hm.obj id o ho
  have hk : o.kind = 2 ∧ ns = o.nats := by
    unfold HO.asIter at hr
    cases hb : Nat.beq o.kind 2 <;> simp [hb] at hr
    exact ⟨Nat.eq_of_beq_eq_true hb, hr.symm⟩
  unfold ObjR at h3
  rw [if_neg (by omega), if_neg (by omega)] at h3
  exact ⟨b, h1, h2, h3.2, hk.2, hk.1, h4⟩
/-- A new row: what its object is. -/
theorem ObjR.row {c : Nat} {cells CS : List Value} {el : TypeId} (h : RlL ρ ε cells CS) : ObjR P ρ ε c (rowO cells el false) (some (.cells CS.toArray el)) := by
  unfold ObjR rowO
  simp only [if_true]
  exact ⟨CS, [], el, (0, 0), by simp, h, fun _ => rfl, fun _ => ⟨rfl, .inl rfl, fun _ => rfl⟩, fun h => by cases h⟩
theorem RlL_closed {d : Nat} : ∀ (l : List Value), l.all (closed d) = true → RlL ρ ε l l
  | [], _ => trivial
  | v :: r, h => by simp only [List.all_cons, Bool.and_eq_true] at h; exact ⟨Rl_closed h.1, RlL_closed r h.2⟩
theorem cells_cellsOf (v : Value) : v.cells.toList = cellsOf v := by cases v <;> rfl
theorem RlL_zero (hε : ∀ i V, ε i = some V → one V = true) {z : Value} (h : closed DC z = true) : RlL ρ ε (cellsOf z) (cellsOf z) := by
  have := (Rl_closed (ρ := ρ) (ε := ε) h).cells hε
  rwa [cells_cellsOf] at this
theorem newA_eq {v : Value} {o : HO} {h : T HO} {n : Nat} {r : Out} (e : newA v o h n = some r) : r = ⟨v, tput h n (some o), n + 1, [n]⟩ := by simpa [newA, eq_comm] using e
theorem updA_eq {v : Value} {id : Nat} {o : HO} {h : T HO} {n : Nat} {r : Out} (e : updA v id o h n = some r) : r = ⟨v, tput h id (some o), n, [id]⟩ := by simpa [updA, eq_comm] using e
theorem valOut_eq {h : T HO} {n : Nat} {v : Option Value} {r : Out} (e : valOut h n v = some r) : ∃ u, v = some u ∧ r = ⟨u, h, n, []⟩ := by
  cases v with
  | none => simp [valOut] at e
  | some u => exact ⟨u, rfl, by simpa [valOut, eq_comm] using e⟩
/-- A new object at the heap's end: pointer, slice or map. -/
theorem Good.new {h : T HO} {n c : Nat} {o : HO} {ob : Obj} {v V : Value} {r : Out} (e : newA v o h n = some r) (hm : Mod P ρ ε base w (tget h)) (hf : ∀ id, n ≤ id → id < r.next → ρ id = none) (hb : base.n ≤ w.heap.size)
    (hr : ObjR P ρ ε c o (some ob)) (hv : Rl (upR ρ n (w.heap.size, c)) ε v V) : Good P ε base ρ w h n r V (w.alloc ob) := by
  have he := newA_eq e
  subst he
  exact ⟨_, Step.new hm (hf n (Nat.le_refl _) (by simp)) hb rfl rfl rfl rfl hr, hv⟩
theorem Good.val {h : T HO} {n : Nat} {v V : Value} (hm : Mod P ρ ε base w (tget h)) (hv : Rl ρ ε v V) : Good P ε base ρ w h n ⟨v, h, n, []⟩ V w := ⟨ρ, Step.refl hm, hv⟩

theorem alloc_ok (hε : ∀ i V, ε i = some V → one V = true) {elem : TypeId} {h : T HO} {n : Nat} {r : Out} (e : allocA P elem h n = some r) (hm : Mod P ρ ε base w (tget h)) (hf : ∀ id, n ≤ id → id < r.next → ρ id = none) (hb : base.n ≤ w.heap.size) :
    ∃ V w', (Instr.alloc elem true (.tuple #[])).run P w = .ok V w' ∧ Good P ε base ρ w h n r V w' := by
  unfold allocA at e
  split at e
  · rename_i z hz
    obtain ⟨i, hi, hiz, hc⟩ := zeroA_info hz
    refine ⟨.pointer (some ⟨w.heap.size, 0, none⟩), w.alloc (.cells (cellsOf z).toArray elem), ?_, Good.new (c := 0) e hm hf hb (ObjR.row (RlL_zero hε hc)) (Rl_ptr.2 ⟨_, by simp [upR]; rfl, rfl⟩)⟩
    simp [Instr.alloc, run_zeroA hz, newVar, newRow, ← cells_cellsOf]
  · cases e
theorem box_ok (hε : ∀ i V, ε i = some V → one V = true) {elem : TypeId} {v U : Value} {h : T HO} {n : Nat} {r : Out} (e : boxA elem v h n = some r) (hv : Rl ρ ε v U) (hm : Mod P ρ ε base w (tget h)) (hf : ∀ id, n ≤ id → id < r.next → ρ id = none) (hb : base.n ≤ w.heap.size) :
    ∃ V w', (Instr.box elem U).run P w = .ok V w' ∧ Good P ε base ρ w h n r V w' := by
  refine ⟨.pointer (some ⟨w.heap.size, 0, none⟩), w.alloc (.cells U.cells elem), by simp [Instr.box, newVar, newRow], Good.new (c := 0) e hm hf hb ?_ (Rl_ptr.2 ⟨_, by simp [upR]; rfl, rfl⟩)⟩
  have := ObjR.row (P := P) (c := 0) (el := elem) (hv.cells hε)
  simpa using this

/-! #### Parts -/

theorem partA_ok {t : TypeId} {cs CS : List Value} {off : Nat} {v : Value} (e : partA P t cs off = some v) (h : RlL ρ ε cs CS) (w : World) :
    ∃ V, (part t CS.toArray off).run P w = .ok V w ∧ Rl ρ ε v V := by
  unfold partA at e
  split at e
  · rename_i ha
    split at e
    · rename_i s hs
      split at e
      · rename_i l hl
        obtain ⟨e1, e2, e3⟩ := getMany_eq hl
        cases e
        refine ⟨.agg (CS.toArray.extract off (off + s)), by simp [part, run_isAggA ha, run_sizeA hs], Rl_agg.2 ⟨((CS.drop off).take s), ?_, ?_⟩⟩
        · congr 1
          apply Array.ext'
          simp [List.extract_eq_take_drop]
        · simp only [e1]; exact (h.drop off).take s
      · cases e
    · cases e
  · rename_i ha
    rw [lget_eq] at e
    obtain ⟨V, hV, hR⟩ := h.get off v e
    exact ⟨V, by simp [part, run_isAggA ha, hV], hR⟩
  · cases e
theorem loadCells_row {b : Nat} {CS tl : List Value} {el : TypeId} {fr : Nat × Nat} (h : w.heap[b]? = some (.cells (CS ++ tl).toArray el fr)) (off n : Nat) (hn : 0 < n → off + n ≤ CS.length) :
    (loadCells ⟨b, off, none⟩ n).run P w = .ok ((CS.drop off).take n).toArray w := by
  have hl : ((CS.drop off).take n).length = n := by
    simp only [List.length_take, List.length_drop]
    rcases Nat.eq_zero_or_pos n with h0 | h0
    · omega
    · have := hn h0; omega
  have := run_loadCells_list (P := P) w ⟨b, off, none⟩ ((CS.drop off).take n) (fun j v hj => by
    have hjl : j < n := by
      rcases Nat.lt_or_ge j n with h' | h'
      · exact h'
      · rw [List.getElem?_eq_none (by omega)] at hj; cases hj
    have hlt : off + j < CS.length := by have := hn (by omega); omega
    rw [add_at, cell_row h _ hlt]
    rw [List.getElem?_take, if_pos hjl, List.getElem?_drop, List.getElem?_eq_getElem hlt] at hj
    exact hj)
  rwa [hl] at this
theorem load_ok {t : TypeId} {a v A : Value} {h : T HO} (e : loadA P t a h = some v) (ha : Rl ρ ε a A) (hm : Mod P ρ ε base w (tget h)) :
    ∃ V, (Instr.loadAt t A).run P w = .ok V w ∧ Rl ρ ε v V := by
  unfold loadA at e
  split at e
  · rename_i id off
    split at e
    · rename_i o ho
      split at e
      · rename_i cs hcs
        obtain ⟨b, hb, rfl⟩ := Rl_ptr.1 ha
        obtain ⟨b', CS, tl, el, fr, g1, g2, g3, g4, -⟩ := hm.row ho hcs
        rw [hb] at g1; cases g1
        unfold partA at e
        split at e
        · rename_i hagg
          split at e
          · rename_i s hs
            split at e
            · rename_i l hl
              obtain ⟨e1, e2, e3⟩ := getMany_eq hl
              cases e
              have hlen := g4.length
              refine ⟨.agg ((CS.drop off).take s).toArray, ?_, Rl_agg.2 ⟨_, rfl, by simp only [e1]; exact (g4.drop off).take s⟩⟩
              simp [Instr.loadAt, Instr.sureAddr, loadVar, run_isAggA hagg, run_sizeA hs, loadCells_row g3 off s (fun h => by rw [hlen]; exact e3 h)]
            · cases e
          · cases e
        · rename_i hagg
          rw [lget_eq] at e
          obtain ⟨V, hV, hR⟩ := g4.get off v e
          have hlt : off < CS.length := (List.getElem?_eq_some_iff.1 hV).1
          have hc := cell_row g3 off hlt
          rw [List.getElem?_eq_getElem hlt] at hV
          cases hV
          exact ⟨_, by simp [Instr.loadAt, Instr.sureAddr, loadVar, run_isAggA hagg, hc], hR⟩
        · cases e
      · cases e
    · cases e
  · cases e
theorem setRow_get {b : Nat} {cur : Array Value} {el : TypeId} {fr : Nat × Nat} (h : w.heap[b]? = some (.cells cur el fr)) (new : Array Value) (k : Nat) :
    (w.setRow b new).heap[k]? = if k = b then some (.cells new el fr) else w.heap[k]? := by
  by_cases hk : k = b
  · subst hk; rw [if_pos rfl]; exact setRow_heap w k cur new el fr h
  · rw [if_neg hk]
    simp only [World.setRow, Array.getElem?_modify]
    rw [if_neg (by omega)]
theorem storeCells_fr (b o : Nat) (t : TypeId) (fz : Nat × Nat) : ∀ (vs : List Value) (i : Nat) (cur : Array Value) (w : World), w.heap[b]? = some (.cells cur t fz) → (∀ j, j < cur.size → ¬ (fz.1 ≤ j ∧ j < fz.2)) → o + i + vs.length ≤ cur.size → (∀ v ∈ vs, v.oneCell' = true) →
    (storeCells ⟨b, o, none⟩ vs i).run P w = .ok () (w.setRow b (cur.toList.take (o + i) ++ vs ++ cur.toList.drop (o + i + vs.length)).toArray)
  | [], i, cur, w, hg, _, _, _ => by
    simp only [storeCells, List.append_nil, List.length_nil, Nat.add_zero, List.take_append_drop, Array.toArray_toList]
    rw [setRow_self w b cur t fz hg]
    rfl
  | v :: rest, i, cur, w, hg, hfz, hl, h1 => by
    have hi : o + i < cur.size := by simp at hl; omega
    have hcell : w.cell? ⟨b, o + i, none⟩ = some cur[o + i] := by simp [World.cell?, hg, hi]
    have hfro : w.frozen? ⟨b, o + i, none⟩ = false := by
      obtain ⟨lo, hi'⟩ := fz
      have := hfz _ hi
      simp only [World.frozen?, hg, Bool.and_eq_false_iff, decide_eq_false_iff_not]
      simp only at this
      omega
    have hst : (store ((⟨b, o, none⟩ : Addr).add i) v).run P w = .ok () (w.setRow b (cur.setIfInBounds (o + i) v)) := by
      rw [add_at, run_store P w _ v _ (h1 v (by simp)), hcell]
      simp [hfro, setCell_eq_setRow w b (o + i) cur t fz v hg]
    have ih := storeCells_fr b o t fz rest (i + 1) (cur.setIfInBounds (o + i) v) (w.setRow b (cur.setIfInBounds (o + i) v)) (setRow_heap w b cur _ t _ hg) (by simpa using hfz) (by simp at hl ⊢; omega) (fun x hx => h1 x (by simp [hx]))
    simp only [storeCells, Sem.run_bind, hst, Result.andThen_ok, ih, setRow_setRow]
    congr 3
    have e := list_seg_step cur.toList (o + i) v rest (by simp at hl ⊢; omega)
    simpa [Array.toList_setIfInBounds, Nat.add_assoc] using e
/-- Cells written into a row that the reckoner knows. -/
theorem write_ok (hε : ∀ i V, ε i = some V → one V = true) {h : T HO} (hm : Mod P ρ ε base w (tget h)) {id off n : Nat} {o : HO} {cs cs' xs XS : List Value} {b : Nat × Nat} {u U : Value} (ho : tget h id = some o) (hr : o.asRow = some cs) (hro : o.ro = false) (hb : ρ id = some b)
    (hs : setMany cs off xs = some cs') (hx : RlL ρ ε xs XS) (hone : xs.all one = true) (hne : xs ≠ []) (hu : Rl ρ ε u U) :
    ∃ w', (storeCells ⟨b.1, off, none⟩ XS).run P w = .ok () w' ∧ Good P ε base ρ w h n ⟨u, tput h id (some { o with cells := cs' }), n, [id]⟩ U w' := by
  obtain ⟨b', CS, tl, el, fr, g1, g2, g3, g4, g5, g6, g7, g8, g9, g10⟩ := hm.row ho hr
  rw [hb] at g1; cases g1
  obtain ⟨e1, e2, e3⟩ := setMany_eq _ _ _ _ hs
  have hlen := hx.length
  have hCS := g4.length
  have hle := e2 hne
  obtain ⟨f1, f2, f3⟩ := g8 hro
  have hst := storeCells_fr (P := P) b.1 off el fr XS 0 _ w g3 (by simpa using f2.free) (by simp; omega) (hx.ones hε hone)
  refine ⟨_, hst, ρ, Step.upd (o := o) (o' := { o with cells := cs' }) (b := b) hm ho hro hro hb (fun k => setRow_get g3 _ k) (by simp [World.setRow]) rfl rfl rfl ?_, hu⟩
  unfold ObjR
  rw [if_pos (by exact g6)]
  refine ⟨CS.take off ++ XS ++ CS.drop (off + XS.length), tl, el, fr, ?_, ?_, g7, fun h => ⟨f1, ?_, f3⟩, fun h s hs => ?_⟩
  · congr 2
    simp only [Nat.add_zero, List.append_assoc]
    have h1 : (CS ++ tl).take off = CS.take off := by rw [List.take_append_of_le_length (by omega)]
    have h2 : (CS ++ tl).drop (off + XS.length) = CS.drop (off + XS.length) ++ tl := by rw [List.drop_append_of_le_length (by omega)]
    rw [h1, h2]
  · show RlL ρ ε cs' _
    rw [e1, hlen]
    exact ((g4.take off).append hx).append (g4.drop _)
  · refine f2.imp (fun h => h) fun h => ?_
    simp only [List.length_append, List.length_take, List.length_drop] at h ⊢
    omega
  · have := g9 h s hs
    simp only [List.length_append, List.length_take, List.length_drop] at this ⊢
    omega
theorem store_ok (hε : ∀ i V, ε i = some V → one V = true) {t : TypeId} {a v A V : Value} {h : T HO} {n : Nat} {r : Out} (e : storeA P t a v h n = some r) (ha : Rl ρ ε a A) (hv : Rl ρ ε v V) (hm : Mod P ρ ε base w (tget h)) :
    ∃ w', (Instr.storeAt t A V).run P w = .ok () w' ∧ Good P ε base ρ w h n r undef w' := by
  unfold storeA at e
  split at e
  · rename_i id off
    split at e
    · rename_i o s ho hs
      split at e
      · rename_i cs hcs
        cases hc : (Nat.beq (cellsOf v).length s && (cellsOf v).all one && !o.ro) with
        | false => simp [hc] at e
        | true =>
          simp only [hc, cond_true] at e
          simp only [Bool.and_eq_true, Bool.not_eq_true'] at hc
          obtain ⟨⟨c1, c2⟩, c3⟩ := hc
          have c1 := Nat.eq_of_beq_eq_true c1
          split at e
          · rename_i cs' hset
            have e := updA_eq e
            subst e
            obtain ⟨b, hb, rfl⟩ := Rl_ptr.1 ha
            have hcv := hv.cells hε
            have hl := hcv.length
            by_cases hne : cellsOf v = []
            · have hVn : V.cells.toList = [] := by have := hcv.length; rw [hne] at this; exact List.length_eq_zero_iff.1 this
              have hsame : cs' = cs := by rw [hne] at hset; simpa [setMany, eq_comm] using hset
              have hz : s = 0 := by rw [hne] at c1; simpa using c1.symm
              refine ⟨w, ?_, ρ, ?_, Rl_tuple.2 ⟨[], rfl, trivial⟩⟩
              · have hV0 : V.cells.size = 0 := by rw [← Array.length_toList, hVn]; rfl
                simp [Instr.storeAt, Instr.sureAddr, storeVar, run_sizeA hs, hV0, hz, hVn, storeCells]
              · obtain ⟨b', CS, tl, el, fr, g1, g2, g3, g4, g5, g6, g7, g8, g9, g10⟩ := hm.row ho hcs
                rw [hb] at g1; cases g1
                refine Step.upd (o := o) (o' := { o with cells := cs' }) (b := b) hm ho c3 c3 hb (ob := .cells (CS ++ tl).toArray el fr) (fun k => ?_) rfl rfl rfl rfl ?_
                · split
                  · rename_i hk; rw [hk]; exact g3
                  · rfl
                · unfold ObjR
                  rw [if_pos (by exact g6)]
                  exact ⟨CS, tl, el, fr, rfl, by rw [hsame]; exact g4, g7, g8, g9⟩
            · obtain ⟨w', h1, h2⟩ := write_ok (n := n) (u := undef) (U := undef) hε hm ho hcs c3 hb hset hcv c2 hne (Rl_tuple.2 ⟨[], rfl, trivial⟩)
              refine ⟨w', ?_, h2⟩
              have hsz : V.cells.size = s := by rw [← Array.length_toList, hl, c1]
              simp [Instr.storeAt, Instr.sureAddr, storeVar, run_sizeA hs, hsz, h1]
          · cases e
      · cases e
    · cases e
  · cases e

/-! #### Addresses and parts of values -/

theorem nilCheck_ok {v u V : Value} (e : nilCheckA v = some u) (hv : Rl ρ ε v V) : ∃ a, V = .pointer (some a) ∧ Rl ρ ε u V := by
  unfold nilCheckA at e
  split at e
  · cases e
    obtain ⟨b, _, _, rfl⟩ := Rl_ptr_any hv
    exact ⟨_, rfl, hv⟩
  · cases e
theorem fieldAddr_ok {s : TypeId} {a v A : Value} {f : Nat} (e : fieldAddrA P s a f = some v) (ha : Rl ρ ε a A) (w : World) : ∃ V, (Instr.fieldAt s A f).run P w = .ok V w ∧ Rl ρ ε v V := by
  unfold fieldAddrA at e
  split at e
  · rename_i id off fields hu
    split at e
    · rename_i fl hfl
      split at e
      · rename_i z hz
        cases e
        obtain ⟨b, hb, rfl⟩ := Rl_ptr.1 ha
        rw [lget_eq] at hfl
        refine ⟨_, ?_, Rl_ptr.2 ⟨b, hb, rfl⟩⟩
        have hfl' : fields[f]? = some fl := by simpa using hfl
        simp [Instr.fieldAt, run_under hu, hfl', Instr.sureAddr, fieldPlace, run_sizeA hz, add_at]
      · cases e
    · cases e
  · cases e
theorem field_ok {s : TypeId} {x v X : Value} {f : Nat} (e : fieldA P s x f = some v) (hx : Rl ρ ε x X) (w : World) : ∃ V, (Instr.field s X f).run P w = .ok V w ∧ Rl ρ ε v V := by
  unfold fieldA at e
  split at e
  · rename_i cs fields hu
    split at e
    · rename_i fl hfl
      obtain ⟨L, rfl, hL⟩ := Rl_agg.1 hx
      obtain ⟨V, h1, h2⟩ := partA_ok e hL w
      rw [lget_eq] at hfl
      have hfl' : fields[f]? = some fl := by simpa using hfl
      exact ⟨V, by simp [Instr.field, run_under hu, hfl', asAgg, h1], h2⟩
    · cases e
  · cases e
theorem natOf_eq {v : Value} {n : Nat} (h : natOf v = some n) : ∃ k, v = .int k n := by
  unfold natOf at h
  split at h
  · cases h; exact ⟨_, rfl⟩
  · cases h
theorem Rl_nat {v V : Value} {n : Nat} (h : natOf v = some n) (hv : Rl ρ ε v V) : ∃ k, v = .int k n ∧ V = .int k n := by
  obtain ⟨k, rfl⟩ := natOf_eq h
  exact ⟨k, rfl, Rl_int.1 hv⟩
theorem indexAddr_ok {t : TypeId} {a ix v A IX : Value} (e : indexAddrA P t a ix = some v) (ha : Rl ρ ε a A) (hi : Rl ρ ε ix IX) (w : World) : ∃ V, (Instr.indexAt t A IX).run P w = .ok V w ∧ Rl ρ ε v V := by
  unfold indexAddrA at e
  split at e
  · rename_i k id off len el hk hu
    split at e
    · rename_i s hs
      cases hc : Nat.blt k len <;> simp [hc] at e
      subst e
      have hlt : k < len := by simpa [Nat.blt_eq] using hc
      obtain ⟨b, hb, rfl⟩ := Rl_ptr.1 ha
      obtain ⟨kk, _, rfl⟩ := Rl_nat hk hi
      refine ⟨_, ?_, Rl_ptr.2 ⟨b, hb, rfl⟩⟩
      simp [Instr.indexAt, asIntOf, run_under hu, Instr.sureAddr, run_sizeA hs, hlt, add_at]
    · cases e
  · rename_i k id off sp len c el hk hu
    split at e
    · rename_i s hs
      cases hc : Nat.blt k len <;> simp [hc] at e
      subst e
      have hlt : k < len := by simpa [Nat.blt_eq] using hc
      obtain ⟨b, hb, rfl⟩ := Rl_slice.1 ha
      obtain ⟨kk, _, rfl⟩ := Rl_nat hk hi
      refine ⟨_, ?_, Rl_ptr.2 ⟨b, hb, rfl⟩⟩
      simp [Instr.indexAt, asIntOf, run_under hu, Instr.sureAddr, run_sizeA hs, hlt, add_at]
    · rename_i s alt hs
      cases hc : (Nat.blt k len && Nat.beq alt off) <;> simp only [hc, cond_true, cond_false] at e
      · cases e
      cases e
      simp only [Bool.and_eq_true] at hc
      have hlt : k < len := by simpa [Nat.blt_eq] using hc.1
      have hal := Nat.eq_of_beq_eq_true hc.2
      subst hal
      obtain ⟨b, hb, rfl, _⟩ := Rl_sliceO.1 ha
      obtain ⟨kk, _, rfl⟩ := Rl_nat hk hi
      refine ⟨_, ?_, Rl_ptr.2 ⟨b, hb, rfl⟩⟩
      simp [Instr.indexAt, asIntOf, run_under hu, Instr.sureAddr, run_sizeA hs, hlt, add_at]
    · cases e
  · cases e
theorem index_ok {t : TypeId} {x ix v X IX : Value} (e : indexA P t x ix = some v) (hx : Rl ρ ε x X) (hi : Rl ρ ε ix IX) (w : World) : ∃ V, (Instr.index t X IX).run P w = .ok V w ∧ Rl ρ ε v V := by
  unfold indexA at e
  split at e
  · rename_i k cs len el hk hu
    split at e
    · rename_i s hs
      cases hc : Nat.blt k len <;> simp only [hc, cond_true, cond_false] at e
      · cases e
      have hlt : k < len := by simpa [Nat.blt_eq] using hc
      obtain ⟨L, rfl, hL⟩ := Rl_agg.1 hx
      obtain ⟨kk, _, rfl⟩ := Rl_nat hk hi
      obtain ⟨V, h1, h2⟩ := partA_ok e hL w
      exact ⟨V, by simp [Instr.index, asIntOf, run_under hu, run_sizeA hs, hlt, h1], h2⟩
    · cases e
  · cases e
theorem extract_ok {x v X : Value} {i : Nat} (e : extractA x i = some v) (hx : Rl ρ ε x X) (w : World) : ∃ V, (Instr.extract X i).run P w = .ok V w ∧ Rl ρ ε v V := by
  unfold extractA at e
  split at e
  · obtain ⟨L, rfl, hL⟩ := Rl_tuple.1 hx
    rw [lget_eq] at e
    obtain ⟨V, hV, hR⟩ := hL.get i v e
    exact ⟨V, by simp [Instr.extract, hV], hR⟩
  · cases e
theorem arrPtr_ok {t : TypeId} {x v X : Value} (e : arrPtrA P t x = some v) (hx : Rl ρ ε x X) (w : World) : ∃ V, (Instr.arrayAt t X).run P w = .ok V w ∧ Rl ρ ε v V := by
  unfold arrPtrA at e
  split at e
  · rename_i id off sp len c k el hu
    cases sp with
    | none =>
      cases hc : Nat.ble k len <;> simp only [hc, Bool.and_true, cond_true, cond_false] at e
      · cases e
      cases e
      have hle : k ≤ len := Nat.le_of_ble_eq_true hc
      have hnl : ¬ len < k := by omega
      obtain ⟨b, hb, rfl⟩ := Rl_slice.1 hx
      exact ⟨_, by simp [Instr.arrayAt, run_under hu, hnl], Rl_ptr.2 ⟨b, hb, rfl⟩⟩
    | some alt =>
      cases hc : (Nat.ble k len && Nat.beq alt off) <;> simp only [hc, cond_true, cond_false] at e
      · cases e
      cases e
      simp only [Bool.and_eq_true] at hc
      have hle : k ≤ len := Nat.le_of_ble_eq_true hc.1
      have hnl : ¬ len < k := by omega
      have := Nat.eq_of_beq_eq_true hc.2
      subst this
      obtain ⟨b, hb, rfl, _⟩ := Rl_sliceO.1 hx
      exact ⟨.pointer (some ⟨b.1, alt, none⟩), by simp [Instr.arrayAt, run_under hu, hnl], Rl_ptr.2 ⟨b, hb, rfl⟩⟩
  · cases e
end
end Go.Proofs.YtefnfbidphmgoaaDoor.Ex
