/- A law's call by parts of a run: what came in is read only. No conditions. -/
import Derived.Test.YtefnfbidphmgoaaDoorExU
set_option linter.unusedVariables false
set_option linter.unusedSimpArgs false
namespace Go.Proofs.YtefnfbidphmgoaaDoor.Ex
open Go Go.RowKit

section
variable {P : Program} {ε : Nat → Option Value} {base : Base}

/-- A row that came in. -/
noncomputable def roRow (cells : List Value) : HO := ⟨0, cells, 0, false, true, false, [], 0, []⟩
theorem law_of_leads {f : FuncId} {fn : Func} {c : Code} (hfn : P.funcs[f]? = some fn) (hbody : fn.body = some c) {args ARGS : List Value} {h : T HO} {m : Nat} {ρ : Rho} {w : World} (hargs : RlL ρ ε args ARGS) (hle : args.length ≤ fn.ntmps)
    (hm : Mod P ρ ε (baseOf w) w (tget h)) (hro : ∀ id o, tget h id = some o → o.ro = true) (hfr : ∀ id, m ≤ id → ρ id = none)
    (L : Leads P ε (baseOf w) fn.ntmps [.code c] ⟨putArgs [] 0 args, h, m, []⟩ (fun s => optL (resA P s.tmps s.heap) fn.results.toList = some [.bool true])) (hm8 : m ≤ 8 := by decide) :
    Calls P f ARGS.toArray w fun e w' => e = .returned (.bool true) ∧ Below w.heap.size w w' := by
  refine (call_end (R := fun V w' => V = .bool true ∧ Below w.heap.size w w') hfn hbody hargs hle fun b a cs htm hsz => ?_).mono ?_
  · have R0 : Rel P ε (baseOf w) ⟨ρ, tget h, w⟩ fn.ntmps ⟨putArgs [] 0 args, h, m, []⟩ ρ a w :=
      ⟨htm, hsz, hm, hfr, Nat.le_refl _, Nat.le_refl _, sub_refl _, fun id o c e hr _ => (by rw [hro id o e] at hr; exact Bool.noConfusion hr), fun _ _ _ => rfl, Nat.le_refl _, rfl, rfl, rfl, fun id hid => hfr id (Nat.le_trans hm8 hid)⟩
    obtain ⟨s', a', w', todo', ρ', q, st, R, hd⟩ := L _ ρ a w R0 b cs
    obtain ⟨V, hrun, hV⟩ := results_of q (.inl rfl) R.tm R.mod
    refine ⟨a', w', todo', V, st, hd, hrun, Rl_bool.1 hV, ⟨R.os, R.tape, R.output, R.size, fun k hk => R.keep k hk fun id o c e hr _ => ?_⟩⟩
    have : o.ro = true := hro id o e
    rw [this] at hr; cases hr
  · rintro e w' ⟨V, rfl, rfl, hb⟩
    exact ⟨rfl, hb⟩

/-! ### What came in -/

theorem renV_step {π : Nat → Option Nat} : ∀ (d : Nat) (v u : Value), renV π d v = some u → renV π (d + 1) v = some u
  | 0, _, _, h => by simp [renV] at h
  | d + 1, v, u, h => by
    have ih := renV_step (π := π) d
    have ihL : ∀ l L, optL (renV π d) l = some L → optL (renV π (d + 1)) l = some L := fun l L => optL_mono (fun a b hab => ih a b hab) l L
    cases v with
    | pointer a => cases a <;> simpa [renV] using h
    | slice a _ _ => cases a <;> simpa [renV] using h
    | map a => cases a <;> simpa [renV] using h
    | iface t v =>
      have h : (renV π d v).map (Value.iface t) = some u := h
      show (renV π (d + 1) v).map (Value.iface t) = some u
      cases hv : renV π d v with
      | none => rw [hv] at h; cases h
      | some x => rw [hv] at h; rw [ih v x hv]; exact h
    | agg cs =>
      have h : ((optL (renV π d) cs.toList).map fun l => Value.agg l.toArray) = some u := h
      show ((optL (renV π (d + 1)) cs.toList).map fun l => Value.agg l.toArray) = some u
      cases hv : optL (renV π d) cs.toList with
      | none => rw [hv] at h; cases h
      | some x => rw [hv] at h; rw [ihL _ x hv]; exact h
    | tuple cs =>
      have h : ((optL (renV π d) cs.toList).map fun l => Value.tuple l.toArray) = some u := h
      show ((optL (renV π (d + 1)) cs.toList).map fun l => Value.tuple l.toArray) = some u
      cases hv : optL (renV π d) cs.toList with
      | none => rw [hv] at h; cases h
      | some x => rw [hv] at h; rw [ihL _ x hv]; exact h
    | func fn a b =>
      have h : (match optL (renV π d) a.toList, optL (renV π d) b.toList with | some x, some y => some (Value.func fn x.toArray y.toArray) | _, _ => none) = some u := h
      show (match optL (renV π (d + 1)) a.toList, optL (renV π (d + 1)) b.toList with | some x, some y => some (Value.func fn x.toArray y.toArray) | _, _ => none) = some u
      cases hv : optL (renV π d) a.toList with
      | none => rw [hv] at h; cases h
      | some x =>
        cases hw : optL (renV π d) b.toList with
        | none => rw [hv, hw] at h; cases h
        | some y => rw [hv, hw] at h; rw [ihL _ x hv, ihL _ y hw]; exact h
    | _ => exact h
theorem renV_le {π : Nat → Option Nat} {d d' : Nat} (h : d ≤ d') {v u : Value} (hv : renV π d v = some u) : renV π d' v = some u := by
  induction h with
  | refl => exact hv
  | step _ ih => exact renV_step _ v u ih
/-- No name in it. -/
def NoIds (l : List Value) : Prop := ∃ d, ∀ π, optL (renV π d) l = some l
theorem NoIds.nil : NoIds [] := ⟨0, fun _ => rfl⟩
theorem NoIds.cons {v : Value} {l : List Value} (hv : ∃ d, ∀ π, renV π d v = some v) (h : NoIds l) : NoIds (v :: l) := by
  obtain ⟨d, hd⟩ := hv
  obtain ⟨e, he⟩ := h
  refine ⟨max d e, fun π => ?_⟩
  rw [optL_cons, renV_le (Nat.le_max_left d e) (hd π), optL_mono (fun a b h => renV_le (Nat.le_max_right d e) h) l l (he π)]
theorem NoIds.append' : ∀ {l m : List Value}, NoIds l → NoIds m → NoIds (l ++ m)
  | [], _, _, k => k
  | v :: l, m, ⟨d, hd⟩, k => by
    have h1 : ∀ π, renV π d v = some v ∧ optL (renV π d) l = some l := fun π => by
      have := hd π
      rw [optL_cons] at this
      cases hv : renV π d v with
      | none => rw [hv] at this; cases this
      | some x =>
        rw [hv] at this
        simp only at this
        cases hl : optL (renV π d) l with
        | none => rw [hl] at this; cases this
        | some y =>
          rw [hl] at this
          simp only [Option.some.injEq, List.cons.injEq] at this
          rw [this.1, this.2]; exact ⟨rfl, rfl⟩
    exact NoIds.cons ⟨d, fun π => (h1 π).1⟩ (NoIds.append' ⟨d, fun π => (h1 π).2⟩ k)
/-- Every value has a name, by atoms. -/
theorem name_value : ∀ (n : Nat) (V : Value), SizeOf.sizeOf V ≤ n → ∀ (A0 : List Value), A0.all one = true → ∃ (v : Value) (A1 : List Value), (A0 ++ A1).all one = true ∧ (∃ d, ∀ π, renV π d v = some v) ∧ ∀ (ρ : Rho) (E : Nat → Option Value), (∀ i x, (A0 ++ A1)[i]? = some x → E i = some x) → Rl ρ E v V
  | 0, V, h, _, _ => by cases V <;> simp at h
  | n + 1, V, h, A0, hA => by
    have list : ∀ (L : List Value), (∀ x ∈ L, SizeOf.sizeOf x ≤ n) → ∀ (A0 : List Value), A0.all one = true → ∃ (vs A1 : List Value), (A0 ++ A1).all one = true ∧ NoIds vs ∧ ∀ (ρ : Rho) (E : Nat → Option Value), (∀ i x, (A0 ++ A1)[i]? = some x → E i = some x) → RlL ρ E vs L := by
      intro L
      induction L with
      | nil => intro _ A0 hA; exact ⟨[], [], by simpa using hA, .nil, fun _ _ _ => trivial⟩
      | cons x L ih =>
        intro hx A0 hA
        obtain ⟨v, A1, q1, q3, q2⟩ := name_value n x (hx x (by simp)) A0 hA
        obtain ⟨vs, A2, k1, k3, k2⟩ := ih (fun y hy => hx y (by simp [hy])) (A0 ++ A1) q1
        refine ⟨v :: vs, A1 ++ A2, by rw [← List.append_assoc]; exact k1, .cons q3 k3, fun ρ E hE => ⟨q2 ρ E fun i y hi => hE i y ?_, k2 ρ E fun i y hi => hE i y (by rw [← List.append_assoc]; exact hi)⟩⟩
        rw [← List.append_assoc, List.getElem?_append_left (List.getElem?_eq_some_iff.1 hi).1]
        exact hi
    have atom : one V = true → ∃ (v : Value) (A1 : List Value), (A0 ++ A1).all one = true ∧ (∃ d, ∀ π, renV π d v = some v) ∧ ∀ (ρ : Rho) (E : Nat → Option Value), (∀ i x, (A0 ++ A1)[i]? = some x → E i = some x) → Rl ρ E v V := fun ho =>
      ⟨.chan (some A0.length), [V], by simp only [List.all_append, hA, List.all_cons, ho, List.all_nil, Bool.and_self], ⟨1, fun _ => rfl⟩, fun ρ E hE => ⟨1, by
        have := hE A0.length V (by simp)
        simp [conc, this]⟩⟩
    cases V with
    | agg cs =>
      have hs : ∀ x ∈ cs.toList, SizeOf.sizeOf x ≤ n := fun x hx => by
        have h1 := Array.sizeOf_lt_of_mem (Array.mem_toList_iff.1 hx)
        simp at h
        omega
      obtain ⟨vs, A1, k1, ⟨d, k3⟩, k2⟩ := list cs.toList hs A0 hA
      exact ⟨.agg vs.toArray, A1, k1, ⟨d + 1, fun π => by simp [renV, k3 π]⟩, fun ρ E hE => Rl_agg.2 ⟨cs.toList, by simp, by simpa using k2 ρ E hE⟩⟩
    | tuple cs =>
      have hs : ∀ x ∈ cs.toList, SizeOf.sizeOf x ≤ n := fun x hx => by
        have h1 := Array.sizeOf_lt_of_mem (Array.mem_toList_iff.1 hx)
        simp at h
        omega
      obtain ⟨vs, A1, k1, ⟨d, k3⟩, k2⟩ := list cs.toList hs A0 hA
      exact ⟨.tuple vs.toArray, A1, k1, ⟨d + 1, fun π => by simp [renV, k3 π]⟩, fun ρ E hE => Rl_tuple.2 ⟨cs.toList, by simp, by simpa using k2 ρ E hE⟩⟩
    | _ => exact atom rfl
theorem name_list : ∀ (L A0 : List Value), A0.all one = true → ∃ (vs A1 : List Value), (A0 ++ A1).all one = true ∧ NoIds vs ∧ ∀ (ρ : Rho) (E : Nat → Option Value), (∀ i x, (A0 ++ A1)[i]? = some x → E i = some x) → RlL ρ E vs L
  | [], A0, hA => ⟨[], [], by simpa using hA, .nil, fun _ _ _ => trivial⟩
  | x :: L, A0, hA => by
    obtain ⟨v, A1, q1, q3, q2⟩ := name_value (SizeOf.sizeOf x) x (Nat.le_refl _) A0 hA
    obtain ⟨vs, A2, k1, k3, k2⟩ := name_list L (A0 ++ A1) q1
    refine ⟨v :: vs, A1 ++ A2, by rw [← List.append_assoc]; exact k1, .cons q3 k3, fun ρ E hE => ⟨q2 ρ E fun i y hi => hE i y ?_, k2 ρ E fun i y hi => hE i y (by rw [← List.append_assoc]; exact hi)⟩⟩
    rw [← List.append_assoc, List.getElem?_append_left (List.getElem?_eq_some_iff.1 hi).1]
    exact hi
/-- A part of a row stands for itself, the rest has names. -/
theorem name_around (PRE MID POST A0 : List Value) (hA : A0.all one = true) (hm : MID.all selfish = true) : ∃ (pre post A1 : List Value), pre.length = PRE.length ∧ post.length = POST.length ∧ (A0 ++ A1).all one = true ∧ NoIds (pre ++ (MID ++ post)) ∧ ∀ (ρ : Rho) (E : Nat → Option Value), (∀ i x, (A0 ++ A1)[i]? = some x → E i = some x) → RlL ρ E (pre ++ (MID ++ post)) (PRE ++ (MID ++ POST)) := by
  obtain ⟨pre, A1, h1, h5, h2⟩ := name_list PRE A0 hA
  obtain ⟨post, A2, h3, h6, h4⟩ := name_list POST (A0 ++ A1) h1
  have hmid : ∀ (l : List Value), l.all selfish = true → ∀ (ρ : Rho) (E : Nat → Option Value), RlL ρ E l l := by
    intro l
    induction l with
    | nil => intro _ _ _; trivial
    | cons x l ih => intro hx ρ E; simp only [List.all_cons, Bool.and_eq_true] at hx; exact ⟨(Rl_self hx.1).2 rfl, ih hx.2 ρ E⟩
  have e1 : ∀ (ρ : Rho) (E : Nat → Option Value), (∀ i x, (A0 ++ (A1 ++ A2))[i]? = some x → E i = some x) → RlL ρ E pre PRE := fun ρ E hE => h2 ρ E fun i x hi => hE i x (by
    rw [← List.append_assoc, List.getElem?_append_left (List.getElem?_eq_some_iff.1 hi).1]; exact hi)
  have e2 : ∀ (ρ : Rho) (E : Nat → Option Value), (∀ i x, (A0 ++ (A1 ++ A2))[i]? = some x → E i = some x) → RlL ρ E post POST := fun ρ E hE => h4 ρ E fun i x hi => hE i x (by rw [← List.append_assoc]; exact hi)
  let E0 : Nat → Option Value := fun i => (A0 ++ (A1 ++ A2))[i]?
  refine ⟨pre, post, A1 ++ A2, ((e1 (fun _ => none) E0 fun _ _ h => h).length).symm, ((e2 (fun _ => none) E0 fun _ _ h => h).length).symm, by rw [← List.append_assoc]; exact h3, h5.append' (NoIds.append' ⟨1, fun π => ?_⟩ h6), fun ρ E hE => (e1 ρ E hE).append ((hmid MID hm ρ E).append (e2 ρ E hE))⟩
  have hself : ∀ (l : List Value), l.all selfish = true → optL (renV π 1) l = some l := by
    intro l
    induction l with
    | nil => intro _; rfl
    | cons x l ih =>
      intro hx
      simp only [List.all_cons, Bool.and_eq_true] at hx
      have hx1 : renV π 1 x = some x := by
        have hx1 := hx.1
        cases x with
        | pointer a => cases a <;> simp [selfish] at hx1; rfl
        | slice a _ _ => cases a <;> simp [selfish] at hx1; rfl
        | map a => cases a <;> simp [selfish] at hx1; rfl
        | chan a => cases a <;> simp [selfish] at hx1; rfl
        | _ => first | rfl | simp [selfish] at hx1
      rw [optL_cons, hx1, ih hx.2]
  exact hself MID hm
theorem vals_selfish (k : IntKind) (zs : List Int) : (zs.map (Value.int k)).all selfish = true := by
  rw [List.all_eq_true]; intro v hv; obtain ⟨_, _, rfl⟩ := List.mem_map.1 hv; rfl
/-- A block with such cells. -/
theorem block_parts {w : World} {b off : Nat} {k : IntKind} {zs : List Int} (hz : zs ≠ []) (hc : ∀ i, i < zs.length → w.cell? ⟨b, off + i, none⟩ = some (.int k (zs.getD i 0))) :
    b < w.heap.size ∧ ∃ PRE POST el fr, PRE.length = off ∧ w.heap[b]? = some (.cells (PRE ++ (zs.map (Value.int k) ++ POST)).toArray el fr) := by
  have h0 : 0 < zs.length := List.length_pos_iff.2 hz
  have hc0 := hc 0 h0
  have hlt : b < w.heap.size := by
    rcases Nat.lt_or_ge b w.heap.size with hlt | hge
    · exact hlt
    · simp [World.cell?, Array.getElem?_eq_none hge] at hc0
  refine ⟨hlt, ?_⟩
  cases hob : w.heap[b]? with
  | none => simp [World.cell?, hob] at hc0
  | some ob =>
    cases ob with
    | cells cs el fr =>
      have hcell : ∀ i, i < zs.length → cs.toList[off + i]? = some (.int k (zs.getD i 0)) := fun i hi => by
        have := hc i hi
        simpa [World.cell?, hob] using this
      refine ⟨cs.toList.take off, cs.toList.drop (off + zs.length), el, fr, ?_, ?_⟩
      · have := (List.getElem?_eq_some_iff.1 (hcell 0 h0)).1
        rw [List.length_take]; omega
      · congr 2
        apply Array.ext'
        rw [List.toList_toArray]
        apply List.ext_getElem?
        intro i
        have hoff : off ≤ cs.toList.length := by
          have := (List.getElem?_eq_some_iff.1 (hcell 0 h0)).1
          omega
        by_cases h1 : i < off
        · rw [List.getElem?_append_left (by rw [List.length_take]; omega), List.getElem?_take, if_pos h1]
        · rw [List.getElem?_append_right (by rw [List.length_take]; omega), List.length_take, Nat.min_eq_left hoff]
          by_cases h2 : i - off < zs.length
          · rw [List.getElem?_append_left (by simpa using h2), List.getElem?_map, List.getElem?_eq_getElem h2]
            have := hcell (i - off) h2
            rw [show off + (i - off) = i by omega] at this
            rw [this]
            simp [List.getD_eq_getElem?_getD, List.getElem?_eq_getElem h2]
          · rw [List.getElem?_append_right (by simpa using h2), List.length_map, List.getElem?_drop]
            congr 1
            omega
    | _ => simp [World.cell?, hob] at hc0
/-- One row that came in, read only. -/
noncomputable def rho1 (b : Nat) : Rho := fun id => if id = 0 then some (b, 0) else none
theorem enter1 {w : World} {b off : Nat} {k : IntKind} {zs : List Int} (hz : zs ≠ []) (hc : ∀ i, i < zs.length → w.cell? ⟨b, off + i, none⟩ = some (.int k (zs.getD i 0))) :
    ∃ (cs A : List Value), A.all one = true ∧ (cs.drop off).take zs.length = zs.map (Value.int k) ∧ off + zs.length ≤ cs.length ∧ NoIds cs ∧ Mod P (rho1 b) (fun i => A[i]?) (baseOf w) w (tget (tput [] 0 (some (roRow cs)))) := by
  obtain ⟨hlt, PRE, POST, el, fr, hpre, hblk⟩ := block_parts hz hc
  obtain ⟨pre, post, A, h1, h2, h3, h4, h5⟩ := name_around PRE (zs.map (Value.int k)) POST [] rfl (vals_selfish k zs)
  refine ⟨pre ++ (zs.map (Value.int k) ++ post), A, by simpa using h3, ?_, ?_, h4, ⟨fun id o e => ?_, fun id id' o o' b1 b2 e e' hr => ?_, fun _ _ => rfl⟩⟩
  · rw [List.drop_append_of_le_length (by omega), List.drop_of_length_le (by omega), List.nil_append, List.take_append_of_le_length (by simp), List.take_of_length_le (by simp)]
  · simp; omega
  · rw [tget_tput] at e
    split at e
    · rename_i h0
      subst h0
      cases e
      refine ⟨(b, 0), by simp [rho1], hlt, ?_, fun h => by cases h⟩
      unfold ObjR
      rw [if_pos (show (roRow (pre ++ (zs.map (Value.int k) ++ post))).kind = 0 from rfl)]
      exact ⟨PRE ++ (zs.map (Value.int k) ++ POST), [], el, fr, by rw [List.append_nil]; exact hblk, h5 _ _ (fun i x hx => by simpa using hx), fun _ => rfl, fun h => (by cases h), fun h => (by cases h)⟩
    · rw [tget_nil] at e; cases e
  · rw [tget_tput] at e e'
    split at e
    · cases e
      split at e'
      · cases e'
        rcases hr with hr | hr <;> cases hr
      · rw [tget_nil] at e'; cases e'
    · rw [tget_nil] at e; cases e
theorem add_plain {b off : Nat} (k : Nat) : (⟨b, off, none⟩ : Addr).add k = ⟨b, off + k, none⟩ := add_at b off k
/-- A slice of integers that came in, not nil. -/
theorem enterS {w : World} {x : Addr} {len cap bs : Nat} {k : IntKind} {t e : TypeId} {zs : List Int} (hok : Value.okWide P w .any bs t (.slice (some x) len cap)) (ht : P.underlying t = some (.slice e)) (hl : len ≤ cap) (hz : zs.length = cap) (hc : ∀ i, i < zs.length → w.cell? (x.add i) = some (.int k (zs.getD i 0))) :
    ∃ (cs A : List Value) (b off : Nat), x = ⟨b, off, none⟩ ∧ A.all one = true ∧ (cs.drop off).take len = (zs.take len).map (Value.int k) ∧ fitP off len cs.length ∧ NoIds cs ∧ Mod P (rho1 b) (fun i => A[i]?) (baseOf w) w (tget (tput [] 0 (some (roRow cs)))) := by
  have hhas : w.has P .any bs x e cap := by
    unfold Value.okWide at hok
    rw [ht] at hok
    simp only [Cell.okWide, ht, Cell.ok] at hok
    exact hok.2.2
  obtain ⟨_, hspot, row, cells, hshape, _⟩ := hhas
  obtain ⟨b, off, spot⟩ := x
  simp only at hspot
  subst hspot
  have hc' : ∀ i, i < zs.length → w.cell? ⟨b, off + i, none⟩ = some (.int k (zs.getD i 0)) := fun i hi => by rw [← add_plain]; exact hc i hi
  by_cases hz0 : zs = []
  · subst hz0
    have hlen : len = 0 := by simp at hz; omega
    subst hlen
    unfold World.shape? at hshape
    cases hob : w.heap[b]? with
    | none => simp [hob] at hshape
    | some ob =>
      cases ob with
      | cells C el fr =>
        have hlt : b < w.heap.size := (Array.getElem?_eq_some_iff.1 hob).1
        obtain ⟨vs, A, h1, h2, h3⟩ := name_list C.toList [] rfl
        refine ⟨vs, A, b, off, rfl, by simpa using h1, by simp, .inl rfl, h2, ⟨fun id o e => ?_, fun id id' o o' b1 b2 e e' hr => ?_, fun _ _ => rfl⟩⟩
        · rw [tget_tput] at e
          split at e
          · rename_i h0
            subst h0
            cases e
            refine ⟨(b, 0), by simp [rho1], hlt, ?_, fun h => by cases h⟩
            unfold ObjR
            rw [if_pos (show (roRow vs).kind = 0 from rfl)]
            exact ⟨C.toList, [], el, fr, by simp [hob], h3 _ _ (fun i x hx => by simpa using hx), fun _ => rfl, fun h => (by cases h), fun h => (by cases h)⟩
          · rw [tget_nil] at e; cases e
        · rw [tget_tput] at e e'
          split at e
          · cases e
            split at e'
            · cases e'
              rcases hr with hr | hr <;> cases hr
            · rw [tget_nil] at e'; cases e'
          · rw [tget_nil] at e; cases e
      | _ => simp [hob] at hshape
  · obtain ⟨cs, A, h1, h2, h3, h4, h5⟩ := enter1 hz0 hc'
    refine ⟨cs, A, b, off, rfl, h1, ?_, .inr (by omega), h4, h5⟩
    have : ((cs.drop off).take zs.length).take len = (zs.map (Value.int k)).take len := by rw [h2]
    rw [List.take_take, Nat.min_eq_left (by omega), ← List.map_take] at this
    exact this
end
end Go.Proofs.YtefnfbidphmgoaaDoor.Ex
