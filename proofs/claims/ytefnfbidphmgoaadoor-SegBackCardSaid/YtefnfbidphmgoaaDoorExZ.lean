/- A listed variable is read at a region's head: by hand, ahead of the rest. No conditions but those that each names. -/
import Derived.Test.YtefnfbidphmgoaaDoorExY
set_option linter.unusedVariables false
set_option linter.unusedSimpArgs false
namespace Go.Proofs.YtefnfbidphmgoaaDoor.Ex
open Go Go.RowKit
variable {P : Program} {ε : Nat → Option Value} {base : Base}
theorem leads_gload {C : Specs} (E : Env P ε base C) (dep : Nat) {nt id t g d : Nat} {o : Oper} {rest : List Oper} {v : Value} {r : List Item} {s s' : St} {Q : St → Prop} (ho : o.op = .load t (.global g)) (hgd : o.guard = none) (hd : o.dst = some d) (hdn : dstOk nt (some d) = true) (hv : closed DC v = true)
    (hgb : g < base.n) (hload : ∀ w : World, w.heap[g]? = base.old g → (Instr.loadAt t (.pointer (some ⟨g, 0, none⟩))).run P w = .ok v w)
    (hr : runOps P (runCallC P C dep) nt (o :: rest) rest { s with tmps := putDst s.tmps (some d) v } = .ok s') (k : Leads P ε base nt r s' Q) : Leads P ε base nt (.code (.region id ⟨o :: rest⟩ false) :: r) s Q := by
  intro O ρ a w R b cs
  have hN := E.hN
  have hε := E.hε
  have hc := E.calls dep
  have hwp : (Code.region id ⟨o :: rest⟩ false).wp P (fun e a' w' => e = .normal ∧ After P ε base nt ρ w s s' a a' w') a w := by
    refine wp_region ?_
    rw [List.range_eq_range']
    have hlen : (⟨o :: rest⟩ : Array Oper).size = (o :: rest).length := rfl
    rw [hlen]
    have h0 : (⟨o :: rest⟩ : Array Oper)[0]? = some o := rfl
    simp only [List.length_cons, List.range'_succ, wpOps, h0]
    have hw : Region.wanted o (yielded ⟨o :: rest⟩ a.tmps) = true := by simp [Region.wanted, hgd]
    rw [hw]
    simp only [if_true]
    left
    unfold Oper.wp
    have hrun : (execOp a.eval o).run P w = .ok (.value v) w := by
      have he : a.eval (.global g) = .pointer (some ⟨g, 0, none⟩) := rfl
      have hl := hload w (R.mod.old g hgb)
      simp [execOp, ho, he, hl]
    rw [hrun, Oper.upon_value, hd]
    obtain ⟨p1, p2, p3⟩ := put_tmr R.tm R.sz hdn (Rl_closed (ρ := ρ) (ε := ε) hv)
    refine runOps_ok hε hN hc (ops := ⟨o :: rest⟩) rest 1 _ s' ρ (a.put (some d) v) w rfl hr p1 p2 R.mod (fun id h1 h2 => R.fresh id h1) R.hb fun a' w' hA => ⟨rfl, ?_⟩
    exact After.trans (s₁ := { s with tmps := putDst s.tmps (some d) v }) (ws₁ := []) R.mod rfl (Step.refl R.mod) p3 hA
  obtain ⟨a₁, w₁, hA, hst⟩ := steps_region hwp b r cs
  exact R.goes b cs ⟨a₁, w₁, hst, hA⟩ k
/-- What stands next. -/
noncomputable def opsOf (t : List Item) : List Oper := match t with
  | .code (.region _ ops _) :: _ => ops.toList
  | _ => []
noncomputable def idR (t : List Item) : Nat := match t with
  | .code (.region id _ _) :: _ => id
  | _ => 0
noncomputable def tailT (t : List Item) : List Item := match t with
  | _ :: r => r
  | [] => []
noncomputable def tailO (t : List Oper) : List Oper := match t with
  | _ :: r => r
  | [] => []
noncomputable def stOf : Except String St → St
  | .ok s => s
  | .error _ => ⟨[], [], 0, []⟩
noncomputable def okE : Except String St → Bool
  | .ok _ => true
  | .error _ => false
theorem okE_eq {x : Except String St} (h : okE x = true) : x = .ok (stOf x) := by
  cases x with
  | ok s => rfl
  | error w => cases h
/-- So many items, then a region that reads a listed variable first: what is to do behind it, and what is known. -/
theorem leads_to_gload {C : Specs} (E : Env P ε base C) (dep f : Nat) (hk : Hk) {nt t g d : Nat} (o : Oper) (v : Value) {todo : List Item} {s : St} {Q : St → Prop} {p : List Prop} (hb : goesB (itemsS P (runCallS P C dep) hk nt f 0 todo ⟨s, []⟩) = true)
    (hp : (segS (itemsS P (runCallS P C dep) hk nt f 0 todo ⟨s, []⟩)).ob = p) (hob : AllP p)
    (h1 : todoOf (itemsS P (runCallS P C dep) hk nt f 0 todo ⟨s, []⟩) = .code (.region (idR (todoOf (itemsS P (runCallS P C dep) hk nt f 0 todo ⟨s, []⟩))) ⟨o :: tailO (opsOf (todoOf (itemsS P (runCallS P C dep) hk nt f 0 todo ⟨s, []⟩)))⟩ false) :: tailT (todoOf (itemsS P (runCallS P C dep) hk nt f 0 todo ⟨s, []⟩)))
    (ho : o.op = .load t (.global g)) (hgd : o.guard = none) (hd : o.dst = some d) (hdn : dstOk nt (some d) = true) (hv : closed DC v = true)
    (hgb : g < base.n) (hload : ∀ w : World, w.heap[g]? = base.old g → (Instr.loadAt t (.pointer (some ⟨g, 0, none⟩))).run P w = .ok v w)
    (hr : okE (runOps P (runCallC P C dep) nt (o :: tailO (opsOf (todoOf (itemsS P (runCallS P C dep) hk nt f 0 todo ⟨s, []⟩)))) (tailO (opsOf (todoOf (itemsS P (runCallS P C dep) hk nt f 0 todo ⟨s, []⟩)))) { (segS (itemsS P (runCallS P C dep) hk nt f 0 todo ⟨s, []⟩)).st with tmps := putDst (segS (itemsS P (runCallS P C dep) hk nt f 0 todo ⟨s, []⟩)).st.tmps (some d) v }) = true)
    (k : Leads P ε base nt (tailT (todoOf (itemsS P (runCallS P C dep) hk nt f 0 todo ⟨s, []⟩))) (stOf (runOps P (runCallC P C dep) nt (o :: tailO (opsOf (todoOf (itemsS P (runCallS P C dep) hk nt f 0 todo ⟨s, []⟩)))) (tailO (opsOf (todoOf (itemsS P (runCallS P C dep) hk nt f 0 todo ⟨s, []⟩)))) { (segS (itemsS P (runCallS P C dep) hk nt f 0 todo ⟨s, []⟩)).st with tmps := putDst (segS (itemsS P (runCallS P C dep) hk nt f 0 todo ⟨s, []⟩)).st.tmps (some d) v })) Q) : Leads P ε base nt todo s Q := by
  refine leads_seg E dep f hk hb hp hob h1 rfl ?_
  refine leads_gload E dep ho hgd hd hdn hv hgb hload (okE_eq hr) k
end Go.Proofs.YtefnfbidphmgoaaDoor.Ex
