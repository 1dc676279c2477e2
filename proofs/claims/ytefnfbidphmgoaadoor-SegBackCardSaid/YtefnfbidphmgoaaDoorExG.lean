/- A reckoner for runs of fixed texts, seventh part: slices, append, copy, clear, len. No conditions. -/
import Derived.Test.YtefnfbidphmgoaaDoorExF
import Derived.Lib.Strings
set_option linter.unusedVariables false
set_option linter.unusedSimpArgs false
namespace Go.Proofs.YtefnfbidphmgoaaDoor.Ex
open Go Go.RowKit

section
variable {P : Program} {ε : Nat → Option Value} {base : Base} {ρ : Rho} {w : World}

theorem beq_yes {a b : Nat} (h : a = b) : Nat.beq a b = true := by subst h; exact Nat.beq_refl a
theorem beq_no {a b : Nat} (h : a ≠ b) : Nat.beq a b = false := by
  cases hc : Nat.beq a b
  · rfl
  · exact absurd (Nat.eq_of_beq_eq_true hc) h
theorem ne_of_beq {a b : Nat} (h : Nat.beq a b = false) : a ≠ b := fun e => by rw [beq_yes e] at h; cases h
theorem capLow_le {h : T HO} (hm : Mod P ρ ε base w (tget h)) {e size id off len c alt : Nat} (hs : sizeA P e = some size) {b : Nat × Nat} (hb : ρ id = some b) (hle : len + c ≤ b.2) : capLow h e size id off (some alt) len c ≤ b.2 - c := by
  unfold capLow
  simp only
  cases hc : (Nat.beq alt off && Nat.beq off (c * size) && Nat.blt 0 size)
  · simp only [cond_false]; omega
  · simp only [cond_true]
    simp only [Bool.and_eq_true] at hc
    have e1 := Nat.eq_of_beq_eq_true hc.1.2
    have e2 : 0 < size := by have := hc.2; simpa [Nat.blt_eq] using this
    split
    · rename_i o ho
      cases hk : (Nat.beq o.kind 0 && o.opn && Nat.beq o.elem e && Nat.ble len (Nat.div (o.cells.length - off) size))
      · simp only [cond_false]; omega
      · simp only [cond_true]
        simp only [Bool.and_eq_true] at hk
        have k1 := hk.1.1.1
        obtain ⟨b', CS, tl, el, fr, g1, g2, g3, g4, g5, g6, g7, g8, g9, g10⟩ := hm.row (cs := o.cells) ho (by simp [HO.asRow, k1])
        rw [hb] at g1; cases g1
        have k3 := Nat.eq_of_beq_eq_true hk.1.2
        have hlen := g9 hk.1.1.2 size (by rw [k3]; exact hs)
        have hCS := g4.length
        simp only [List.length_append] at hlen
        show (o.cells.length - off) / size ≤ b.2 - c
        rw [e1]
        have : o.cells.length - c * size ≤ (b.2 - c) * size := by
          rw [Nat.sub_mul]
          omega
        exact Nat.div_le_of_le_mul (by rw [Nat.mul_comm size]; exact this)
    · omega
theorem run_bound {P : Program} {w : World} {k : IntKind} {n y : Nat} {code : BoundsCode} (h : n ≤ y) : (Instr.sliceBound (.int k n) y code).run P w = .ok n w := by
  simp [Instr.sliceBound, asIntOf]
  omega
/-- The bounds of a slice expression. -/
theorem run_bounds {P : Program} {w : World} (isSlice : Bool) {len cap l hh m : Nat} {lo hi : Option Value} {LO HI MX : Option Value}
    (hlo : ∃ v, (lo = none ∧ LO = none ∧ l = 0) ∨ (lo = some v ∧ ∃ k, LO = some (.int k l)))
    (hhi : (hi = none ∧ HI = none ∧ hh = len) ∨ ∃ k, HI = some (.int k hh))
    (hmx : (MX = none ∧ m = cap) ∨ ((∃ k, MX = some (.int k m)) ∧ ∃ k, HI = some (.int k hh)))
    (h1 : l ≤ hh) (h2 : hh ≤ m) (h3 : m ≤ cap) : (Instr.sliceBounds isSlice len cap LO HI MX).run P w = .ok (l, hh, m) w := by
  unfold Instr.sliceBounds
  obtain ⟨v, hlo⟩ := hlo
  rcases hmx with ⟨rfl, rfl⟩ | ⟨⟨k, rfl⟩, ⟨k', rfl⟩⟩
  · rcases hhi with ⟨_, rfl, rfl⟩ | ⟨k2, rfl⟩
    · rcases hlo with ⟨_, rfl, rfl⟩ | ⟨_, k3, rfl⟩
      · simp
      · simp [run_bound h1]
    · rcases hlo with ⟨_, rfl, rfl⟩ | ⟨_, k3, rfl⟩
      · simp [run_bound h2]
      · simp [run_bound h1, run_bound h2]
  · rcases hlo with ⟨_, rfl, rfl⟩ | ⟨_, k3, rfl⟩
    · simp [run_bound h2, run_bound h3]
    · simp [run_bound h1, run_bound h2, run_bound h3]
noncomputable def OptR (ρ : Rho) (ε : Nat → Option Value) : Option Value → Option Value → Prop
  | none, none => True
  | some v, some V => Rl ρ ε v V
  | _, _ => False
theorem boundA_ok {d n : Nat} {v V : Option Value} (h : boundA d v = some n) (hv : OptR ρ ε v V) : (v = none ∧ V = none ∧ n = d) ∨ (v.isSome = true ∧ ∃ k, V = some (.int k n)) := by
  cases v with
  | none => cases V with
    | none => simp [boundA] at h; exact .inl ⟨rfl, rfl, h.symm⟩
    | some _ => exact hv.elim
  | some v => cases V with
    | none => exact hv.elim
    | some V =>
      obtain ⟨k, _, rfl⟩ := Rl_nat h hv
      exact .inr ⟨rfl, k, rfl⟩
theorem slice_ok {t : TypeId} {x v X : Value} {lo hi mx LO HI MX : Option Value} {h : T HO} (e : sliceA P t x lo hi mx h = some v) (hx : Rl ρ ε x X) (hlo : OptR ρ ε lo LO) (hhi : OptR ρ ε hi HI) (hmx : OptR ρ ε mx MX) (hmxhi : mx.isSome = true → hi.isSome = true) (hm : Mod P ρ ε base w (tget h)) :
    ∃ V, (Instr.sliceAt t X LO HI MX).run P w = .ok V w ∧ Rl ρ ε v V := by
  unfold sliceA at e
  split at e
  · rename_i id off sp len c el hu
    split at e
    · rename_i l hh s hl hhh hs
      have bl := boundA_ok hl hlo
      have bh := boundA_ok hhh hhi
      have bl' : ∃ v, (lo = none ∧ LO = none ∧ l = 0) ∨ (lo = some v ∧ ∃ k, LO = some (.int k l)) := by
        rcases bl with h' | ⟨h', k, hk⟩
        · exact ⟨undef, .inl h'⟩
        · obtain ⟨v, hv⟩ := Option.isSome_iff_exists.1 h'
          exact ⟨v, .inr ⟨hv, k, hk⟩⟩
      have bh' : (hi = none ∧ HI = none ∧ hh = len) ∨ ∃ k, HI = some (.int k hh) := by
        rcases bh with h' | ⟨_, k, hk⟩
        · exact .inl h'
        · exact .inr ⟨k, hk⟩
      -- what the slice stands for
      have key : ∃ A C, X = .slice (some A) len C ∧ A.spot = none ∧ capLow h el s id off sp len c ≤ C ∧
          ((sp = none ∧ C = c ∧ ∃ b, ρ id = some b ∧ A = ⟨b.1, off, none⟩) ∨ (∃ alt b, sp = some alt ∧ ρ id = some b ∧ C = b.2 - c ∧ len + c ≤ b.2 ∧ A = ⟨b.1, if b.2 = c then alt else off, none⟩)) := by
        cases sp with
        | none =>
          obtain ⟨b, hb, rfl⟩ := Rl_slice.1 hx
          exact ⟨_, c, rfl, rfl, Nat.le_refl _, .inl ⟨rfl, rfl, b, hb, rfl⟩⟩
        | some alt =>
          obtain ⟨b, hb, rfl, hle⟩ := Rl_sliceO.1 hx
          exact ⟨_, _, rfl, rfl, capLow_le hm hs hb hle, .inr ⟨alt, b, rfl, hb, rfl, hle, rfl⟩⟩
      obtain ⟨A, C, rfl, hsp, hlow, hA⟩ := key
      simp only at e
      generalize capLow h el s id off sp len c = low at e hlow
      have run : ∀ m, l ≤ hh → hh ≤ m → m ≤ C → ((MX = none ∧ m = C) ∨ ((∃ k, MX = some (.int k m)) ∧ ∃ k, HI = some (.int k hh))) →
          (Instr.sliceAt t (.slice (some A) len C) LO HI MX).run P w = .ok (.slice (if m = l then some A else some (A.add (l * s))) (hh - l) (m - l)) w := by
        intro m h1 h2 h3 h4
        simp only [Instr.sliceAt, Instr.slice, Sem.run_bind, run_under hu, Result.andThen_ok, run_bounds true bl' bh' h4 h1 h2 h3, run_sizeA hs, Option.map_some, Sem.run_pure]
      cases mx with
      | none =>
        have hMX : MX = none := by cases MX with
          | none => rfl
          | some _ => exact hmx.elim
        subst hMX
        simp only at e
        cases hc : (Nat.ble l hh && Nat.ble hh low) <;> simp only [hc, cond_true, cond_false] at e
        · cases e
        simp only [Bool.and_eq_true] at hc
        have c1 := Nat.le_of_ble_eq_true hc.1
        have c2 := Nat.le_of_ble_eq_true hc.2
        have run := run C c1 (by omega) (Nat.le_refl _) (.inl ⟨rfl, rfl⟩)
        refine ⟨_, run, ?_⟩
        rcases hA with ⟨rfl, rfl, b, hb, rfl⟩ | ⟨alt, b, rfl, hb, rfl, hle, rfl⟩
        · simp only [Option.some.injEq] at e
          subst e
          refine Rl_slice.2 ⟨b, hb, ?_⟩
          by_cases hcl : C = l
          · have : Nat.beq l C = true := beq_yes hcl.symm
            simp [hcl, this]
          · have : Nat.beq l C = false := beq_no (Ne.symm hcl)
            simp [hcl, this, add_at]
        · simp only at e
          cases h0 : Nat.beq l 0 <;> simp only [h0, cond_true, cond_false] at e
          · cases ha : Nat.beq alt off <;> simp only [ha, Bool.not_true, Bool.not_false, cond_true, cond_false] at e
            · cases e
            have ha := Nat.eq_of_beq_eq_true ha
            subst ha
            have hne : l ≠ 0 := ne_of_beq h0
            cases hbl : Nat.blt l low <;> simp only [hbl, cond_true, cond_false, Option.some.injEq] at e <;> subst e
            · refine Rl_sliceO.2 ⟨b, hb, ?_, by omega⟩
              have hiff : (b.2 - c = l) ↔ (b.2 = c + l) := by omega
              by_cases hcl : b.2 - c = l
              · rw [if_pos hcl, if_pos (hiff.1 hcl)]; simp; omega
              · rw [if_neg hcl, if_neg (fun h => hcl (hiff.2 h))]; simp [add_at]; omega
            · have hlt : l < low := by simpa [Nat.blt_eq] using hbl
              refine Rl_sliceO.2 ⟨b, hb, ?_, by omega⟩
              rw [if_neg (by omega)]
              simp [add_at]
              omega
          · have hl0 := Nat.eq_of_beq_eq_true h0
            subst hl0
            simp only [Option.some.injEq] at e
            subst e
            refine Rl_sliceO.2 ⟨b, hb, ?_, by omega⟩
            simp [Addr.add]
      | some mv =>
        cases MX with
        | none => exact hmx.elim
        | some MV =>
          simp only at e
          split at e
          · rename_i m hmn
            obtain ⟨k, _, rfl⟩ := Rl_nat hmn hmx
            cases hc : (Nat.ble l hh && Nat.ble hh m && Nat.ble m low) <;> simp only [hc, cond_true, cond_false] at e
            · cases e
            simp only [Bool.and_eq_true] at hc
            have c1 := Nat.le_of_ble_eq_true hc.1.1
            have c2 := Nat.le_of_ble_eq_true hc.1.2
            have c3 := Nat.le_of_ble_eq_true hc.2
            have hHI : ∃ k, HI = some (.int k hh) := by
              rcases bh with ⟨h', _⟩ | ⟨_, k, hk⟩
              · have := hmxhi rfl; rw [h'] at this; cases this
              · exact ⟨k, hk⟩
            have run := run m c1 c2 (by omega) (.inr ⟨⟨k, rfl⟩, hHI⟩)
            refine ⟨_, run, ?_⟩
            rcases hA with ⟨rfl, rfl, b, hb, rfl⟩ | ⟨alt, b, rfl, hb, rfl, hle, rfl⟩
            · simp only [Option.some.injEq] at e
              subst e
              refine Rl_slice.2 ⟨b, hb, ?_⟩
              by_cases hcl : m = l
              · have : Nat.beq l m = true := beq_yes hcl.symm
                simp [hcl, this]
              · have : Nat.beq l m = false := beq_no (Ne.symm hcl)
                simp [hcl, this, add_at]
            · simp only at e
              cases ha : Nat.beq alt off <;> simp only [ha, cond_true, cond_false] at e
              · cases e
              have ha := Nat.eq_of_beq_eq_true ha
              subst ha
              simp only [Option.some.injEq] at e
              subst e
              refine Rl_slice.2 ⟨b, hb, ?_⟩
              by_cases hcl : m = l
              · have : Nat.beq l m = true := beq_yes hcl.symm
                simp [hcl, this]
              · have : Nat.beq l m = false := beq_no (Ne.symm hcl)
                simp [hcl, this, add_at]
          · cases e
    · cases e
  · rename_i id off k el hu
    split at e
    · rename_i l hh s hl hhh hs
      cases hc : (Nat.ble l hh && Nat.ble hh k) <;> simp only [hc, cond_true, cond_false] at e
      · cases e
      simp only [Bool.and_eq_true] at hc
      have c1 := Nat.le_of_ble_eq_true hc.1
      have c2 := Nat.le_of_ble_eq_true hc.2
      have hMX : MX = none := by cases MX with
        | none => rfl
        | some _ => exact hmx.elim
      subst hMX
      have bl := boundA_ok hl hlo
      have bh := boundA_ok hhh hhi
      have bl' : ∃ v, (lo = none ∧ LO = none ∧ l = 0) ∨ (lo = some v ∧ ∃ k, LO = some (.int k l)) := by
        rcases bl with h' | ⟨h', k, hk⟩
        · exact ⟨undef, .inl h'⟩
        · obtain ⟨v, hv⟩ := Option.isSome_iff_exists.1 h'
          exact ⟨v, .inr ⟨hv, k, hk⟩⟩
      have bh' : (hi = none ∧ HI = none ∧ hh = k) ∨ ∃ k, HI = some (.int k hh) := by
        rcases bh with h' | ⟨_, k, hk⟩
        · exact .inl h'
        · exact .inr ⟨k, hk⟩
      obtain ⟨b, hb, rfl⟩ := Rl_ptr.1 hx
      have := run_bounds (P := P) (w := w) false (MX := none) bl' bh' (.inl ⟨rfl, rfl⟩) c1 c2 (Nat.le_refl k)
      refine ⟨.slice (some (if k = l then ⟨b.1, off, none⟩ else (⟨b.1, off, none⟩ : Addr).add (l * s))) (hh - l) (k - l), by simp only [Instr.sliceAt, Sem.run_bind, run_under hu, Result.andThen_ok, Instr.sureAddr, this, run_sizeA hs, Sem.run_pure], ?_⟩
      simp only [Option.some.injEq] at e
      subst e
      refine Rl_slice.2 ⟨b, hb, ?_⟩
      by_cases hcl : k = l
      · have : Nat.beq l k = true := beq_yes hcl.symm
        simp [hcl, this]
      · have : Nat.beq l k = false := beq_no (Ne.symm hcl)
        simp [hcl, this, add_at]
    · cases e
  · cases e
/-- What a slice stands for, by its form. -/
theorem Rl_slice_any {a : Option Addr} {len c : Nat} {X : Value} (hx : Rl ρ ε (.slice a len c) X) : ∃ A C, X = .slice A len C := by
  cases a with
  | none => have := (Rl_self rfl).1 hx; exact ⟨_, _, this⟩
  | some a =>
    obtain ⟨id, off, sp⟩ := a
    cases sp with
    | none => obtain ⟨b, _, rfl⟩ := Rl_slice.1 hx; exact ⟨_, _, rfl⟩
    | some alt => obtain ⟨b, _, rfl, _⟩ := Rl_sliceO.1 hx; exact ⟨_, _, rfl⟩
theorem EntR.length : ∀ {r : List (Value × Value × Nat)} {R : List MapEntry}, EntR ρ ε r R → R.length = r.length
  | [], [], _ => rfl
  | _ :: _, _ :: _, h => by simp [EntR.length h.2.2.2.2]
  | [], _ :: _, h => h.elim
  | _ :: _, [], h => h.elim
theorem len_slice {t el : TypeId} {ats : Array TypeId} {ty : TypeId} {a : Option Addr} {len c : Nat} {X : Value} (hx : Rl ρ ε (.slice a len c) X) (hat : ats[0]? = some t) (hu : P.underlying t = some (.slice el)) (w : World) :
    (Builtin.len_ ats ty #[X]).run P w = .ok (.int .i64 len) w := by
  obtain ⟨A, C, rfl⟩ := Rl_slice_any hx
  simp [Builtin.len_, hat, run_under hu, goInt]
theorem len_map {t k el : TypeId} {ats : Array TypeId} {ty : TypeId} {id : Nat} {X : Value} {h : T HO} {o : HO} {es : List (Value × Value × Nat)} (hx : Rl ρ ε (.map (some id)) X) (ho : tget h id = some o) (hes : o.asMap = some es) (hat : ats[0]? = some t) (hu : P.underlying t = some (.map k el)) (hm : Mod P ρ ε base w (tget h)) :
    (Builtin.len_ ats ty #[X]).run P w = .ok (.int .i64 es.length) w := by
  obtain ⟨b, hb, rfl⟩ := Rl_map.1 hx
  obtain ⟨b', ES, g1, g2, g3, g4, -⟩ := hm.mapO ho hes
  rw [hb] at g1; cases g1
  have hl := g4.length
  simp [Builtin.len_, hat, run_under hu, goInt, getObj, Sem.run, g3, hl]
theorem plain_slice {sp : Option Nat} {id off len c : Nat} {X : Value} (hp : plainSp sp off = true) (hx : Rl ρ ε (.slice (some ⟨id, off, sp⟩) len c) X) : ∃ b, ρ id = some b ∧ ∃ C, X = .slice (some ⟨b.1, off, none⟩) len C := by
  cases sp with
  | none => obtain ⟨b, hb, rfl⟩ := Rl_slice.1 hx; exact ⟨b, hb, _, rfl⟩
  | some alt =>
    have := Nat.eq_of_beq_eq_true (show Nat.beq alt off = true from hp)
    subst this
    obtain ⟨b, hb, rfl, _⟩ := Rl_sliceO.1 hx
    refine ⟨b, hb, b.2 - c, ?_⟩
    rw [ite_self]
theorem rowPart_eq {s id off len : Nat} {h : T HO} {l : List Value} (e : rowPartA s id off len h = some l) : ∃ o r, tget h id = some o ∧ o.asRow = some r ∧ getMany r off (len * s) = some l := by
  unfold rowPartA at e
  split at e
  · rename_i o ho
    split at e
    · rename_i r hr; exact ⟨o, r, ho, hr, e⟩
    · cases e
  · cases e
/-- The cells that are appended or copied. -/
theorem source_ok {s m : Nat} {y Y : Value} {cs : List Value} {h : T HO} (e : sourceA s y h = some (m, cs)) (hy : Rl ρ ε y Y) (hm : Mod P ρ ε base w (tget h)) :
    (Builtin.lenOf Y).run P w = .ok m w ∧ cs.length = m * s ∧ ∃ CS, RlL ρ ε cs CS ∧ ∀ k, k ≤ m → (Builtin.firstCells s k Y).run P w = .ok (CS.take (k * s)).toArray w := by
  have empty : ∀ {A : Option Addr} {C : Nat}, Y = .slice A 0 C → (Builtin.lenOf Y).run P w = .ok 0 w ∧ ([] : List Value).length = 0 * s ∧ ∃ CS, RlL ρ ε [] CS ∧ ∀ k, k ≤ 0 → (Builtin.firstCells s k Y).run P w = .ok (CS.take (k * s)).toArray w := by
    rintro A C rfl
    refine ⟨by simp [Builtin.lenOf], by simp, [], trivial, fun k hk => ?_⟩
    obtain rfl : k = 0 := by omega
    cases A <;> simp [Builtin.firstCells, loadCells, loadCellsFrom]
  unfold sourceA at e
  split at e
  · rename_i len c
    cases hl : Nat.beq len 0 <;> simp only [hl, cond_true, cond_false] at e
    · cases e
    have := Nat.eq_of_beq_eq_true hl
    subst this
    simp only [Option.some.injEq, Prod.mk.injEq] at e
    obtain ⟨rfl, rfl⟩ := e
    have := (Rl_self rfl).1 hy
    exact empty this
  · rename_i id off sp len c
    cases hl : Nat.beq len 0 <;> simp only [hl, cond_true, cond_false] at e
    · cases hp : plainSp sp off <;> simp only [hp, cond_true, cond_false] at e
      · cases e
      obtain ⟨b, hb, C, rfl⟩ := plain_slice hp hy
      split at e
      · rename_i l hg
        simp only [Option.some.injEq, Prod.mk.injEq] at e
        obtain ⟨rfl, rfl⟩ := e
        obtain ⟨o, r, ho, hr, hg⟩ := rowPart_eq hg
        obtain ⟨e1, e2, e3⟩ := getMany_eq hg
        obtain ⟨b', CS, tl, el, fr, g1, g2, g3, g4, -⟩ := hm.row ho hr
        rw [hb] at g1; cases g1
        have hCS := g4.length
        refine ⟨by simp [Builtin.lenOf], e2, (CS.drop off).take (len * s), ?_, fun k hk => ?_⟩
        · rw [e1]; exact (g4.drop off).take _
        · have hks : k * s ≤ len * s := Nat.mul_le_mul_right s hk
          rw [List.take_take, Nat.min_eq_left hks]
          simp only [Builtin.firstCells]
          exact loadCells_row g3 off (k * s) (fun h => by have := e3 (by omega); omega)
      · cases e
    · have := Nat.eq_of_beq_eq_true hl
      subst this
      simp only [Option.some.injEq, Prod.mk.injEq] at e
      obtain ⟨rfl, rfl⟩ := e
      obtain ⟨A, C, hX⟩ := Rl_slice_any hy
      exact empty hX
  · rename_i b
    cases hs : Nat.beq s 1 <;> simp only [hs, cond_true, cond_false] at e
    · cases e
    have := Nat.eq_of_beq_eq_true hs
    subst this
    simp only [Option.some.injEq, Prod.mk.injEq] at e
    obtain ⟨rfl, rfl⟩ := e
    have := Rl_string.1 hy
    subst this
    have hlen : (bytesOf b).length = b.size * 1 := by unfold bytesOf; rw [List.length_map, Nat.mul_one]; rfl
    refine ⟨by simp [Builtin.lenOf], hlen, bytesOf b, ?_, fun k hk => ?_⟩
    · unfold bytesOf
      generalize b.data.toList = l
      induction l with
      | nil => trivial
      | cons x r ih => exact ⟨Rl_int.2 rfl, ih⟩
    · simp only [Builtin.firstCells, Sem.run_pure, Nat.mul_one]
      congr 1
      apply Array.ext'
      have hd : (b.extract 0 k).data.toList = b.data.toList.take k := by
        rw [Lib.extract_data]
        simp
      rw [Array.toList_map, hd]
      simp only [bytesOf, List.map_take]
  · cases e
end
end Go.Proofs.YtefnfbidphmgoaaDoor.Ex
