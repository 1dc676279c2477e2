/- A reckoner for runs of fixed texts, eighth part: append, copy, clear, maps, texts. No conditions. -/
import Derived.Test.YtefnfbidphmgoaaDoorExG
set_option linter.unusedVariables false
set_option linter.unusedSimpArgs false
namespace Go.Proofs.YtefnfbidphmgoaaDoor.Ex
open Go Go.RowKit

section
variable {P : Program} {ε : Nat → Option Value} {base : Base} {ρ : Rho} {w : World}

theorem growBy_le (n : Nat) : ∀ (r c : Nat), c ≤ 2 * n + 192 → Builtin.growBy n r c ≤ 2 * n + 192
  | 0, c, h => by simpa [Builtin.growBy] using h
  | r + 1, c, h => by
    simp only [Builtin.growBy]
    split
    · exact h
    · exact growBy_le n r _ (by omega)
theorem nextslicecap_le (n c : Nat) (h : c < n) : Builtin.nextslicecap n c ≤ 2 * n + 192 := by
  unfold Builtin.nextslicecap
  split
  · omega
  · split
    · omega
    · exact growBy_le n 4 c (by omega)
theorem zeroCells_eq {z : Value} {s : Nat} (hs : (cellsOf z).length = s) (n : Nat) : Builtin.zeroCells z.cells n = (rep (cellsOf z) n).toArray := by
  have hz : z.cells = (cellsOf z).toArray := by rw [← cells_cellsOf]
  have hsz : z.cells.size = s := by rw [hz]; simpa using hs
  unfold Builtin.zeroCells
  rw [hsz]
  have := range_rep (z := z) (n := n) hs
  rw [hsz] at this
  exact this
/-- append, with room. -/
theorem run_append_fits {t u : TypeId} {ats : Array TypeId} {ty : TypeId} {el : TypeId} {d : TypeDesc} {s len C m : Nat} {A : Option Addr} {Y : Value} {L : List Value} {w' : World} (ht : ats[0]? = some t) (hu : ats[1]? = some u) (h1 : P.underlying t = some (.slice el)) (h2 : P.underlying u = some d) (hd : ∀ k, d ≠ .int k)
    (hs : sizeA P el = some s) (hl : (Builtin.lenOf Y).run P w = .ok m w) (hc : (Builtin.firstCells s m Y).run P w = .ok L.toArray w) (hfit : len + m ≤ C)
    (hst : (match A with | some a => storeCells (a.add (len * s)) L | none => pure ()).run P w = .ok () w') :
    (Builtin.append_ ats ty #[.slice A len C, Y]).run P w = .ok (.slice A (len + m) C) w' := by
  have hz : (d matches .int _) = false := by cases d <;> first | rfl | exact absurd rfl (hd _)
  simp only [Builtin.append_, ht, hu, Sem.run_bind, run_under h1, run_under h2, Result.andThen_ok, run_sizeA hs, Sem.run_pure, List.getElem?_toArray, List.getElem?_cons_zero, List.getElem?_cons_succ, hz, Bool.false_eq_true, if_false, hl, Bool.not_false, if_true, hfit, hc]
  cases A with
  | none => simp only [Sem.run_pure] at hst ⊢; cases hst; simp
  | some a => simp only at hst ⊢; simp [hst]
/-- append, without room. -/
theorem run_append_grows {t u : TypeId} {ats : Array TypeId} {ty : TypeId} {el : TypeId} {d : TypeDesc} {s len C m : Nat} {A : Option Addr} {Y z : Value} {L OLD : List Value} {i : TypeInfo} (ht : ats[0]? = some t) (hu : ats[1]? = some u) (h1 : P.underlying t = some (.slice el)) (h2 : P.underlying u = some d) (hd : ∀ k, d ≠ .int k)
    (hs : sizeA P el = some s) (hi : P.info? el = some i) (hz : zeroA P el = some z) (hzl : (cellsOf z).length = s) (hl : (Builtin.lenOf Y).run P w = .ok m w) (hc : ∀ w' : World, w'.heap = w.heap → (Builtin.firstCells s m Y).run P w' = .ok L.toArray w') (hfit : ¬ len + m ≤ C)
    (ho : ∀ w' : World, w'.heap = w.heap → (Builtin.firstCells s len (.slice A len C)).run P w' = .ok OLD.toArray w') (hg : growOk (len + m) i.bytes = true) :
    ∃ cap, len + m ≤ cap ∧ (Builtin.append_ ats ty #[.slice A len C, Y]).run P w = .ok (.slice (some ⟨w.heap.size, 0, none⟩) (len + m) cap) (w.drew.alloc (.cells ((OLD ++ L) ++ rep (cellsOf z) (cap - (len + m))).toArray el)) := by
  have hzz : (d matches .int _) = false := by cases d <;> first | rfl | exact absurd rfl (hd _)
  unfold growOk at hg
  simp only [Bool.and_eq_true] at hg
  have g1 := Nat.le_of_ble_eq_true hg.1
  have g2 := Nat.le_of_ble_eq_true hg.2
  have hn := nextslicecap_le (len + m) C (by omega)
  have hmul : Builtin.nextslicecap (len + m) C * i.bytes ≤ 100000000 := Nat.le_trans (Nat.mul_le_mul_right _ hn) g2
  have hbig : ¬ (((len + m : Nat) : Int) > IntKind.i64.max ∧ (False ∨ i.bytes = 0)) := by
    intro h
    have h1 := h.1
    have : IntKind.i64.max = 9223372036854775807 := rfl
    rw [this] at h1
    omega
  have hbig2 : ¬ Builtin.nextslicecap (len + m) C * i.bytes > 2 ^ 48 := by omega
  refine ⟨(len + m) + w.tape w.drawn (.appendCap (len + m) C el) % (2 ^ 63 - (len + m)), by omega, ?_⟩
  have hq : (Question.appendCap (len + m) C el).forced = false := rfl
  have hcut : ∀ x, (Question.appendCap (len + m) C el).cut x = (len + m) + x % (2 ^ 63 - (len + m)) := fun _ => rfl
  have hc' := hc w.drew rfl
  have ho' := ho w.drew rfl
  simp only [Builtin.append_, ht, hu, Sem.run_bind, run_under h1, run_under h2, Result.andThen_ok, run_sizeA hs, Sem.run_pure, List.getElem?_toArray, List.getElem?_cons_zero, List.getElem?_cons_succ, hzz, Bool.false_eq_true, if_false, hl, Bool.not_false, if_true, hfit, typeInfo, run_program, hi, hbig, hbig2, run_choose, hq, hcut, World.drew_eq, run_askRoom, hc', ho', run_zeroA hz, zeroCells_eq hzl, newRow]
  simp
  rfl
theorem Mod.heap {w' : World} {H : Nat → Option HO} (hm : Mod P ρ ε base w H) (hh : w'.heap = w.heap) : Mod P ρ ε base w' H :=
  ⟨fun id o e => by rw [hh]; exact hm.obj id o e, hm.inj, by rw [hh]; exact hm.old⟩
/-- Cells written into a row that the reckoner knows, or none. -/
theorem write_any (hε : ∀ i V, ε i = some V → one V = true) {h : T HO} (hm : Mod P ρ ε base w (tget h)) {id off n : Nat} {o : HO} {cs cs' xs XS : List Value} {b : Nat × Nat} {u U : Value} (ho : tget h id = some o) (hr : o.asRow = some cs) (hro : o.ro = false) (hb : ρ id = some b)
    (hs : setMany cs off xs = some cs') (hx : RlL ρ ε xs XS) (hone : xs.all one = true) (hu : Rl ρ ε u U) :
    ∃ w', (∀ a : Addr, xs = [] ∨ a = ⟨b.1, off, none⟩ → (storeCells a XS).run P w = .ok () w') ∧ Good P ε base ρ w h n ⟨u, tput h id (some { o with cells := cs' }), n, [id]⟩ U w' := by
  by_cases hne : xs = []
  · subst hne
    have hXS : XS = [] := by have := hx.length; exact List.length_eq_zero_iff.1 this
    subst hXS
    have hsame : cs' = cs := by simpa [setMany, eq_comm] using hs
    obtain ⟨b', CS, tl, el, fr, g1, g2, g3, g4, g5, g6, g7, g8, g9, g10⟩ := hm.row ho hr
    rw [hb] at g1; cases g1
    refine ⟨w, fun a _ => by simp [storeCells], ρ, ?_, hu⟩
    refine Step.upd (o := o) (o' := { o with cells := cs' }) (b := b) hm ho hro hro hb (ob := .cells (CS ++ tl).toArray el fr) (fun k => ?_) rfl rfl rfl rfl ?_
    · split
      · rename_i hk; rw [hk]; exact g3
      · rfl
    · unfold ObjR
      rw [if_pos (by exact g6)]
      exact ⟨CS, tl, el, fr, rfl, by rw [hsame]; exact g4, g7, g8, g9⟩
  · obtain ⟨w', h1, h2⟩ := write_ok (n := n) hε hm ho hr hro hb hs hx hone hne hu
    refine ⟨w', fun a ha => ?_, h2⟩
    rcases ha with ha | rfl
    · exact absurd ha hne
    · exact h1
/-- A new row, of which more may follow. -/
theorem ObjR.rowOpen {c s : Nat} {cells CS tl : List Value} {el : TypeId} {fr : Nat × Nat} {m : Bool} (h : RlL ρ ε cells CS) (hs : sizeA P el = some s) (hl : (CS ++ tl).length = c * s) (hfr : FrOk fr (CS ++ tl).length) (hmk : m = false → fr.1 = fr.2) :
    ObjR P ρ ε c { rowO cells el true with mkd := m } (some (.cells (CS ++ tl).toArray el fr)) := by
  unfold ObjR rowO
  simp only [if_true]
  exact ⟨CS, tl, el, fr, rfl, h, (fun h => by cases h), fun _ => ⟨rfl, hfr, hmk⟩, fun _ s' hs' => by rw [hs] at hs'; cases hs'; exact hl⟩
theorem ObjR.rowOpen0 {c s : Nat} {cells CS tl : List Value} {el : TypeId} (h : RlL ρ ε cells CS) (hs : sizeA P el = some s) (hl : (CS ++ tl).length = c * s) : ObjR P ρ ε c (rowO cells el true) (some (.cells (CS ++ tl).toArray el)) :=
  ObjR.rowOpen (m := false) h hs hl (.inl rfl) fun _ => rfl
theorem Step.drewFirst {w' : World} {h h' : T HO} {n n' : Nat} {ρ' : Rho} {ws : List Nat} (hm : Mod P ρ ε base w (tget h)) (k : Step P ε base ρ w.drew (tget h) n ρ' w' (tget h') n' ws) : Step P ε base ρ w (tget h) n ρ' w' (tget h') n' ws where
  ext := k.ext
  out := k.out
  fr := k.fr
  nle := k.nle
  mod := k.mod
  keep := k.keep
  frame := k.frame
  wsn := k.wsn
  wro := k.wro
  size := k.size
  os := k.os
  tape := k.tape
  output := k.output
  fresh := k.fresh
/-- The cells that come behind: how append runs with room, and without. -/
structure Runs2 (P : Program) (w : World) (ats : Array TypeId) (ty : TypeId) (Y : Value) (el s m : Nat) (z : Value) (NEW : List Value) : Prop where
  fits : ∀ (A : Option Addr) (len C : Nat) (w' : World), len + m ≤ C → (match A with | some a => storeCells (a.add (len * s)) NEW | none => pure ()).run P w = .ok () w' → (Builtin.append_ ats ty #[.slice A len C, Y]).run P w = .ok (.slice A (len + m) C) w'
  grows : ∀ (A : Option Addr) (len C : Nat) (OLD : List Value), ¬ len + m ≤ C → (∀ w' : World, w'.heap = w.heap → (Builtin.firstCells s len (.slice A len C)).run P w' = .ok OLD.toArray w') → growOk (len + m) (bytesA P el) = true →
    ∃ cap, len + m ≤ cap ∧ (Builtin.append_ ats ty #[.slice A len C, Y]).run P w = .ok (.slice (some ⟨w.heap.size, 0, none⟩) (len + m) cap) (w.drew.alloc (.cells ((OLD ++ NEW) ++ rep (cellsOf z) (cap - (len + m))).toArray el))
theorem own_ok (hε : ∀ i V, ε i = some V → one V = true) {el s m id off len c : Nat} {sp : Option Nat} {z : Value} {ats : Array TypeId} {ty : TypeId} {X Y : Value} {new NEW : List Value} {h : T HO} {n : Nat} {o : HO} {cs : List Value} (e : ownRow el s id off sp len c h = some (o, cs)) (hx : Rl ρ ε (.slice (some ⟨id, off, sp⟩) len c) X) (hs : sizeA P el = some s) (hzl : (cellsOf z).length = s)
    (hNEW : RlL ρ ε new NEW) (hnew : new.length = m * s) (hone : new.all one = true) (hgrow : growOk (len + m) (bytesA P el) = true) (R : Runs2 P w ats ty Y el s m z NEW) (hm : Mod P ρ ε base w (tget h)) (hf : ρ n = none) (hb : base.n ≤ w.heap.size) :
    ∃ V w', (Builtin.append_ ats ty #[X, Y]).run P w = .ok V w' ∧ Good P ε base ρ w h n ⟨.slice (some ⟨n, 0, some 0⟩) (len + m) 0, tput (tput h id none) n (some { rowO (cs ++ new) el true with mkd := o.mkd }), n + 1, [id, n]⟩ V w' := by
  have hNl := hNEW.length
  unfold ownRow at e
  split at e
  · cases e
  rename_i o' ho
  split at e
  · cases e
  rename_i cs' hr
  cases hro : (!o'.ro && ownB el s o' off sp len c cs') <;> simp only [hro, cond_true, cond_false] at e
  · cases e
  cases e
  simp only [Bool.and_eq_true] at hro
  obtain ⟨hro, hown⟩ := hro
  have hro : o.ro = false := by simpa using hro
  obtain ⟨b, CS, tl, el', fr, g1, g2, g3, g4, g5, g6, g7, g8, g9, g10⟩ := hm.row ho hr
  have hCS := g4.length
  cases sp with
  | some alt =>
    simp only [ownB, Bool.and_eq_true] at hown
    obtain ⟨⟨⟨⟨⟨q1, q2⟩, q3⟩, q4⟩, q5⟩, q6⟩ := hown
    have q1 := Nat.eq_of_beq_eq_true q1
    have q2 := Nat.eq_of_beq_eq_true q2
    have q3 := Nat.eq_of_beq_eq_true q3
    have q5 := Nat.eq_of_beq_eq_true q5
    have q6 := Nat.eq_of_beq_eq_true q6
    subst q1 q2 q3
    obtain ⟨b', hb', rfl, hle⟩ := Rl_sliceO.1 hx
    rw [g1] at hb'; cases hb'
    have htot := g9 q4 s (by rw [q5]; exact hs)
    obtain ⟨f1, f2, f3⟩ := g8 hro
    have hload : ∀ w' : World, w'.heap = w.heap → (loadCells ⟨b.1, 0, none⟩ (len * s)).run P w' = .ok CS.toArray w' := fun w' hh => by
      have := loadCells_row (P := P) (w := w') (by rw [hh]; exact g3) 0 (len * s) (fun hp => by omega)
      rw [List.drop_zero, List.take_of_length_le (by rw [hCS, q6]; exact Nat.le_refl _)] at this
      exact this
    simp only [ite_self, Nat.sub_zero] at hx ⊢
    by_cases hroom : len + m ≤ b.2
    · have hml : len * s + m * s ≤ b.2 * s := by rw [← Nat.add_mul]; exact Nat.mul_le_mul_right s hroom
      simp only [List.length_append] at htot
      have hst := storeCells_fr (P := P) b.1 (len * s) el' fr NEW 0 _ w g3 (by simpa using f2.free) (by simp; omega) (hNEW.ones hε hone)
      refine ⟨.slice (some ⟨b.1, 0, none⟩) (len + m) b.2, _, R.fits (some ⟨b.1, 0, none⟩) len b.2 _ hroom (by simp only [add_at, Nat.zero_add]; exact hst), ?_⟩
      refine ⟨upR ρ n (b.1, b.2), Step.renamed (o := o) (b := b) (c := b.2) hm hf ho hro g1 (fun k => setRow_get g3 _ k) (by simp [World.setRow]) rfl rfl rfl ?_, Rl_sliceO.2 ⟨(b.1, b.2), by simp [upR], by simp, by simp; omega⟩⟩
      have hcells : ((CS ++ tl).toArray.toList.take (len * s + 0) ++ NEW ++ (CS ++ tl).toArray.toList.drop (len * s + 0 + NEW.length)) = (CS ++ NEW) ++ tl.drop NEW.length := by
        have hlc : CS.length = len * s := by omega
        simp only [Nat.add_zero]
        rw [List.take_append_of_le_length (by omega), List.take_of_length_le (by omega)]
        rw [← hlc, List.drop_length_add_append]
      rw [hcells]
      subst f1
      refine q5 ▸ ObjR.rowOpen (c := b.2) (fr := fr) (m := o.mkd) (g4.append hNEW) (s := s) (by rw [q5]; exact hs) ?_ (f2.imp (fun h => h) fun h => ?_) f3
      · simp only [List.length_append, List.length_drop]; omega
      · simp only [List.length_append, List.length_drop] at h ⊢; omega
    · obtain ⟨cap, hcap, hrun⟩ := R.grows (some ⟨b.1, 0, none⟩) len b.2 CS hroom (fun w' hh => by simp only [Builtin.firstCells]; exact hload w' hh) hgrow
      refine ⟨_, _, hrun, ?_⟩
      refine ⟨_, Step.drewFirst hm (Step.newGone (c := cap) (o := o) (hm.heap rfl) hf ho hro (by simpa using hb) rfl rfl rfl rfl (ObjR.rowOpen (m := o.mkd) (g4.append hNEW) hs (tl := rep (cellsOf z) (cap - (len + m))) ?_ (.inl rfl) fun _ => rfl)), Rl_sliceO.2 ⟨_, by simp [upR]; rfl, ?_, by simp; omega⟩⟩
      · rw [List.length_append, List.length_append, rep_length, hNl, hnew, hzl, show CS.length = len * s by omega, ← Nat.add_mul, ← Nat.add_mul]
        congr 1
        omega
      · simp
  | none =>
    simp only [ownB, Bool.and_eq_true] at hown
    obtain ⟨⟨⟨⟨q1, q2⟩, q4⟩, q5⟩, q6⟩ := hown
    have q1 := Nat.eq_of_beq_eq_true q1
    have q2 := Nat.eq_of_beq_eq_true q2
    have q4 := Nat.eq_of_beq_eq_true q4
    have q6 := Nat.eq_of_beq_eq_true q6
    have q5 : o.opn = false := by simpa using q5
    subst q1 q2
    obtain ⟨b', hb', rfl⟩ := Rl_slice.1 hx
    rw [g1] at hb'; cases hb'
    obtain ⟨f1, f2, f3⟩ := g8 hro
    have htl : tl = [] := g7 q5
    subst htl
    by_cases hm0 : m = 0
    · subst hm0
      have hN0 : NEW = [] := List.length_eq_zero_iff.1 (by rw [hNl, hnew]; simp)
      have hn0 : new = [] := List.length_eq_zero_iff.1 (by rw [hnew]; simp)
      subst hN0 hn0
      refine ⟨_, w, R.fits (some ⟨b.1, 0, none⟩) len len w (Nat.le_refl _) (by simp [storeCells]), ?_⟩
      refine ⟨upR ρ n (b.1, len), Step.renamed (o := o) (b := b) (c := len) hm hf ho hro g1 (ob := .cells (CS ++ [] : List Value).toArray el' fr) (fun k => ?_) rfl rfl rfl rfl ?_, Rl_sliceO.2 ⟨(b.1, len), by simp [upR], by simp, by simp⟩⟩
      · split
        · rename_i hk; rw [hk]; exact g3
        · rfl
      · subst f1
        refine q6 ▸ ObjR.rowOpen (c := len) (fr := fr) (m := o.mkd) (tl := []) (show RlL ρ ε (cs ++ []) CS by rw [List.append_nil]; exact g4) (s := s) (by rw [q6]; exact hs) (by simp; omega) f2 f3
    · have hload : ∀ w' : World, w'.heap = w.heap → (loadCells ⟨b.1, 0, none⟩ (len * s)).run P w' = .ok CS.toArray w' := fun w' hh => by
        have := loadCells_row (P := P) (w := w') (by rw [hh]; exact g3) 0 (len * s) (fun hp => by omega)
        rw [List.drop_zero, List.take_of_length_le (by rw [hCS, q4]; exact Nat.le_refl _)] at this
        exact this
      obtain ⟨cap, hcap, hrun⟩ := R.grows (some ⟨b.1, 0, none⟩) len len CS (by omega) (fun w' hh => by simp only [Builtin.firstCells]; exact hload w' hh) hgrow
      refine ⟨_, _, hrun, ?_⟩
      refine ⟨_, Step.drewFirst hm (Step.newGone (c := cap) (o := o) (hm.heap rfl) hf ho hro (by simpa using hb) rfl rfl rfl rfl (ObjR.rowOpen (m := o.mkd) (g4.append hNEW) hs (tl := rep (cellsOf z) (cap - (len + m))) ?_ (.inl rfl) fun _ => rfl)), Rl_sliceO.2 ⟨_, by simp [upR]; rfl, ?_, by simp; omega⟩⟩
      · rw [List.length_append, List.length_append, rep_length, hNl, hnew, hzl, show CS.length = len * s by omega, ← Nat.add_mul, ← Nat.add_mul]
        congr 1
        omega
      · simp
theorem core_ok (hε : ∀ i V, ε i = some V → one V = true) {el s m : Nat} {z : Value} {ats : Array TypeId} {ty : TypeId} {x X Y : Value} {new NEW : List Value} {h : T HO} {n : Nat} {r : Out} (e : appendCore el s m new x h n = some r) (hx : Rl ρ ε x X) (hs : sizeA P el = some s) (hzl : (cellsOf z).length = s)
    (hNEW : RlL ρ ε new NEW) (hnew : new.length = m * s) (hone : new.all one = true) (hgrow : growOk (lenOfA x + m) (bytesA P el) = true) (R : Runs2 P w ats ty Y el s m z NEW) (hm : Mod P ρ ε base w (tget h)) (hf : ∀ id, n ≤ id → id < r.next → ρ id = none) (hb : base.n ≤ w.heap.size) :
    ∃ V w', (Builtin.append_ ats ty #[X, Y]).run P w = .ok V w' ∧ Good P ε base ρ w h n r V w' := by
  have hNl := hNEW.length
  unfold appendCore at e
  split at e
  · -- nil
    rename_i len c
    cases hc3 : (Nat.beq len 0 && Nat.beq c 0) <;> simp only [hc3, cond_true, cond_false] at e
    · cases e
    simp only [Bool.and_eq_true] at hc3
    have := Nat.eq_of_beq_eq_true hc3.1
    subst this
    have := Nat.eq_of_beq_eq_true hc3.2
    subst this
    have := (Rl_self rfl).1 hx
    subst this
    cases hm0 : Nat.beq m 0 <;> simp only [hm0, cond_true, cond_false] at e
    · have hmpos := ne_of_beq hm0
      obtain ⟨cap, hcap, hrun⟩ := R.grows none 0 0 [] (by omega) (fun w' _ => by simp [Builtin.firstCells]) hgrow
      refine ⟨_, _, hrun, ?_⟩
      have he := newA_eq e
      subst he
      refine ⟨_, Step.drewFirst hm (Step.new (c := cap) (hm.heap rfl) (hf n (Nat.le_refl _) (by simp)) (by simpa using hb) rfl rfl rfl rfl (ObjR.rowOpen0 hNEW hs (tl := rep (cellsOf z) (cap - (0 + m))) ?_)), Rl_sliceO.2 ⟨_, by simp [upR]; rfl, ?_, by simp; omega⟩⟩
      · rw [List.nil_append, List.length_append, rep_length, hNl, hnew, hzl, Nat.zero_add, ← Nat.add_mul]
        congr 1
        omega
      · simp
    · have := Nat.eq_of_beq_eq_true hm0
      subst this
      simp only [Option.some.injEq] at e
      subst e
      exact ⟨_, _, R.fits none 0 0 w (by omega) (by simp), Good.val hm hx⟩
  · rename_i id off sp len c
    split at e
    · rename_i o cs how
      simp only [Option.some.injEq] at e
      subst e
      exact own_ok hε how hx hs hzl hNEW hnew hone hgrow R hm (hf n (Nat.le_refl _) (by simp)) hb
    rename_i hown
    cases hc3 : (Nat.beq m 0 && Nat.ble len c && fixSp sp) <;> simp only [hc3, cond_true, cond_false] at e
    · split at e
      · cases e
      rename_i o ho
      split at e
      · cases e
      rename_i cs hr
      cases hro : o.ro <;> simp only [hro, cond_true, cond_false] at e
      case true => cases e
      cases hfit : Nat.ble (len + m) (capLow h el s id off sp len c) <;> simp only [hfit, cond_true, cond_false] at e
      · have hnfit : ¬ len + m ≤ capLow h el s id off sp len c := fun hle => by rw [Nat.ble_eq_true_of_le hle] at hfit; cases hfit
        split at e
        · cases e
        rename_i old hold
        obtain ⟨e1, e2, e3⟩ := getMany_eq hold
        obtain ⟨b, CS, tl, el', fr, g1, g2, g3, g4, g5, g6, g7, g8, g9, g10⟩ := hm.row ho hr
        have hCS := g4.length
        have holdR : RlL ρ ε old ((CS.drop off).take (len * s)) := by rw [e1]; exact (g4.drop off).take _
        have hload : ∀ w' : World, w'.heap = w.heap → (loadCells ⟨b.1, off, none⟩ (len * s)).run P w' = .ok ((CS.drop off).take (len * s)).toArray w' := fun w' hh => loadCells_row (by rw [hh]; exact g3) off (len * s) (fun hp => by have := e3 hp; omega)
        cases sp with
        | none =>
          simp only at e
          obtain ⟨b', hb', rfl⟩ := Rl_slice.1 hx
          rw [g1] at hb'; cases hb'
          have hnf : ¬ len + m ≤ c := hnfit
          obtain ⟨cap, hcap, hrun⟩ := R.grows (some ⟨b.1, off, none⟩) len c ((CS.drop off).take (len * s)) hnf (fun w' hh => by simp only [Builtin.firstCells]; exact hload w' hh) hgrow
          refine ⟨_, _, hrun, ?_⟩
          have he := newA_eq e
          subst he
          refine ⟨_, Step.drewFirst hm (Step.new (c := cap) (hm.heap rfl) (hf n (Nat.le_refl _) (by simp)) (by simpa using hb) rfl rfl rfl rfl (ObjR.rowOpen0 (holdR.append hNEW) hs (tl := rep (cellsOf z) (cap - (len + m))) ?_)), Rl_sliceO.2 ⟨_, by simp [upR]; rfl, ?_, by simp; omega⟩⟩
          · have hol := holdR.length
            rw [List.length_append, List.length_append, rep_length, hol, e2, hNl, hnew, hzl, ← Nat.add_mul, ← Nat.add_mul]
            congr 1
            omega
          · simp
        | some alt =>
          simp only at e
          cases hc4 : (Nat.beq off 0 && Nat.beq alt 0 && Nat.beq c 0 && o.opn && Nat.beq o.elem el && Nat.beq cs.length (len * s)) <;> simp only [hc4, cond_true, cond_false] at e
          · cases e
          simp only [Bool.and_eq_true] at hc4
          obtain ⟨⟨⟨⟨⟨q1, q2⟩, q3⟩, q4⟩, q5⟩, q6⟩ := hc4
          have q1 := Nat.eq_of_beq_eq_true q1
          have q2 := Nat.eq_of_beq_eq_true q2
          have q3 := Nat.eq_of_beq_eq_true q3
          have q5 := Nat.eq_of_beq_eq_true q5
          have q6 := Nat.eq_of_beq_eq_true q6
          subst q1 q2 q3
          simp only [Option.some.injEq] at e
          subst e
          obtain ⟨b', hb', rfl, hle⟩ := Rl_sliceO.1 hx
          rw [g1] at hb'; cases hb'
          have htot := g9 q4 s (by rw [q5]; exact hs)
          obtain ⟨f1, f2, f3⟩ := g8 hro
          have hCStake : (CS.drop 0).take (len * s) = CS := by rw [List.drop_zero]; exact List.take_of_length_le (by rw [hCS, q6]; exact Nat.le_refl _)
          rw [hCStake] at holdR hload
          simp only [ite_self, Nat.sub_zero] at hx ⊢
          by_cases hroom : len + m ≤ b.2
          · have hml : len * s + m * s ≤ b.2 * s := by rw [← Nat.add_mul]; exact Nat.mul_le_mul_right s hroom
            simp only [List.length_append] at htot
            have hst := storeCells_fr (P := P) b.1 (len * s) el' fr NEW 0 _ w g3 (by simpa using f2.free) (by simp; omega) (hNEW.ones hε hone)
            refine ⟨.slice (some ⟨b.1, 0, none⟩) (len + m) b.2, _, R.fits (some ⟨b.1, 0, none⟩) len b.2 _ hroom (by simp only [add_at, Nat.zero_add]; exact hst), ?_⟩
            refine ⟨upR ρ n (b.1, b.2), Step.renamed (o := o) (b := b) (c := b.2) hm (hf n (Nat.le_refl _) (by simp)) ho hro g1 (fun k => setRow_get g3 _ k) (by simp [World.setRow]) rfl rfl rfl ?_, Rl_sliceO.2 ⟨(b.1, b.2), by simp [upR], by simp, by simp; omega⟩⟩
            have hcells : ((CS ++ tl).toArray.toList.take (len * s + 0) ++ NEW ++ (CS ++ tl).toArray.toList.drop (len * s + 0 + NEW.length)) = (CS ++ NEW) ++ tl.drop NEW.length := by
              have hlc : CS.length = len * s := by omega
              simp only [Nat.add_zero]
              rw [List.take_append_of_le_length (by omega), List.take_of_length_le (by omega)]
              rw [← hlc, List.drop_length_add_append]
            rw [hcells]
            subst f1
            refine q5 ▸ ObjR.rowOpen (c := b.2) (fr := fr) (m := o.mkd) (holdR.append hNEW) (s := s) (by rw [q5]; exact hs) ?_ (f2.imp (fun h => h) fun h => ?_) f3
            · simp only [List.length_append, List.length_drop]; omega
            · simp only [List.length_append, List.length_drop] at h ⊢; omega
          · obtain ⟨cap, hcap, hrun⟩ := R.grows (some ⟨b.1, 0, none⟩) len b.2 CS hroom (fun w' hh => by simp only [Builtin.firstCells]; exact hload w' hh) hgrow
            refine ⟨_, _, hrun, ?_⟩
            refine ⟨_, Step.drewFirst hm (Step.newGone (c := cap) (o := o) (hm.heap rfl) (hf n (Nat.le_refl _) (by simp)) ho hro (by simpa using hb) rfl rfl rfl rfl (ObjR.rowOpen (m := o.mkd) (holdR.append hNEW) hs (tl := rep (cellsOf z) (cap - (len + m))) ?_ (.inl rfl) fun _ => rfl)), Rl_sliceO.2 ⟨_, by simp [upR]; rfl, ?_, by simp; omega⟩⟩
            · rw [List.length_append, List.length_append, rep_length, hNl, hnew, hzl, show CS.length = len * s by omega, ← Nat.add_mul, ← Nat.add_mul]
              congr 1
              omega
            · simp
      · have hle := Nat.le_of_ble_eq_true hfit
        split at e
        · rename_i cs' hset
          have e := updA_eq e
          subst e
          obtain ⟨b, CS, tl, el', fr, g1, g2, g3, g4, -⟩ := hm.row ho hr
          cases sp with
          | none =>
            obtain ⟨b', hb', rfl⟩ := Rl_slice.1 hx
            rw [g1] at hb'; cases hb'
            obtain ⟨w', hw1, hw2⟩ := write_any (n := n) (u := .slice (some ⟨id, off, none⟩) (len + m) c) hε hm ho hr hro g1 hset hNEW hone (Rl_slice.2 ⟨b, g1, rfl⟩)
            rw [hro] at hw2
            exact ⟨_, w', R.fits (some ⟨b.1, off, none⟩) len c w' hle (by simp only [add_at]; exact hw1 _ (.inr rfl)), hw2⟩
          | some alt =>
            obtain ⟨b', hb', rfl, hlc⟩ := Rl_sliceO.1 hx
            rw [g1] at hb'; cases hb'
            have hcl := capLow_le hm (off := off) (alt := alt) hs g1 hlc
            obtain ⟨w', hw1, hw2⟩ := write_any (n := n) (u := .slice (some ⟨id, off, some alt⟩) (len + m) c) hε hm ho hr hro g1 hset hNEW hone (Rl_sliceO.2 ⟨b, g1, rfl, by omega⟩)
            rw [hro] at hw2
            refine ⟨_, w', R.fits (some ⟨b.1, if b.2 = c then alt else off, none⟩) len (b.2 - c) w' (by omega) (hw1 _ ?_), hw2⟩
            by_cases ha : alt = off
            · right; subst ha; rw [ite_self, add_at]
            · left
              have : capLow h el s id off (some alt) len c = len := by
                unfold capLow
                simp only [beq_no ha, Bool.false_and, cond_false]
              rw [this] at hle
              have hm0 : m = 0 := by omega
              rw [hm0] at hnew
              exact List.length_eq_zero_iff.1 (by simpa using hnew)
        · cases e
    · simp only [Bool.and_eq_true] at hc3
      obtain ⟨⟨k1, k2⟩, k3⟩ := hc3
      have := Nat.eq_of_beq_eq_true k1
      subst this
      have k2 := Nat.le_of_ble_eq_true k2
      cases sp with
      | some _ => simp [fixSp] at k3
      | none =>
        simp only [Option.some.injEq] at e
        subst e
        obtain ⟨b, hb', rfl⟩ := Rl_slice.1 hx
        have hN0 : NEW = [] := List.length_eq_zero_iff.1 (by rw [hNl, hnew]; simp)
        subst hN0
        exact ⟨_, w, R.fits (some ⟨b.1, off, none⟩) len c w (by omega) (by simp [storeCells]), Good.val hm hx⟩
  · cases e
theorem bytesA_info {el : TypeId} {i : TypeInfo} (h : P.info? el = some i) : bytesA P el = i.bytes := by simp [bytesA, h]
theorem RlL.det : ∀ {l A B : List Value}, RlL ρ ε l A → RlL ρ ε l B → A = B
  | [], [], [], _, _ => rfl
  | _ :: _, _ :: _, _ :: _, h, k => by rw [h.1.det k.1, h.2.det k.2]
  | [], [], _ :: _, _, k => k.elim
  | [], _ :: _, _, h, _ => h.elim
  | _ :: _, [], _, h, _ => h.elim
  | _ :: _, _ :: _, [], _, k => k.elim
theorem append_ok (hε : ∀ i V, ε i = some V → one V = true) {el t u : TypeId} {d : TypeDesc} {ats : Array TypeId} {ty : TypeId} {x y X Y : Value} {h : T HO} {n : Nat} {r : Out} (e : appendA P el x y h n = some r) (hx : Rl ρ ε x X) (hy : Rl ρ ε y Y) (ht : ats[0]? = some t) (hu : ats[1]? = some u) (h1 : P.underlying t = some (.slice el)) (h2 : P.underlying u = some d) (hd : ∀ k, d ≠ .int k)
    (hm : Mod P ρ ε base w (tget h)) (hf : ∀ id, n ≤ id → id < r.next → ρ id = none) (hb : base.n ≤ w.heap.size) :
    ∃ V w', (Builtin.append_ ats ty #[X, Y]).run P w = .ok V w' ∧ Good P ε base ρ w h n r V w' := by
  unfold appendA at e
  split at e
  case h_2 => cases e
  rename_i s z hs hz
  obtain ⟨i, hi, hiz, hcl⟩ := zeroA_info hz
  cases hc : (Nat.beq (cellsOf z).length s && Nat.blt 0 s) <;> simp only [hc, cond_true, cond_false] at e
  · cases e
  simp only [Bool.and_eq_true] at hc
  have hzl := Nat.eq_of_beq_eq_true hc.1
  split at e
  · cases e
  rename_i m new hsrc
  obtain ⟨hlen, hnew, NEW, hNEW, hfirst⟩ := source_ok hsrc hy hm
  have hNl := hNEW.length
  cases hc2 : (new.all one && growOk (lenOfA x + m) (bytesA P el)) <;> simp only [hc2, cond_true, cond_false] at e
  · cases e
  simp only [Bool.and_eq_true] at hc2
  obtain ⟨hone, hgrow⟩ := hc2
  have htake : NEW.take (m * s) = NEW := List.take_of_length_le (by omega)
  have hfm' : ∀ w' : World, w'.heap = w.heap → (Builtin.firstCells s m Y).run P w' = .ok NEW.toArray w' := fun w' hh => by
    obtain ⟨_, _, N2, hN2, hf2⟩ := source_ok hsrc hy (hm.heap hh)
    rw [hN2.det hNEW] at hf2
    have := hf2 m (Nat.le_refl m)
    rwa [htake] at this
  refine core_ok hε e hx hs hzl hNEW hnew hone hgrow ⟨fun A len C w' hfit hst => run_append_fits ht hu h1 h2 hd hs hlen (hfm' w rfl) hfit hst, fun A len C OLD hnf ho hg => ?_⟩ hm hf hb
  rw [bytesA_info hi] at hg
  exact run_append_grows ht hu h1 h2 hd hs hi hz hzl hlen hfm' hnf ho hg

/-! #### append(x, make([]E, m)...) -/

theorem run_zeros_fits {t u : TypeId} {ats : Array TypeId} {ty : TypeId} {el : TypeId} {ik k : IntKind} {s len C m : Nat} {A : Option Addr} {z : Value} {i : TypeInfo} {w' : World} (ht : ats[0]? = some t) (hu : ats[1]? = some u) (h1 : P.underlying t = some (.slice el)) (h2 : P.underlying u = some (.int ik))
    (hs : sizeA P el = some s) (hi : P.info? el = some i) (hz : zeroA P el = some z) (hzl : (cellsOf z).length = s) (hmb : m * i.bytes ≤ 100000000) (hmm : m ≤ 100000000) (hfit : len + m ≤ C)
    (hst : (match A with | some a => storeCells (a.add (len * s)) (rep (cellsOf z) m) | none => pure ()).run P w = .ok () w') :
    (Builtin.append_ ats ty #[.slice A len C, .int k m]).run P w = .ok (.slice A (len + m) C) w' := by
  have w1 : IntKind.i64.wrap (m : Int) = m := IntWalk.i64_in _ (by omega)
  have t1 : ¬ ((m : Int) * (i.bytes : Int) > 2 ^ 48) := by
    have h1 := Int.ofNat_le.2 hmb
    rw [Int.natCast_mul] at h1
    generalize (m : Int) * (i.bytes : Int) = q at h1 ⊢
    omega
  have hn : ¬ (m : Int) < 0 := by omega
  simp only [Builtin.append_, ht, hu, Sem.run_bind, run_under h1, run_under h2, Result.andThen_ok, run_sizeA hs, Sem.run_pure, List.getElem?_toArray, List.getElem?_cons_zero, List.getElem?_cons_succ, asInt, asIntOf, w1, if_neg hn, typeInfo, run_program, hi, if_neg t1, Int.toNat_natCast, hfit, if_true]
  by_cases h0 : m * s = 0
  · have hr0 : rep (cellsOf z) m = [] := by
      have := rep_length (cellsOf z) m
      rw [hzl, h0] at this
      exact List.length_eq_zero_iff.1 this
    rw [hr0] at hst
    cases A with
    | none => simp only [Sem.run_pure] at hst ⊢; cases hst; simp [h0]
    | some a => simp only at hst ⊢; simp [h0, hst]
  · cases A with
    | none => simp only [Sem.run_pure] at hst ⊢; cases hst; simp [h0, run_zeroA hz]
    | some a => simp only at hst ⊢; simp [h0, run_zeroA hz, zeroCells_eq hzl, hst]
theorem run_zeros_grows {t u : TypeId} {ats : Array TypeId} {ty : TypeId} {el : TypeId} {ik k : IntKind} {s len C m : Nat} {A : Option Addr} {z : Value} {OLD : List Value} {i : TypeInfo} (ht : ats[0]? = some t) (hu : ats[1]? = some u) (h1 : P.underlying t = some (.slice el)) (h2 : P.underlying u = some (.int ik))
    (hs : sizeA P el = some s) (hi : P.info? el = some i) (hz : zeroA P el = some z) (hzl : (cellsOf z).length = s) (hmb : m * i.bytes ≤ 100000000) (hfit : ¬ len + m ≤ C)
    (ho : ∀ w' : World, w'.heap = w.heap → (Builtin.firstCells s len (.slice A len C)).run P w' = .ok OLD.toArray w') (hg : growOk (len + m) i.bytes = true) :
    ∃ cap, len + m ≤ cap ∧ (Builtin.append_ ats ty #[.slice A len C, .int k m]).run P w = .ok (.slice (some ⟨w.heap.size, 0, none⟩) (len + m) cap) (w.drew.alloc (.cells ((OLD ++ rep (cellsOf z) m) ++ rep (cellsOf z) (cap - (len + m))).toArray el)) := by
  unfold growOk at hg
  simp only [Bool.and_eq_true] at hg
  have g1 := Nat.le_of_ble_eq_true hg.1
  have g2 := Nat.le_of_ble_eq_true hg.2
  have hn := nextslicecap_le (len + m) C (by omega)
  have hmul : Builtin.nextslicecap (len + m) C * i.bytes ≤ 100000000 := Nat.le_trans (Nat.mul_le_mul_right _ hn) g2
  have hbig : ¬ (((len + m : Nat) : Int) > IntKind.i64.max ∧ (True ∨ i.bytes = 0)) := by
    intro h
    have h1 := h.1
    have : IntKind.i64.max = 9223372036854775807 := rfl
    rw [this] at h1
    omega
  have hbig2 : ¬ Builtin.nextslicecap (len + m) C * i.bytes > 2 ^ 48 := by omega
  have w1 : IntKind.i64.wrap (m : Int) = m := IntWalk.i64_in _ (by omega)
  have t1 : ¬ ((m : Int) * (i.bytes : Int) > 2 ^ 48) := by
    have h1 := Int.ofNat_le.2 hmb
    rw [Int.natCast_mul] at h1
    generalize (m : Int) * (i.bytes : Int) = q at h1 ⊢
    omega
  have hneg : ¬ (m : Int) < 0 := by omega
  refine ⟨(len + m) + w.tape w.drawn (.appendCap (len + m) C el) % (2 ^ 63 - (len + m)), by omega, ?_⟩
  have hq : (Question.appendCap (len + m) C el).forced = false := rfl
  have hcut : ∀ x, (Question.appendCap (len + m) C el).cut x = (len + m) + x % (2 ^ 63 - (len + m)) := fun _ => rfl
  have ho' := ho w.drew rfl
  have happ : ∀ w' : World, (if m * s = 0 then (pure #[] : Sem (Array Value)) else do pure (Builtin.zeroCells (← zeroValue el).cells m)).run P w' = .ok (rep (cellsOf z) m).toArray w' := fun w' => by
    by_cases h0 : m * s = 0
    · have hr0 : rep (cellsOf z) m = [] := by
        have := rep_length (cellsOf z) m
        rw [hzl, h0] at this
        exact List.length_eq_zero_iff.1 this
      rw [if_pos h0, hr0]; rfl
    · rw [if_neg h0]
      simp only [Sem.run_bind, run_zeroA hz, Result.andThen_ok, zeroCells_eq hzl, Sem.run_pure]
  simp only [Builtin.append_, ht, hu, Sem.run_bind, run_under h1, run_under h2, Result.andThen_ok, run_sizeA hs, Sem.run_pure, List.getElem?_toArray, List.getElem?_cons_zero, List.getElem?_cons_succ, asInt, asIntOf, w1, if_neg hneg, if_neg t1, Int.toNat_natCast, hfit, typeInfo, run_program, hi, if_true, if_false, Bool.not_true, Bool.false_eq_true, hbig, hbig2, run_choose, hq, hcut, World.drew_eq, run_askRoom, ho', happ, run_zeroA hz, zeroCells_eq hzl, newRow]
  simp
  rfl
theorem appendZ_ok (hε : ∀ i V, ε i = some V → one V = true) {el t u : TypeId} {ik : IntKind} {ats : Array TypeId} {ty : TypeId} {x y X Y : Value} {h : T HO} {n : Nat} {r : Out} (e : appendZ P el x y h n = some r) (hx : Rl ρ ε x X) (hy : Rl ρ ε y Y) (ht : ats[0]? = some t) (hu : ats[1]? = some u) (h1 : P.underlying t = some (.slice el)) (h2 : P.underlying u = some (.int ik))
    (hm : Mod P ρ ε base w (tget h)) (hf : ∀ id, n ≤ id → id < r.next → ρ id = none) (hb : base.n ≤ w.heap.size) :
    ∃ V w', (Builtin.append_ ats ty #[X, Y]).run P w = .ok V w' ∧ Good P ε base ρ w h n r V w' := by
  unfold appendZ at e
  split at e
  case h_2 => cases e
  rename_i s z m hs hz hmn
  obtain ⟨i, hi, hiz, hcl⟩ := zeroA_info hz
  cases hc : (Nat.beq (cellsOf z).length s && Nat.blt 0 s && (cellsOf z).all one && Nat.ble (m * bytesA P el) 100000000 && growOk (lenOfA x + m) (bytesA P el)) <;> simp only [hc, cond_true, cond_false] at e
  · cases e
  simp only [Bool.and_eq_true] at hc
  obtain ⟨⟨⟨⟨k1, k2⟩, k3⟩, k4⟩, k5⟩ := hc
  have hzl := Nat.eq_of_beq_eq_true k1
  have k4 := Nat.le_of_ble_eq_true k4
  rw [bytesA_info hi] at k4
  obtain ⟨k, _, rfl⟩ := Rl_nat hmn hy
  have hmm : m ≤ 100000000 := by
    unfold growOk at k5
    simp only [Bool.and_eq_true] at k5
    have := Nat.le_of_ble_eq_true k5.1
    omega
  have hall : (rep (cellsOf z) m).all one = true := by
    have : ∀ n, (rep (cellsOf z) n).all one = true := by
      intro n
      induction n with
      | zero => rfl
      | succ n ih => simp [rep, k3, ih]
    exact this m
  refine core_ok hε e hx hs hzl (RlL_rep (RlL_zero (ρ := ρ) hε hcl) m) (by rw [rep_length, hzl]) hall k5 ⟨fun A len C w' hfit hst => run_zeros_fits ht hu h1 h2 hs hi hz hzl k4 hmm hfit hst, fun A len C OLD hnf ho hg => ?_⟩ hm hf hb
  rw [bytesA_info hi] at hg
  exact run_zeros_grows ht hu h1 h2 hs hi hz hzl k4 hnf ho hg
theorem cap_ok {t el : TypeId} {ats : Array TypeId} {ty : TypeId} {x v X : Value} (e : capA x = some v) (hx : Rl ρ ε x X) (hat : ats[0]? = some t) (hu : P.underlying t = some (.slice el)) (w : World) : (Builtin.cap_ ats ty #[X]).run P w = .ok v w ∧ Rl ρ ε v v := by
  unfold capA at e
  split at e
  · cases e
    obtain ⟨b, hb, rfl⟩ := Rl_slice.1 hx
    exact ⟨by simp [Builtin.cap_, hat, run_under hu, goInt], Rl_int.2 rfl⟩
  · cases e
end
end Go.Proofs.YtefnfbidphmgoaaDoor.Ex
