/- Contracts of small functions: a copy of bytes. No conditions. -/
import Derived.Test.YtefnfbidphmgoaaDoorExX
import Derived.Test.YtefnfbidphmgoaaDoorProg
set_option linter.unusedVariables false
set_option linter.unusedSimpArgs false
set_option maxRecDepth 100000
namespace Go.Proofs.YtefnfbidphmgoaaDoor.Ex
open Go Go.RowKit

theorem hN : noCountB Tryd.prog = true := by kernel_rfl
theorem hmix : Tryd.prog.follows .mixedOrders = true := by kernel_rfl
/-- What a part of a run asks for. -/
theorem env0 {ε : Nat → Option Value} {base : Base} (hε : ∀ i V, ε i = some V → one V = true) : Env Tryd.prog ε base [] := ⟨hε, noCount_of hN, hmix, (fun _ h => by cases h), (fun _ h => by cases h)⟩
/-- A function's text. -/
noncomputable def bodyOf (f : Nat) : Code := match Tryd.prog.funcs[f]? with
  | some fn => fn.body.getD .skip
  | none => .skip

/-! ### base.Bytes: a copy of one's own -/

noncomputable def bytesV : Ent := fun _ args h n => match args with
  | [x] => match winS x h with
    | some (len, L, p) => some (⟨.slice (some ⟨n, 0, some 0⟩) len 0, tput h n (some (rowO L 5 true)), n + 1, [n]⟩, p ∧ L.all one = true ∧ growP len 1)
    | none => none
  | _ => none
theorem winS_nil {len c : Nat} {h : T HO} : winS (.slice none len c) h = some (len, [], len = 0 ∧ c = 0) := rfl
theorem bytes_ok {ε : Nat → Option Value} {base : Base} (hε : ∀ i V, ε i = some V → one V = true) : EntOk Tryd.prog ε base 15 bytesV := by
  intro j args h n r p e hp
  unfold bytesV at e
  split at e
  case h_2 => cases e
  rename_i x
  split at e
  case h_2 => cases e
  rename_i len L q hw
  cases e
  obtain ⟨hq, hone, hgrow⟩ := hp
  have hlen := winS_len hw hq
  have hkeep : ∀ (o : HO) (id : Nat), id ∉ [n] → tget (tput h n (some o)) id = tget h id := fun o id hid => by rw [tget_tput, if_neg (by simpa using hid)]
  unfold winS at hw
  split at hw
  · -- none
    cases hw
    obtain ⟨rfl, rfl⟩ := hq
    refine callOk_none (c := bodyOf 15) (fn := Tryd.f15) (by kernel_rfl) (by kernel_rfl) (of_decide_eq_true (by kernel_rfl)) ⟨1, rfl⟩ (Nat.le_succ n) (fun id hid => by simp at hid; subst hid; exact ⟨Nat.le_refl _, Nat.lt_succ_self _⟩) (hkeep _) ?_
    exact leads_end (env0 hε) 40 40 [] (p := []) (by kernel_rfl) (by kernel_rfl) trivial (Fin.new (k := 1) (vs := [.slice (some ⟨1, 0, some 0⟩) 0 0]) (o1 := rowO [] 5 true) (by kernel_rfl) (.inl rfl) (Nat.zero_le _) ⟨2, rfl⟩ (by kernel_rfl) rfl (renO_row rfl rfl .nil))
  · rename_i id off sp len' c
    split at hw
    case h_2 => cases hw
    rename_i o ho
    cases hk : Nat.beq o.kind 0 <;> simp only [hk, cond_true, cond_false] at hw
    · cases hw
    cases hw
    obtain ⟨q1, q5, q2, q3, q4⟩ := hq
    have hk0 := Nat.eq_of_beq_eq_true hk
    refine callOk_one (c := bodyOf 15) (fn := Tryd.f15) (args0 := [.slice (some ⟨0, off, sp⟩) len c]) (by kernel_rfl) (by kernel_rfl) (of_decide_eq_true (by kernel_rfl)) ⟨2, rfl⟩ ho hk0 q4 q3 (Nat.le_succ n) (fun id hid => by simp at hid; subst hid; exact ⟨Nat.le_refl _, Nat.lt_succ_self _⟩) (hkeep _) ?_
    obtain ⟨ok, oc, oe, oo, orr, om, oes, ock, on⟩ := o
    simp only at hk0 q2 q3 q4
    subst hk0 q4
    exact leads_end (env0 hε) 40 40 [([3, 2], .appO len ((oc.drop off).take len))] (p := [(plainP sp off ∧ fitP off (len * 1) oc.length ∧ (oc.drop off).take (len * 1) = (oc.drop off).take len) ∧ len = len ∧ ((oc.drop off).take len).all one = true ∧ growP (0 + len) 1]) (by kernel_rfl) (by kernel_rfl) ⟨⟨⟨q1, by simpa using q2, by simp⟩, rfl, hone, by simpa using hgrow⟩, trivial⟩
        (Fin.new (k := 2) (vs := [.slice (some ⟨2, 0, some 0⟩) (0 + len) 0]) (o1 := rowO ([] ++ (oc.drop off).take len) 5 true) (by kernel_rfl) (.inl rfl) (by simp) ⟨2, by simp [renV, nameN, lget]⟩ (by kernel_rfl) rfl (by rw [List.nil_append]; exact renO_row rfl rfl ((q3.drop _).take _)))
  · cases hw
theorem bytes_det : EntDet bytesV := fun args h n j j' r r' p p' e _ e' _ => by
  have : bytesV j args h n = bytesV j' args h n := rfl
  rw [this, e'] at e
  cases e; rfl

/-! ### base.SameBytes: yes -/

noncomputable def sameV : Ent := fun _ args h n => match args with
  | [x, y] => match winS x h, winS y h with
    | some (_, L, p), some (_, M, q) => some (⟨.bool true, h, n, []⟩, p ∧ q ∧ L = M ∧ ∃ l, byteList L = some l)
    | _, _ => none
  | _ => none
theorem same_det : EntDet sameV := fun args h n j j' r r' p p' e _ e' _ => by
  have : sameV j args h n = sameV j' args h n := rfl
  rw [this, e'] at e
  cases e; rfl
theorem same_ok {ε : Nat → Option Value} {base : Base} (hε : ∀ i V, ε i = some V → one V = true) : EntOk Tryd.prog ε base 12 sameV := by
  intro j args h n r p e hp
  unfold sameV at e
  split at e
  case h_2 => cases e
  rename_i x y
  split at e
  case h_2 => cases e
  rename_i l1 L p1 l2 M p2 hw1 hw2
  cases e
  obtain ⟨q1, q2, rfl, l, hl⟩ := hp
  have hE := env0 (base := base) hε
  have hb1 : (Tryd.prog.funcs[12]?) = some Tryd.f12 := by kernel_rfl
  have hb2 : Tryd.f12.body = some (bodyOf 12) := by kernel_rfl
  have hb3 : 2 ≤ Tryd.f12.ntmps := of_decide_eq_true (by kernel_rfl)
  -- what a slice is
  have form : ∀ {x : Value} {len : Nat} {p : Prop}, winS x h = some (len, L, p) → p → (x = .slice none 0 0 ∧ L = []) ∨ ∃ id off sp c oc oe oo orr om ock on, x = .slice (some ⟨id, off, sp⟩) len c ∧ tget h id = some ⟨0, oc, oe, oo, orr, om, [], ock, on⟩ ∧ plainP sp off ∧ fitP off len oc.length ∧ NoIds oc ∧ (oc.drop off).take len = L := by
    intro x len p hw hp
    unfold winS at hw
    split at hw
    · cases hw; obtain ⟨rfl, rfl⟩ := hp; exact .inl ⟨rfl, rfl⟩
    · rename_i id off sp len' c
      split at hw
      case h_2 => cases hw
      rename_i o ho
      cases hk : Nat.beq o.kind 0 <;> simp only [hk, cond_true, cond_false] at hw
      · cases hw
      cases hw
      obtain ⟨q1, q5, q2, q3, q4⟩ := hp
      have hk0 := Nat.eq_of_beq_eq_true hk
      obtain ⟨ok, oc, oe, oo, orr, om, oes, ock, on⟩ := o
      simp only at hk0 q2 q3 q4
      subst hk0 q4
      exact .inr ⟨id, off, sp, c, oc, oe, oo, orr, om, ock, on, rfl, ho, q1, q2, q3, rfl⟩
    · cases hw
  rcases form hw1 q1 with ⟨rfl, rfl⟩ | ⟨id, off, sp, c, oc, oe, oo, orr, om, ock, on, rfl, ho, a1, a2, a3, a4⟩
  · rcases form hw2 q2 with ⟨rfl, _⟩ | ⟨id, off, sp, c, oc, oe, oo, orr, om, ock, on, rfl, ho, a1, a2, a3, a4⟩
    · refine callOk_none hb1 hb2 hb3 ⟨1, rfl⟩ (Nat.le_refl n) (fun _ h => by cases h) (fun _ _ => rfl) ?_
      exact leads_end hE 40 40 [] (p := []) (by kernel_rfl) (by kernel_rfl) trivial (Fin.val (vs := [.bool true]) (by kernel_rfl) (.inl rfl) ⟨1, rfl⟩)
    · cases hl
      refine callOk_one (args0 := [.slice none 0 0, .slice (some ⟨0, off, sp⟩) l2 c]) hb1 hb2 hb3 ⟨2, rfl⟩ ho rfl rfl a3 (Nat.le_refl n) (fun _ h => by cases h) (fun _ _ => rfl) ?_
      have a5 : byteList ((oc.drop off).take (l2 * 1)) = some [] := by rw [Nat.mul_one, a4]; rfl
      exact leads_end hE 40 40 [([3, 3], .bs [])] (p := [plainP sp off ∧ fitP off (l2 * 1) oc.length ∧ byteList ((oc.drop off).take (l2 * 1)) = some []]) (by kernel_rfl) (by kernel_rfl) ⟨⟨a1, by simpa using a2, a5⟩, trivial⟩ (Fin.val (vs := [.bool true]) (by kernel_rfl) (.inl rfl) ⟨1, rfl⟩)
  · have a5 : byteList ((oc.drop off).take (l1 * 1)) = some l := by rw [Nat.mul_one, a4]; exact hl
    have a2' : fitP off (l1 * 1) oc.length := by simpa using a2
    rcases form hw2 q2 with ⟨rfl, rfl⟩ | ⟨id', off', sp', c', oc', oe', oo', orr', om', ock', on', rfl, ho', a1', a2'', a3', a4'⟩
    · cases hl
      refine callOk_one (args0 := [.slice (some ⟨0, off, sp⟩) l1 c, .slice none 0 0]) hb1 hb2 hb3 ⟨2, rfl⟩ ho rfl rfl a3 (Nat.le_refl n) (fun _ h => by cases h) (fun _ _ => rfl) ?_
      exact leads_end hE 40 40 [([3, 1], .bs [])] (p := [plainP sp off ∧ fitP off (l1 * 1) oc.length ∧ byteList ((oc.drop off).take (l1 * 1)) = some []]) (by kernel_rfl) (by kernel_rfl) ⟨⟨a1, a2', a5⟩, trivial⟩ (Fin.val (vs := [.bool true]) (by kernel_rfl) (.inl rfl) ⟨1, rfl⟩)
    · have b5 : byteList ((oc'.drop off').take (l2 * 1)) = some l := by rw [Nat.mul_one, a4']; exact hl
      have b2 : fitP off' (l2 * 1) oc'.length := by simpa using a2''
      by_cases hid : id = id'
      · subst hid
        rw [ho] at ho'
        cases ho'
        refine callOk_one (args0 := [.slice (some ⟨0, off, sp⟩) l1 c, .slice (some ⟨0, off', sp'⟩) l2 c']) hb1 hb2 hb3 ⟨2, rfl⟩ ho rfl rfl a3 (Nat.le_refl n) (fun _ h => by cases h) (fun _ _ => rfl) ?_
        exact leads_end hE 40 40 [([3, 1], .bs l), ([3, 3], .bs l), ([3, 4], .val (.bool true))] (p := [Value.bool ((ByteArray.mk l.toArray).toList == (ByteArray.mk l.toArray).toList) = .bool true, plainP sp' off' ∧ fitP off' (l2 * 1) oc.length ∧ byteList ((oc.drop off').take (l2 * 1)) = some l, plainP sp off ∧ fitP off (l1 * 1) oc.length ∧ byteList ((oc.drop off).take (l1 * 1)) = some l]) (by kernel_rfl) (by kernel_rfl) ⟨by simp, ⟨a1', b2, b5⟩, ⟨a1, a2', a5⟩, trivial⟩ (Fin.val (vs := [.bool true]) (by kernel_rfl) (.inl rfl) ⟨1, rfl⟩)
      · refine callOk_two (args0 := [.slice (some ⟨0, off, sp⟩) l1 c, .slice (some ⟨1, off', sp'⟩) l2 c']) hb1 hb2 hb3 ⟨2, rfl⟩ hid ho rfl rfl a3 ho' rfl rfl a3' (Nat.le_refl n) (fun _ h => by cases h) (fun _ _ => rfl) ?_
        exact leads_end hE 40 40 [([3, 1], .bs l), ([3, 3], .bs l), ([3, 4], .val (.bool true))] (p := [Value.bool ((ByteArray.mk l.toArray).toList == (ByteArray.mk l.toArray).toList) = .bool true, plainP sp' off' ∧ fitP off' (l2 * 1) oc'.length ∧ byteList ((oc'.drop off').take (l2 * 1)) = some l, plainP sp off ∧ fitP off (l1 * 1) oc.length ∧ byteList ((oc.drop off).take (l1 * 1)) = some l]) (by kernel_rfl) (by kernel_rfl) ⟨by simp, ⟨a1', b2, b5⟩, ⟨a1, a2', a5⟩, trivial⟩ (Fin.val (vs := [.bool true]) (by kernel_rfl) (.inl rfl) ⟨1, rfl⟩)

/-! ### The chapter's example -/

noncomputable def worksV : Ent := fun _ args h n => match args with
  | [] => some (⟨.bool true, h, n, []⟩, True)
  | _ => none
theorem works_det : EntDet worksV := fun args h n j j' r r' p p' e _ e' _ => by
  have : worksV j args h n = worksV j' args h n := rfl
  rw [this, e'] at e
  cases e; rfl
theorem works_of {ε : Nat → Option Value} {base : Base} (hε : ∀ i V, ε i = some V → one V = true) {f : Nat} {d : Nat} (hy : yes (runCall Tryd.prog d f [] [] 0) = true) : EntOk Tryd.prog ε base f worksV := by
  intro j args h n r p e hp
  unfold worksV at e
  split at e
  · cases e
    refine callOk_closed rfl fun ρ w ARGS ha => ?_
    cases ARGS with
    | cons _ _ => exact ha.elim
    | nil => exact run_true hN hmix hy hε (ARGS := []) trivial w
  · cases e

/-! ### Lists of contracts -/

theorem specs1 {f : Nat} {V : Ent} {C : Specs} {P : Program} {ε : Nat → Option Value} {base : Base} (h : EntOk P ε base f V) (hC : SpecsOk P ε base C) (hf : f < 1000000000 := by decide) : SpecsOk P ε base ((f, V) :: C) := fun x hx => by
  rcases List.mem_cons.1 hx with rfl | hx
  · exact ⟨fun _ => h, fun g hg => absurd hf (by have : f = 1000000000 + g := hg; omega)⟩
  · exact hC x hx
/-- A listed variable's value. -/
noncomputable def globV (t0 : Nat) (v : Value) : Ent := fun _ args h n => match args with
  | [.int .i64 (Int.ofNat t)] => bif Nat.beq t t0 then some (⟨v, h, n, []⟩, True) else none
  | _ => none
theorem globV_det (t0 : Nat) (v : Value) : EntDet (globV t0 v) := fun args h n j j' r r' p p' e _ e' _ => by
  have : globV t0 v j args h n = globV t0 v j' args h n := rfl
  rw [this, e'] at e
  cases e; rfl
theorem globV_ok {g t0 : Nat} {v : Value} {P : Program} {base : Base} (hg : g < base.n) (hv : closed DC v = true) (hl : ∀ w : World, w.heap[g]? = base.old g → (Instr.loadAt t0 (.pointer (some ⟨g, 0, none⟩))).run P w = .ok v w) : EntGlob P base g (globV t0 v) := by
  intro j t h n r p e _
  have e : (bif Nat.beq t t0 then some (⟨v, h, n, []⟩, True) else none) = some (r, p) := e
  cases hb : Nat.beq t t0 <;> simp only [hb, cond_true, cond_false] at e
  · cases e
  cases e
  rw [Nat.eq_of_beq_eq_true hb]
  exact ⟨hg, hv, rfl, hl⟩
theorem specsG {g : Nat} {V : Ent} {C : Specs} {P : Program} {ε : Nat → Option Value} {base : Base} (h : EntGlob P base g V) (hC : SpecsOk P ε base C) : SpecsOk P ε base ((1000000000 + g, V) :: C) := fun x hx => by
  rcases List.mem_cons.1 hx with rfl | hx
  · refine ⟨fun hlt => absurd hlt (by show ¬ 1000000000 + g < 1000000000; omega), fun g' hg => ?_⟩
    obtain rfl : g = g' := by have : 1000000000 + g = 1000000000 + g' := hg; omega
    exact h
  · exact hC x hx
theorem dets1 {f : Nat} {V : Ent} {C : Specs} (h : EntDet V) (hC : SpecsDet C) : SpecsDet ((f, V) :: C) := fun x hx => by
  rcases List.mem_cons.1 hx with rfl | hx
  · exact h
  · exact hC x hx
theorem specs0 {P : Program} {ε : Nat → Option Value} {base : Base} : SpecsOk P ε base [] := fun _ h => by cases h
theorem dets0 : SpecsDet [] := fun _ h => by cases h
theorem winS_some {x : Value} {h : T HO} {len : Nat} {L : List Value} {p : Prop} (hw : winS x h = some (len, L, p)) (hp : p) : (x = .slice none 0 0 ∧ L = [] ∧ len = 0) ∨ ∃ id off sp c oc oe oo orr om ock on, x = .slice (some ⟨id, off, sp⟩) len c ∧ tget h id = some ⟨0, oc, oe, oo, orr, om, [], ock, on⟩ ∧ plainP sp off ∧ roomP sp len c ∧ fitP off len oc.length ∧ NoIds oc ∧ (oc.drop off).take len = L := by
  unfold winS at hw
  split at hw
  · cases hw; obtain ⟨rfl, rfl⟩ := hp; exact .inl ⟨rfl, rfl, rfl⟩
  · rename_i id off sp len' c
    split at hw
    case h_2 => cases hw
    rename_i o ho
    cases hk : Nat.beq o.kind 0 <;> simp only [hk, cond_true, cond_false] at hw
    · cases hw
    cases hw
    obtain ⟨q1, q5, q2, q3, q4⟩ := hp
    have hk0 := Nat.eq_of_beq_eq_true hk
    obtain ⟨ok, oc, oe, oo, orr, om, oes, ock, on⟩ := o
    simp only at hk0 q2 q3 q4
    subst hk0 q4
    exact .inr ⟨id, off, sp, c, oc, oe, oo, orr, om, ock, on, rfl, ho, q1, q5, q2, q3, rfl⟩
  · cases hw
theorem det_of {V : Ent} (h : ∀ j j' args h n, V j args h n = V j' args h n) : EntDet V := fun args h0 n j j' r r' p p' e _ e' _ => by
  rw [h j j', e'] at e
  cases e; rfl


/-! ### Cells that are bytes -/

def Byt (L : List Value) : Prop := ∀ v ∈ L, ∃ n : Int, v = .int .u8 n ∧ 0 ≤ n ∧ n ≤ 255
theorem Byt.nil : Byt [] := fun _ h => by cases h
theorem Byt.cons {n : Int} {L : List Value} (h0 : 0 ≤ n) (h1 : n ≤ 255) (h : Byt L) : Byt (.int .u8 n :: L) := fun v hv => by
  rcases List.mem_cons.1 hv with rfl | hv
  · exact ⟨n, rfl, h0, h1⟩
  · exact h v hv
theorem Byt.list : ∀ {L : List Value}, Byt L → ∃ l, byteList L = some l
  | [], _ => ⟨[], rfl⟩
  | v :: L, h => by
    obtain ⟨n, rfl, _⟩ := h v (by simp)
    obtain ⟨l, hl⟩ := Byt.list (L := L) fun u hu => h u (by simp [hu])
    exact ⟨UInt8.ofNat n.toNat :: l, by simp only [byteList, hl]⟩
theorem Byt.sub {L M : List Value} (h : Byt L) (hs : ∀ v ∈ M, v ∈ L) : Byt M := fun v hv => h v (hs v hv)
theorem Byt.take {L : List Value} (h : Byt L) (n : Nat) : Byt (L.take n) := h.sub fun _ hv => List.mem_of_mem_take hv
theorem Byt.drop {L : List Value} (h : Byt L) (n : Nat) : Byt (L.drop n) := h.sub fun _ hv => List.mem_of_mem_drop hv
theorem Byt.append {L M : List Value} (h : Byt L) (k : Byt M) : Byt (L ++ M) := fun v hv => (List.mem_append.1 hv).elim (h v) (k v)
theorem Byt.vals {zs : List Int} (h : ∀ x ∈ zs, (Lit.int .u8 x).wf = true) : Byt (zs.map (Value.int .u8)) := fun v hv => by
  obtain ⟨n, hn, rfl⟩ := List.mem_map.1 hv
  have := h n hn
  simp [Lit.wf, IntKind.min, IntKind.max, IntKind.signed, IntKind.bits] at this
  exact ⟨n, rfl, by omega, by omega⟩
theorem Byt.one {L : List Value} (h : Byt L) : L.all one = true := List.all_eq_true.2 fun v hv => by obtain ⟨n, rfl, _⟩ := h v hv; rfl
theorem Byt.noIds {L : List Value} (h : Byt L) : NoIds L := .all (List.all_eq_true.2 fun v hv => by obtain ⟨n, rfl, _⟩ := h v hv; rfl)
/-- The numbers of cells. -/
def numOf : Value → Int
  | .int _ n => n
  | _ => 0
def numsOf (L : List Value) : List Int := L.map numOf
theorem numsOf_len (L : List Value) : (numsOf L).length = L.length := by simp [numsOf]
theorem Byt.nums {L : List Value} (h : Byt L) : L = (numsOf L).map (Value.int .u8) := by
  unfold numsOf
  rw [List.map_map]
  conv => lhs; rw [← List.map_id L]
  exact List.map_congr_left fun v hv => by obtain ⟨n, rfl, _⟩ := h v hv; rfl
theorem Byt.range {L : List Value} (h : Byt L) : ∀ x ∈ numsOf L, 0 ≤ x ∧ x ≤ 255 := fun x hx => by
  obtain ⟨v, hv, rfl⟩ := List.mem_map.1 hx
  obtain ⟨n, rfl, h0, h1⟩ := h v hv
  exact ⟨h0, h1⟩
/-- What lies in memory, of a window of bytes. -/
theorem win_bytes {P : Program} {ε : Nat → Option Value} {base : Base} {ρ : Rho} {w : World} {x V : Value} {h : T HO} {len : Nat} {L : List Value} {p : Prop} (hw : winS x h = some (len, L, p)) (hp : p) (hB : Byt L) (hm : Mod P ρ ε base w (tget h)) (hx : Rl ρ ε x V) :
    ∃ A c, V = .slice A (numsOf L).length c ∧ (numsOf L ≠ [] → ∃ b off, A = some ⟨b, off, none⟩ ∧ b < w.heap.size ∧ ∀ i, i < (numsOf L).length → w.cell? ⟨b, off + i, none⟩ = some (.int .u8 ((numsOf L).getD i 0))) := by
  have hlen : L.length = len := winS_len hw hp
  have hnl : (numsOf L).length = len := by rw [numsOf_len, hlen]
  rw [hnl]
  rcases winS_some hw hp with ⟨rfl, rfl, rfl⟩ | ⟨id, off, sp, c, oc, oe, oo, orr, om, ock, on, rfl, ho, a1, a5, a2, a3, a4⟩
  · have := (Rl_self rfl).1 hx
    subst this
    exact ⟨none, 0, rfl, fun h => absurd rfl h⟩
  · obtain ⟨b, hb, hlt, hobj, _⟩ := hm.obj id _ ho
    have hV : ∃ c', V = .slice (some ⟨b.1, off, none⟩) len c' := by
      cases sp with
      | none => obtain ⟨b', hb', rfl⟩ := Rl_slice.1 hx; rw [hb] at hb'; cases hb'; exact ⟨_, rfl⟩
      | some alt =>
        obtain ⟨b', hb', rfl, _⟩ := Rl_sliceO.1 hx
        rw [hb] at hb'; cases hb'
        have : alt = off := a1
        subst this
        exact ⟨b.2 - c, by simp⟩
    obtain ⟨c', rfl⟩ := hV
    refine ⟨_, _, rfl, fun hne => ⟨b.1, off, rfl, hlt, fun i hi => ?_⟩⟩
    unfold ObjR at hobj
    rw [if_pos rfl] at hobj
    obtain ⟨cs, tl, el, fr, q1, q2, _⟩ := hobj
    have hfit : off + len ≤ oc.length := by
      rcases a2 with a2 | a2
      · omega
      · exact a2
    have hget : oc[off + i]? = some (.int .u8 ((numsOf L).getD i 0)) := by
      have h1 : L[i]? = some (.int .u8 ((numsOf L).getD i 0)) := by
        have := hB.nums
        rw [this, List.getElem?_map]
        rw [← this]
        have hi' : i < (numsOf L).length := by omega
        rw [List.getElem?_eq_getElem hi', Option.map_some]
        simp [List.getD_eq_getElem?_getD, List.getElem?_eq_getElem hi']
      rw [show L[i]? = oc[off + i]? by rw [← a4, List.getElem?_take, if_pos hi, List.getElem?_drop]] at h1
      exact h1
    obtain ⟨U, h2, h3⟩ := RlL.get q2 (off + i) _ hget
    have := Rl_int.1 h3
    subst this
    have hcl : off + i < cs.length := (List.getElem?_eq_some_iff.1 h2).1
    simp [World.cell?, q1, List.getElem?_append_left hcl, h2]
/-- The number at a place. -/
def numAt (L : List Value) (i : Nat) : Int := numOf (L.getD i (.int .u8 0))
theorem Byt.at_ {L : List Value} (h : Byt L) {i : Nat} (hi : i < L.length) : L[i]? = some (.int .u8 (numAt L i)) := by
  obtain ⟨n, hn, _⟩ := h L[i] (List.getElem_mem hi)
  rw [List.getElem?_eq_getElem hi]
  simp [numAt, List.getD_eq_getElem?_getD, List.getElem?_eq_getElem hi, hn, numOf]
theorem Byt.rangeAt {L : List Value} (h : Byt L) (i : Nat) : 0 ≤ numAt L i ∧ numAt L i ≤ 255 := by
  by_cases hi : i < L.length
  · obtain ⟨n, hn, h0, h1⟩ := h L[i] (List.getElem_mem hi)
    simp [numAt, List.getD_eq_getElem?_getD, List.getElem?_eq_getElem hi, hn, numOf]; exact ⟨h0, h1⟩
  · simp [numAt, List.getD_eq_getElem?_getD, List.getElem?_eq_none (Nat.le_of_not_lt hi), numOf]
theorem numAt_win {cs : List Value} {off len k : Nat} (hk : k < len) : numAt ((cs.drop off).take len) k = numAt cs (off + k) := by
  simp [numAt, List.getD_eq_getElem?_getD, List.getElem?_take, hk, List.getElem?_drop]
/-- A byte of a window, where it lies. -/
theorem Byt.in_ {cs : List Value} {off len k : Nat} (h : Byt ((cs.drop off).take len)) (hf : fitP off len cs.length) (hk : k < len) : cs[off + k]? = some (.int .u8 (numAt cs (off + k))) := by
  have hl : ((cs.drop off).take len).length = len := by rw [List.length_take, List.length_drop]; unfold fitP at hf; omega
  have := h.at_ (i := k) (by omega)
  rw [numAt_win hk, List.getElem?_take, if_pos hk, List.getElem?_drop] at this
  exact this

/-! ### At most so many bytes; too many stay too many -/

noncomputable def zerosL (n : Nat) : List Value := rep [.int .u8 0] n
theorem zerosL_eq (n : Nat) : zerosL n = List.replicate n (.int .u8 0) := by
  unfold zerosL
  induction n with
  | zero => rfl
  | succ n ih => simp [rep, ih, List.replicate_succ]
theorem zerosL_all (n : Nat) : (zerosL n).all selfish = true := by rw [zerosL_eq]; simp [selfish]
theorem zerosL_len (n : Nat) : (zerosL n).length = n := by rw [zerosL_eq]; simp
theorem zerosL_byt (n : Nat) : Byt (zerosL n) := fun v hv => by
  rw [zerosL_eq] at hv
  exact ⟨0, (List.mem_replicate.1 hv).2, by omega, by omega⟩
noncomputable def clipV (lim k : Nat) : Ent := fun j args h n => match args with
  | [x] => match winS x h with
    | some (len, L, p) => match j with
      | 0 => some (⟨.slice (some ⟨n, 0, some 0⟩) (min len k) 0, tput h n (some (rowO (L.take (min len k)) 5 true)), n + 1, [n]⟩, p ∧ len ≤ lim ∧ L.all one = true)
      | _ => some (⟨.slice (some ⟨n, 0, none⟩) (lim + 1) (lim + 1), tput h n (some (rowO (zerosL (lim + 1)) 5 false)), n + 1, [n]⟩, p ∧ lim < len)
    | none => none
  | _ => none
theorem clip_det (lim k : Nat) : EntDet (clipV lim k) := fun args h n j j' r r' p p' e hp e' hp' => by
  unfold clipV at e e'
  split at e
  case h_2 => cases e
  rename_i x
  split at e
  case h_2 => cases e
  rename_i len L q hw
  simp only [hw] at e'
  cases j <;> cases j' <;> simp only [Option.some.injEq, Prod.mk.injEq] at e e' <;> obtain ⟨rfl, rfl⟩ := e <;> obtain ⟨rfl, rfl⟩ := e'
  · rfl
  · have := hp.2.1; have := hp'.2; omega
  · have := hp.2; have := hp'.2.1; omega
  · rfl
end Go.Proofs.YtefnfbidphmgoaaDoor.Ex
