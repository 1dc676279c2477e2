/- Two slices that came in. No conditions but those that each names. -/
import Derived.Test.YtefnfbidphmgoaaDoorExX
set_option linter.unusedVariables false
set_option linter.unusedSimpArgs false
namespace Go.Proofs.YtefnfbidphmgoaaDoor.Ex
open Go Go.RowKit
section
variable {P : Program}
/-- A slice of integers that came in, not nil: its row. -/
theorem rowS {w : World} {x : Addr} {len cap bs : Nat} {k : IntKind} {t e : TypeId} {zs : List Int} (A0 : List Value) (hA0 : A0.all one = true) (hok : Value.okWide P w .any bs t (.slice (some x) len cap)) (ht : P.underlying t = some (.slice e)) (hl : len ≤ cap) (hz : zs.length = cap) (hc : ∀ i, i < zs.length → w.cell? (x.add i) = some (.int k (zs.getD i 0))) :
    ∃ (cs A1 : List Value) (b off : Nat), x = ⟨b, off, none⟩ ∧ (A0 ++ A1).all one = true ∧ (cs.drop off).take len = (zs.take len).map (Value.int k) ∧ fitP off len cs.length ∧ NoIds cs ∧ b < w.heap.size ∧ ∀ (ρ : Rho) (E : Nat → Option Value), (∀ i x, (A0 ++ A1)[i]? = some x → E i = some x) → ObjR P ρ E 0 (roRow cs) w.heap[b]? := by
  have hhas : w.has P .any bs x e cap := by
    unfold Value.okWide at hok
    rw [ht] at hok
    simp only [Cell.okWide, ht, Cell.ok] at hok
    exact hok.2.2
  obtain ⟨_, hspot, row, cells, hshape, _⟩ := hhas
  obtain ⟨b, off, spot⟩ := x
  simp only at hspot
  subst hspot
  have hc' : ∀ i, i < zs.length → w.cell? ⟨b, off + i, none⟩ = some (.int k (zs.getD i 0)) := fun i hi => by rw [← add_plain]; exact hc i hi
  by_cases hz0 : zs = []
  · subst hz0
    have hlen : len = 0 := by simp at hz; omega
    subst hlen
    unfold World.shape? at hshape
    cases hob : w.heap[b]? with
    | none => simp [hob] at hshape
    | some ob =>
      cases ob with
      | cells C el fr =>
        have hlt : b < w.heap.size := (Array.getElem?_eq_some_iff.1 hob).1
        obtain ⟨vs, A, h1, h2, h3⟩ := name_list C.toList A0 hA0
        refine ⟨vs, A, b, off, rfl, h1, by simp, .inl rfl, h2, hlt, fun ρ E hE => ?_⟩
        unfold ObjR
        rw [if_pos (show (roRow vs).kind = 0 from rfl)]
        exact ⟨C.toList, [], el, fr, by simp [hob], h3 _ _ hE, fun _ => rfl, fun h => (by cases h), fun h => (by cases h)⟩
      | _ => simp [hob] at hshape
  · obtain ⟨hlt, PRE, POST, el, fr, hpre, hblk⟩ := block_parts hz0 hc'
    obtain ⟨pre, post, A, h1, h2, h3, h4, h5⟩ := name_around PRE (zs.map (Value.int k)) POST A0 hA0 (vals_selfish k zs)
    have hwin : ((pre ++ (zs.map (Value.int k) ++ post)).drop off).take zs.length = zs.map (Value.int k) := by
      rw [List.drop_append_of_le_length (by omega), List.drop_of_length_le (by omega), List.nil_append, List.take_append_of_le_length (by simp), List.take_of_length_le (by simp)]
    refine ⟨pre ++ (zs.map (Value.int k) ++ post), A, b, off, rfl, h3, ?_, .inr (by simp; omega), h4, hlt, fun ρ E hE => ?_⟩
    · have : (((pre ++ (zs.map (Value.int k) ++ post)).drop off).take zs.length).take len = (zs.map (Value.int k)).take len := by rw [hwin]
      rw [List.take_take, Nat.min_eq_left (by omega), ← List.map_take] at this
      exact this
    · unfold ObjR
      rw [if_pos (show (roRow (pre ++ (zs.map (Value.int k) ++ post))).kind = 0 from rfl)]
      exact ⟨PRE ++ (zs.map (Value.int k) ++ POST), [], el, fr, by rw [List.append_nil]; exact hblk, h5 _ _ hE, fun _ => rfl, fun h => (by cases h), fun h => (by cases h)⟩
noncomputable def rho2 (b c : Nat) : Rho := fun id => if id = 0 then some (b, 0) else if id = 1 then some (c, 0) else none
/-- Two rows that came in, it may be of one block. -/
theorem mod_two {w : World} {b c : Nat} {E : Nat → Option Value} {cs ds : List Value} (hb : b < w.heap.size) (hc : c < w.heap.size) (h1 : ∀ ρ, ObjR P ρ E 0 (roRow cs) w.heap[b]?) (h2 : ∀ ρ, ObjR P ρ E 0 (roRow ds) w.heap[c]?) :
    Mod P (rho2 b c) E (baseOf w) w (tget (tput (tput [] 0 (some (roRow cs))) 1 (some (roRow ds)))) := by
  have form : ∀ id o, tget (tput (tput [] 0 (some (roRow cs))) 1 (some (roRow ds))) id = some o → (id = 1 ∧ o = roRow ds) ∨ (id = 0 ∧ o = roRow cs) := fun id o e => by
    rw [tget_tput] at e
    split at e
    · cases e; exact .inl ⟨by assumption, rfl⟩
    · rw [tget_tput] at e
      split at e
      · cases e; exact .inr ⟨by assumption, rfl⟩
      · rw [tget_nil] at e; cases e
  refine ⟨fun id o e => ?_, fun id id' o o' b1 b2 e e' hr => ?_, fun _ _ => rfl⟩
  · rcases form id o e with ⟨rfl, rfl⟩ | ⟨rfl, rfl⟩
    · exact ⟨(c, 0), by simp [rho2], hc, h2 _, fun h => by cases h⟩
    · exact ⟨(b, 0), by simp [rho2], hb, h1 _, fun h => by cases h⟩
  · rcases form id o e with ⟨rfl, rfl⟩ | ⟨rfl, rfl⟩ <;> rcases form id' o' e' with ⟨rfl, rfl⟩ | ⟨rfl, rfl⟩ <;> rcases hr with hr | hr <;> cases hr
theorem ro_two {cs ds : List Value} : ∀ id o, tget (tput (tput [] 0 (some (roRow cs))) 1 (some (roRow ds))) id = some o → o.ro = true := fun id o e => by
  rw [tget_tput] at e
  split at e
  · cases e; rfl
  · rw [tget_tput] at e
    split at e
    · cases e; rfl
    · rw [tget_nil] at e; cases e
theorem ro_one {cs : List Value} : ∀ id o, tget (tput [] 0 (some (roRow cs))) id = some o → o.ro = true := fun id o e => by
  rw [tget_tput] at e
  split at e
  · cases e; rfl
  · rw [tget_nil] at e; cases e
theorem mod_one {w : World} {b : Nat} {E : Nat → Option Value} {cs : List Value} (hb : b < w.heap.size) (h1 : ∀ ρ, ObjR P ρ E 0 (roRow cs) w.heap[b]?) : Mod P (rho1 b) E (baseOf w) w (tget (tput [] 0 (some (roRow cs)))) := by
  refine ⟨fun id o e => ?_, fun id id' o o' b1 b2 e e' hr => ?_, fun _ _ => rfl⟩
  · rw [tget_tput] at e
    split at e
    · rename_i h0
      subst h0
      cases e
      exact ⟨(b, 0), by simp [rho1], hb, h1 _, fun h => by cases h⟩
    · rw [tget_nil] at e; cases e
  · rw [ro_one id o e, ro_one id' o' e'] at hr
    rcases hr with hr | hr <;> cases hr
end
end Go.Proofs.YtefnfbidphmgoaaDoor.Ex
