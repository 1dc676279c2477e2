/- Loops: what is known at a head is written as tables. No conditions. -/
import Derived.Test.YtdnbcgdpaoclkaaDoorExX
set_option linter.unusedVariables false
set_option linter.unusedSimpArgs false
namespace Go.Proofs.YtdnbcgdpaoclkaaDoor.Ex
open Go Go.RowKit
/-- A table that is written out. -/
noncomputable def tabOf {α : Type} (l : List (Nat × α)) : T α := List.rec (motive := fun _ => T α) [] (fun x _ ih => tput ih x.1 (some x.2)) l
theorem tabOf_mem {α : Type} {k : Nat} {v : α} : ∀ {l : List (Nat × α)}, tget (tabOf l) k = some v → (k, v) ∈ l
  | [], h => by rw [show tabOf ([] : List (Nat × α)) = [] from rfl, tget_nil] at h; cases h
  | x :: l, h => by
    rw [show tabOf (x :: l) = tput (tabOf l) x.1 (some x.2) from rfl, tget_tput] at h
    split at h
    · rename_i e; subst e; cases h; simp
    · exact List.mem_cons_of_mem _ (tabOf_mem h)
/-- All of a list. -/
noncomputable def AllL {α : Type} (p : α → Prop) (l : List α) : Prop := List.rec (motive := fun _ => Prop) True (fun x _ ih => p x ∧ ih) l
theorem AllL.mem {α : Type} {p : α → Prop} : ∀ {l : List α}, AllL p l → ∀ x ∈ l, p x
  | [], _, x, h => by cases h
  | y :: l, h, x, hx => by
    have h : p y ∧ AllL p l := h
    rcases List.mem_cons.1 hx with rfl | hx
    · exact h.1
    · exact AllL.mem h.2 x hx
section
variable {P : Program} {ε : Nat → Option Value} {base : Base}
/-- Only so much is still known. -/
theorem Leads.forget {nt : Nat} {todo : List Item} {s : St} {Q : St → Prop} (tm : List (Nat × Value)) (hp : List (Nat × HO)) (nx : Nat) (ht : AllL (fun x => tget s.tmps x.1 = some x.2) tm) (hh : AllL (fun x => tget s.heap x.1 = some x.2) hp) (hn : s.next = nx)
    (h : Leads P ε base nt todo ⟨tabOf tm, tabOf hp, nx, []⟩ Q) : Leads P ε base nt todo s Q :=
  Leads.weak (t := ⟨tabOf tm, tabOf hp, nx, []⟩) (fun k v e => ht.mem _ (tabOf_mem e)) (fun k v e => hh.mem _ (tabOf_mem e)) (Nat.le_of_eq hn) h
/-- So much is still known, by other names. -/
theorem Leads.rename {nt : Nat} {todo : List Item} {s : St} {Q : St → Prop} (pi : List (Nat × Nat)) (tm : List (Nat × Value)) (hp : List (Nat × HO)) (nx : Nat) (h8 : 8 ≤ nx) (hpi : AllL (fun x => x.1 < nx) pi) (ht : AllL (fun x => ∃ u d, tget s.tmps x.1 = some u ∧ renV (piL pi) d x.2 = some u) tm)
    (hh : AllL (fun x => ∃ j o', piL pi x.1 = some j ∧ tget s.heap j = some o' ∧ renW (piL pi) x.2 o') hp) (hinj : ((hp.map (·.1)).map (piL pi)).Nodup)
    (h : Leads P ε base nt todo ⟨tabOf tm, tabOf hp, nx, []⟩ Q) : Leads P ε base nt todo s Q := by
  refine Leads.ren (piL pi) (fun id h => piL_low h) (fun id (hid : nx ≤ id) => ?_) (fun k v e => ht.mem _ (tabOf_mem e)) (fun i o e => hh.mem _ (tabOf_mem e)) (fun i i' j o o' e e' g g' => ?_) (t := ⟨tabOf tm, tabOf hp, nx, []⟩) h
  · unfold piL
    rw [if_neg (by omega)]
    have : pi.find? (fun x => x.1 == id) = none := by
      rw [List.find?_eq_none]
      intro x hx
      have : x.1 < nx := hpi.mem x hx
      simp; omega
    rw [this]; rfl
  · have m1 : i ∈ hp.map (·.1) := List.mem_map.2 ⟨_, tabOf_mem e, rfl⟩
    have m2 : i' ∈ hp.map (·.1) := List.mem_map.2 ⟨_, tabOf_mem e', rfl⟩
    generalize hp.map (·.1) = L at m1 m2 hinj
    obtain ⟨a, ha, hia⟩ := List.getElem_of_mem m1
    obtain ⟨b, hb, hib⟩ := List.getElem_of_mem m2
    have q : (L.map (piL pi))[a]'(by simpa using ha) = (L.map (piL pi))[b]'(by simpa using hb) := by
      rw [List.getElem_map, List.getElem_map, hia, hib, g, g']
    have := (List.getElem_inj hinj).1 q
    subst this
    rw [← hia, ← hib]
end
end Go.Proofs.YtdnbcgdpaoclkaaDoor.Ex
