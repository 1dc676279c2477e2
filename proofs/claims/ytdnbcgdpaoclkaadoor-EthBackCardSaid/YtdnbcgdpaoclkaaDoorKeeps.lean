/- What a call leaves as it was: all blocks but some, of which a set is told. Plain lemmas; no conditions but those that each names. -/
import Derived.Test.YtdnbcgdpaoclkaaDoorBlk
set_option linter.unusedVariables false
set_option linter.unusedSimpArgs false
namespace Go.Proofs.YtdnbcgdpaoclkaaDoor
open Go.RowKit

/-- No block that was there is changed but those of s. -/
structure Keeps (s : Nat → Prop) (w w' : World) : Prop where
  os : w'.os = w.os
  tape : w'.tape = w.tape
  output : w'.output = w.output
  size : w.heap.size ≤ w'.heap.size
  block : ∀ k, k < w.heap.size → ¬ s k → w'.heap[k]? = w.heap[k]?
section
variable {s t : Nat → Prop} {a b c w w' : World}
theorem Keeps.refl (s : Nat → Prop) (w : World) : Keeps s w w := ⟨rfl, rfl, rfl, Nat.le_refl _, fun _ _ _ => rfl⟩
theorem Keeps.trans (h : Keeps s a b) (k : Keeps s b c) : Keeps s a c :=
  ⟨k.os.trans h.os, k.tape.trans h.tape, k.output.trans h.output, Nat.le_trans h.size k.size, fun i hi hs => (k.block i (Nat.lt_of_lt_of_le hi h.size) hs).trans (h.block i hi hs)⟩
theorem Keeps.drew (h : Keeps s a w) : Keeps s a w.drew := ⟨h.os, h.tape, h.output, h.size, h.block⟩
theorem Keeps.drewN (h : Keeps s a w) (n : Nat) : Keeps s a (w.drewN n) := ⟨h.os, h.tape, h.output, h.size, h.block⟩
theorem Keeps.setCell (h : Keeps s a w) {g : Nat} (hg : s g) (i : Nat) (u : Value) : Keeps s a (w.setCell ⟨g, i, none⟩ u) :=
  h.trans ⟨rfl, rfl, rfl, by simp [World.setCell], fun k _ hk => Below.heap_setCell _ _ _ _ (fun e => hk (by subst e; exact hg))⟩
theorem Keeps.setNew (h : Keeps s a w) {g : Nat} (hg : a.heap.size ≤ g) (i : Nat) (u : Value) : Keeps s a (w.setCell ⟨g, i, none⟩ u) :=
  ⟨h.os, h.tape, h.output, by rw [show (w.setCell ⟨g, i, none⟩ u).heap.size = w.heap.size from by simp [World.setCell]]; exact h.size, fun k hk hs => (Below.heap_setCell _ _ _ _ (by show k ≠ g; omega)).trans (h.block k hk hs)⟩
theorem Keeps.alloc (h : Keeps s a w) (o : Obj) : Keeps s a (w.alloc o) :=
  h.trans ⟨rfl, rfl, rfl, by simp, fun k hk _ => Below.heap_alloc _ _ _ hk⟩
theorem Keeps.mono (h : Keeps s w w') (hst : ∀ k, k < w.heap.size → s k → t k) : Keeps t w w' := ⟨h.os, h.tape, h.output, h.size, fun k hk ht => h.block k hk (fun hs => ht (hst k hk hs))⟩
theorem Keeps.of_below (h : Below w.heap.size w w') : Keeps s w w' := ⟨h.os, h.tape, h.output, h.size, fun k hk _ => h.block k hk⟩
theorem Keeps.of_only {g : Nat} (h : Only g w w') (hg : s g) : Keeps s w w' := ⟨h.os, h.tape, h.output, by rw [h.size]; exact Nat.le_refl _, fun k _ hk => h.block k (fun e => hk (by rw [e]; exact hg))⟩
theorem Keeps.below {B : Nat} (h : Keeps s w w') (hB : B ≤ w.heap.size) (hs : ∀ k, s k → B ≤ k) : Below B w w' :=
  ⟨h.os, h.tape, h.output, h.size, fun k hk => h.block k (by omega) (fun e => by have := hs k e; omega)⟩
theorem Keeps.cell (h : Keeps s w w') {p : Addr} (hp : p.block < w.heap.size) (hs : ¬ s p.block) : w'.cell? p = w.cell? p := World.cell?_of_block (w := w) (h.block p.block hp hs)
theorem Keeps.blk (h : Keeps s w w') {g : Nat} {ty : TypeId} {cs : Array Value} (hb : Blk w g ty cs) (hs : ¬ s g) : Blk w' g ty cs := (h.block g hb.lt hs).trans hb
theorem Keeps.grown {g : Option Nat} (h : w.grownBy w' g) (hg : ∀ k, g = some k → s k) : Keeps s w w' := ⟨h.os, h.tape, h.output, h.size, fun k hk hs => h.block k hk (fun e => hs (hg k e.symm))⟩
end
end Go.Proofs.YtdnbcgdpaoclkaaDoor
