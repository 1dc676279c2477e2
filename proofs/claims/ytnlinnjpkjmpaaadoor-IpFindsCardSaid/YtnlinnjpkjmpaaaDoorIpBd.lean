/- What was built is read. No conditions but those that each names. -/
import Derived.Test.YtnlinnjpkjmpaaaDoorIpRt
set_option linter.unusedVariables false
set_option linter.unusedSimpArgs false
set_option maxRecDepth 100000
namespace Go.Proofs.YtnlinnjpkjmpaaaDoor.Ex
open Go Go.RowKit
/-- What is known of what is read behind what is built. -/
structure BackOk (R : RdF) (pk : PkF) : Prop where
  ok : ∀ id a life kind whole more frm to len L M, okP id a life kind frm to → len ≤ 65515 → L.length = len → Byt L → Byt M → R.ok (20 + len + M.length) (pk id a life kind whole more frm to len L ++ M)
  right : ∀ id a life kind whole more frm to len L M, okP id a life kind frm to → len ≤ 65515 → L.length = len → R.right (pk id a life kind whole more frm to len L ++ M) = true
  id : ∀ id a life kind whole more frm to len L M, okP id a life kind frm to → R.id (pk id a life kind whole more frm to len L ++ M) = id
  place : ∀ id a life kind whole more frm to len L M, okP id a life kind frm to → R.place (pk id a life kind whole more frm to len L ++ M) = a
  life : ∀ id a life kind whole more frm to len L M, R.life (pk id a life kind whole more frm to len L ++ M) = life
  kind : ∀ id a life kind whole more frm to len L M, R.kind (pk id a life kind whole more frm to len L ++ M) = kind
  whole : ∀ id a life kind whole more frm to len L M, okP id a life kind frm to → R.whole (pk id a life kind whole more frm to len L ++ M) = whole
  more : ∀ id a life kind whole more frm to len L M, okP id a life kind frm to → R.more (pk id a life kind whole more frm to len L ++ M) = more
  frm : ∀ id a life kind whole more frm to len L M, okP id a life kind frm to → R.frm (pk id a life kind whole more frm to len L ++ M) = frm
  to : ∀ id a life kind whole more frm to len L M, okP id a life kind frm to → R.to (pk id a life kind whole more frm to len L ++ M) = to
  lo : ∀ id a life kind whole more frm to len L M, R.lo (pk id a life kind whole more frm to len L ++ M) = 20
  hi : ∀ id a life kind whole more frm to len L M, len ≤ 65515 → R.hi (pk id a life kind whole more frm to len L ++ M) = 20 + len
  data : ∀ id a life kind whole more frm to len L M, L.length = len → List.drop 20 (List.take (20 + len) (pk id a life kind whole more frm to len L ++ M)) = L
theorem hdT_app (n pl id life kind frm to s : Int) (T M : List Value) : hdT n pl id life kind frm to s T ++ M = hdT n pl id life kind frm to s (T ++ M) := rfl
theorem hdT_hl (n pl id life kind frm to s : Int) (T : List Value) : hl (hdT n pl id life kind frm to s T) = 20 := rfl
theorem hdT_w2 (n pl id life kind frm to s : Int) (T : List Value) : wd0 (hdT n pl id life kind frm to s T) 2 = n := by
  show 256 * (n / 256) + n % 256 = n; omega
theorem hdT_w4 (n pl id life kind frm to s : Int) (T : List Value) : wd0 (hdT n pl id life kind frm to s T) 4 = id := by
  show 256 * (id / 256) + id % 256 = id; omega
theorem hdT_w6 (n pl id life kind frm to s : Int) (T : List Value) : wd0 (hdT n pl id life kind frm to s T) 6 = pl := by
  show 256 * (pl / 256) + pl % 256 = pl; omega
theorem hdT_l12 (n pl id life kind frm to s : Int) (T : List Value) (h : 0 ≤ frm ∧ frm < 4294967296) : lg0 (hdT n pl id life kind frm to s T) 12 = frm := by
  show 65536 * (256 * (frm / 16777216) + frm / 65536 % 256) + (256 * (frm / 256 % 256) + frm % 256) = frm; omega
theorem hdT_l16 (n pl id life kind frm to s : Int) (T : List Value) (h : 0 ≤ to ∧ to < 4294967296) : lg0 (hdT n pl id life kind frm to s T) 16 = to := by
  show 65536 * (256 * (to / 16777216) + to / 65536 % 256) + (256 * (to / 256 % 256) + to % 256) = to; omega
theorem hdT_words (n pl id life kind frm to s : Int) : Plain.words (numsOf (hdT n pl id life kind frm to s [])) = Plain.words (numsOf (hdT n pl id life kind frm to 0 [])) + s := by
  simp only [hdT, numsOf, List.map_cons, List.map_nil, numOf, Plain.words]; omega
theorem hdT_sum {n pl id life kind frm to : Int} (h : 0 ≤ Plain.words (numsOf (hdT n pl id life kind frm to 0 []))) : sumL (hdT n pl id life kind frm to (65535 - sumL (hdT n pl id life kind frm to 0 [])) []) = 65535 := by
  unfold sumL
  rw [hdT_words]
  exact Plain.canon_right _ h
theorem backOk : BackOk R0 (pkOf sumL) where
  ok id a life kind whole more frm to len L M h hl hL hB hM := by
    obtain ⟨g1, g2, g3, g4, g5, g6, g7, g8, g9, g10, g11, g12⟩ := h
    have hp := plc_range (w := whole) (m := more) g3 g4
    unfold pkOf
    rw [hdT_app]
    refine ⟨by omega, ?_, ?_, ?_, ?_, ?_, ?_, ?_⟩
    · show (64 : Int) ≤ 69; omega
    · show (69 : Int) ≤ 79; omega
    · exact Nat.le_refl _
    · show 20 ≤ _; omega
    · rw [hdT_w2, hdT_hl]; omega
    · rw [hdT_w2]; omega
    · rw [hdT_w6]; omega
  right id a life kind whole more frm to len L M h hl hL := by
    obtain ⟨g1, g2, g3, g4, g5, g6, g7, g8, g9, g10, g11, g12⟩ := h
    have hp := plc_range (w := whole) (m := more) g3 g4
    unfold pkOf
    rw [hdT_app]
    show (sumL (hdT (20 + (len : Int)) (plc a whole more) id life kind frm to (65535 - sumL (hdT (20 + (len : Int)) (plc a whole more) id life kind frm to 0 [])) []) == 65535) = true
    rw [hdT_sum]
    · rfl
    · have hb : Byt (hdT (20 + (len : Int)) (plc a whole more) id life kind frm to 0 []) := hdT_byt (by omega) (by omega) ⟨g1, g2⟩ ⟨g5, g6⟩ ⟨g7, g8⟩ ⟨g9, g10⟩ ⟨g11, g12⟩ (by omega) .nil
      exact Plain.words_nonneg _ fun x hx => (hb.range x hx).1
  id id a life kind whole more frm to len L M h := by unfold pkOf; rw [hdT_app]; exact hdT_w4 ..
  place id a life kind whole more frm to len L M h := by
    obtain ⟨g1, g2, g3, g4, _⟩ := h
    unfold pkOf; rw [hdT_app]
    show wd0 _ 6 % 8192 = a
    rw [hdT_w6]; unfold plc; cases whole <;> cases more <;> simp <;> omega
  life id a life kind whole more frm to len L M := rfl
  kind id a life kind whole more frm to len L M := rfl
  whole id a life kind whole more frm to len L M h := by
    obtain ⟨g1, g2, g3, g4, _⟩ := h
    unfold pkOf; rw [hdT_app]
    show decide (16384 ≤ wd0 _ 6 % 32768) = whole
    rw [hdT_w6]; unfold plc; cases whole <;> cases more <;> simp <;> omega
  more id a life kind whole more frm to len L M h := by
    obtain ⟨g1, g2, g3, g4, _⟩ := h
    unfold pkOf; rw [hdT_app]
    show decide (8192 ≤ wd0 _ 6 % 16384) = more
    rw [hdT_w6]; unfold plc; cases whole <;> cases more <;> simp <;> omega
  frm id a life kind whole more frm to len L M h := by obtain ⟨_, _, _, _, _, _, _, _, g, g', _⟩ := h; unfold pkOf; rw [hdT_app]; exact hdT_l12 _ _ _ _ _ _ _ _ _ ⟨g, g'⟩
  to id a life kind whole more frm to len L M h := by obtain ⟨_, _, _, _, _, _, _, _, _, _, g, g'⟩ := h; unfold pkOf; rw [hdT_app]; exact hdT_l16 _ _ _ _ _ _ _ _ _ ⟨g, g'⟩
  lo id a life kind whole more frm to len L M := rfl
  hi id a life kind whole more frm to len L M hl := by
    unfold pkOf; rw [hdT_app]
    rw [show ∀ X, R0.hi X = (wd0 X 2).toNat from fun _ => rfl, hdT_w2]; omega
  data id a life kind whole more frm to len L M hl := by
    rw [List.drop_take, show 20 + len - 20 = len by omega]
    show List.take len (L ++ M) = L
    rw [← hl, List.take_left']
    rfl
theorem pk_drop (id a life kind : Int) (whole more : Bool) (frm to : Int) (len : Nat) (L M : List Value) : List.drop 20 (pkOf sumL id a life kind whole more frm to len L ++ M) = L ++ M := rfl
end Go.Proofs.YtnlinnjpkjmpaaaDoor.Ex
