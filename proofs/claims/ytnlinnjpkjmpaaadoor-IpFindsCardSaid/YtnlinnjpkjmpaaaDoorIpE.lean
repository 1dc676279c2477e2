/- What ip builds, by ways that show how it lies; the bytes as a variable. No conditions but those that each names. -/
import Derived.Test.YtnlinnjpkjmpaaaDoorIp
set_option linter.unusedVariables false
set_option linter.unusedSimpArgs false
set_option maxRecDepth 100000
namespace Go.Proofs.YtnlinnjpkjmpaaaDoor.Ex
open Go Go.RowKit
abbrev PkF := Int → Int → Int → Int → Bool → Bool → Int → Int → Nat → List Value → List Value
def pkOf (sm : List Value → Int) : PkF := fun id a life kind whole more frm to len L => hdT (20 + (len : Int)) (plc a whole more) id life kind frm to (65535 - sm (hdT (20 + (len : Int)) (plc a whole more) id life kind frm to 0 [])) L
theorem pk_len (sm : List Value → Int) (id a life kind : Int) (whole more : Bool) (frm to : Int) (len : Nat) (L : List Value) : (pkOf sm id a life kind whole more frm to len L).length = 20 + L.length := hdT_len ..
theorem pk_byt {sm : List Value → Int} (hsm : ∀ L, 0 ≤ sm L ∧ sm L ≤ 65535) {id a life kind : Int} {whole more : Bool} {frm to : Int} {len : Nat} {L : List Value} (h : okP id a life kind frm to) (hl : len ≤ 65515) (hL : Byt L) : Byt (pkOf sm id a life kind whole more frm to len L) := by
  obtain ⟨g1, g2, g3, g4, g5, g6, g7, g8, g9, g10, g11, g12⟩ := h
  have hpr := plc_range (w := whole) (m := more) g3 g4
  have hsr := hsm (hdT (20 + (len : Int)) (plc a whole more) id life kind frm to 0 [])
  exact hdT_byt (by omega) (by omega) ⟨g1, g2⟩ ⟨g5, g6⟩ ⟨g7, g8⟩ ⟨g9, g10⟩ ⟨g11, g12⟩ (by omega) hL
/-- Way 0: it was appended to; way 3: nothing was. -/
noncomputable def ipbuildC (c0 c3 : Nat → Prop) (pk : PkF) : Ent := fun j args h n => match args with
  | [.agg ⟨[.int .i64 id, .int .i64 a, .int .i64 life, .int .i64 kind, .bool whole, .bool more, .int .u32 frm, .int .u32 to, x]⟩] => match winS x h with
    | some (len, L, p) => match j with
      | 0 => some (⟨.tuple #[.slice (some ⟨n, 0, some 0⟩) (20 + len) 0, .int .i64 0], tput h n (some (rowO (pk id a life kind whole more frm to len L) 5 true)), n + 1, [n]⟩, p ∧ Byt L ∧ okP id a life kind frm to ∧ len ≤ 65515 ∧ c0 len)
      | 1 => some (⟨.tuple #[.slice none 0 0, .int .i64 2], h, n, []⟩, p ∧ ¬ (0 ≤ id ∧ id ≤ 65535 ∧ 0 ≤ a ∧ a ≤ 8191 ∧ 0 ≤ life ∧ life ≤ 255 ∧ 0 ≤ kind ∧ kind ≤ 255))
      | 2 => some (⟨.tuple #[.slice none 0 0, .int .i64 3], h, n, []⟩, p ∧ (0 ≤ id ∧ id ≤ 65535 ∧ 0 ≤ a ∧ a ≤ 8191 ∧ 0 ≤ life ∧ life ≤ 255 ∧ 0 ≤ kind ∧ kind ≤ 255) ∧ 65515 < len)
      | _ => some (⟨.tuple #[.slice (some ⟨n, 0, none⟩) 20 20, .int .i64 0], tput h n (some (rowO (pk id a life kind whole more frm to len L) 59 false)), n + 1, [n]⟩, p ∧ Byt L ∧ okP id a life kind frm to ∧ len ≤ 65515 ∧ c3 len)
    | none => none
  | _ => none
def nonz (n : Nat) : Prop := n ≠ 0
def isz (n : Nat) : Prop := n = 0
def yesP (n : Nat) : Prop := True
def noP (n : Nat) : Prop := False
theorem ipbuildC_code {ε : Nat → Option Value} {base : Base} {f : Nat} {sm : List Value → Int} (h : EntOk Tryd.prog ε base f (ipbuildW Bcode sm)) : EntOk Tryd.prog ε base f (ipbuildC nonz isz (pkOf sm)) := by
  intro j args h' n r p e hp
  unfold ipbuildC at e
  split at e
  case h_2 => cases e
  rename_i id a life kind whole more frm to x
  split at e
  case h_2 => cases e
  rename_i len L q hw
  rcases j with _ | _ | _ | j
  · cases e
    obtain ⟨h1, h2, h3, h4, h5⟩ := hp
    refine h 0 _ _ _ _ (q ∧ Byt L ∧ okP id a life kind frm to ∧ len ≤ 65515) ?_ ⟨h1, h2, h3, h4⟩
    simp only [ipbuildW, hw, Bcode, if_neg h5]; rfl
  · cases e
    exact h 1 _ _ _ _ _ (by simp only [ipbuildW, hw]) hp
  · cases e
    exact h 2 _ _ _ _ _ (by simp only [ipbuildW, hw]) hp
  · cases e
    obtain ⟨h1, h2, h3, h4, h5⟩ := hp
    refine h 0 _ _ _ _ (q ∧ Byt L ∧ okP id a life kind frm to ∧ len ≤ 65515) ?_ ⟨h1, h2, h3, h4⟩
    have h5 : len = 0 := h5
    subst h5
    simp only [ipbuildW, hw, Bcode, if_pos]; rfl
theorem ipbuildC_ref {ε : Nat → Option Value} {base : Base} {f : Nat} {sm : List Value → Int} (h : EntOk Tryd.prog ε base f (ipbuildW Bref sm)) : EntOk Tryd.prog ε base f (ipbuildC yesP noP (pkOf sm)) := by
  intro j args h' n r p e hp
  unfold ipbuildC at e
  split at e
  case h_2 => cases e
  rename_i id a life kind whole more frm to x
  split at e
  case h_2 => cases e
  rename_i len L q hw
  rcases j with _ | _ | _ | j
  · cases e
    obtain ⟨h1, h2, h3, h4, h5⟩ := hp
    exact h 0 _ _ _ _ (q ∧ Byt L ∧ okP id a life kind frm to ∧ len ≤ 65515) (by simp only [ipbuildW, hw, Bref]; rfl) ⟨h1, h2, h3, h4⟩
  · cases e
    exact h 1 _ _ _ _ _ (by simp only [ipbuildW, hw]) hp
  · cases e
    exact h 2 _ _ _ _ _ (by simp only [ipbuildW, hw]) hp
  · cases e
    exact hp.2.2.2.2.elim
theorem ipbuildC_det {c0 c3 : Nat → Prop} (hc : ∀ n, c0 n → c3 n → False) (pk : PkF) : EntDet (ipbuildC c0 c3 pk) := fun args h n j j' r r' p p' e hp e' hp' => by
  unfold ipbuildC at e e'
  split at e
  case h_2 => cases e
  rename_i id a life kind whole more frm to x
  split at e
  case h_2 => cases e
  rename_i len L q hw
  simp only [hw] at e'
  rcases j with _ | _ | _ | j <;> rcases j' with _ | _ | _ | j' <;> simp only [Option.some.injEq, Prod.mk.injEq] at e e' <;> obtain ⟨rfl, rfl⟩ := e <;> obtain ⟨rfl, rfl⟩ := e' <;> first | rfl | exact (hc _ hp.2.2.2.2 hp'.2.2.2.2).elim | exact (hc _ hp'.2.2.2.2 hp.2.2.2.2).elim | (exfalso; (try simp only [okP] at hp); (try simp only [okP] at hp'); omega)
theorem code_det (pk : PkF) : EntDet (ipbuildC nonz isz pk) := ipbuildC_det (fun _ h k => h k) pk
theorem ref_det (pk : PkF) : EntDet (ipbuildC yesP noP pk) := ipbuildC_det (fun _ _ k => k) pk
/-- As one way. -/
noncomputable def ipbuildA (B : Bld) (pk : PkF) : Ent := fun j args h n => match args with
  | [.agg ⟨[.int .i64 id, .int .i64 a, .int .i64 life, .int .i64 kind, .bool whole, .bool more, .int .u32 frm, .int .u32 to, x]⟩] => match winS x h with
    | some (len, L, p) => match j with
      | 0 => some (⟨.tuple #[.slice (some ⟨n, 0, B.sp len⟩) (20 + len) (B.cap len), .int .i64 0], tput h n (some (rowO (pk id a life kind whole more frm to len L) (B.el len) (B.own len))), n + 1, [n]⟩, p ∧ Byt L ∧ okP id a life kind frm to ∧ len ≤ 65515)
      | 1 => some (⟨.tuple #[.slice none 0 0, .int .i64 2], h, n, []⟩, p ∧ ¬ (0 ≤ id ∧ id ≤ 65535 ∧ 0 ≤ a ∧ a ≤ 8191 ∧ 0 ≤ life ∧ life ≤ 255 ∧ 0 ≤ kind ∧ kind ≤ 255))
      | _ => some (⟨.tuple #[.slice none 0 0, .int .i64 3], h, n, []⟩, p ∧ (0 ≤ id ∧ id ≤ 65535 ∧ 0 ≤ a ∧ a ≤ 8191 ∧ 0 ≤ life ∧ life ≤ 255 ∧ 0 ≤ kind ∧ kind ≤ 255) ∧ 65515 < len)
    | none => none
  | _ => none
theorem ipbuildA_eq (B : Bld) (sm : List Value → Int) : ipbuildA B (pkOf sm) = ipbuildW B sm := rfl
/-- What is known of where it lies. -/
structure BldOk (B : Bld) : Prop where
  pl : ∀ n, plainP (B.sp n) 0
  rm : ∀ n, roomP (B.sp n) (20 + n) (B.cap n)
theorem bcodeOk : BldOk Bcode where
  pl n := by show plainP (if n = 0 then none else some 0) 0; split <;> first | rfl | trivial
  rm n := by
    show roomP (if n = 0 then none else some 0) (20 + n) (if n = 0 then 20 else 0)
    by_cases h : n = 0
    · rw [if_pos h, if_pos h, h]; exact Nat.le_refl _
    · rw [if_neg h]; trivial
theorem brefOk : BldOk Bref := ⟨fun _ => rfl, fun _ => trivial⟩
/-- What is known of a packet's bytes. -/
structure PkOk (pk : PkF) : Prop where
  len : ∀ id a life kind whole more frm to len L, (pk id a life kind whole more frm to len L).length = 20 + L.length
  byt : ∀ id a life kind whole more frm to len L, okP id a life kind frm to → len ≤ 65515 → Byt L → Byt (pk id a life kind whole more frm to len L)
theorem pkOk : PkOk (pkOf sumL) := ⟨fun _ _ _ _ _ _ _ _ _ _ => pk_len .., fun _ _ _ _ _ _ _ _ _ _ h hl hL => pk_byt sumL_range h hl hL⟩
end Go.Proofs.YtnlinnjpkjmpaaaDoor.Ex
