/- What the base's digits of a number come to: the same as the library's. Conditions: none but that the number is an int. -/
import Derived.Test.YtfjjmhiogfimjaaDoorBytes
import Derived.Lib.ItoaMem
import Derived.Lib.ItoaNum
import Derived.Lib.ItoaLen
set_option linter.unusedVariables false
set_option linter.unusedSimpArgs false
namespace Go.Proofs.YtfjjmhiogfimjaaDoor
open Go.RowKit

theorem digits_step (u : Nat) (hu : u ≠ 0) (l : List UInt8) : (if u / 10 = 0 then UInt8.ofNat (48 + u % 10) :: l else Lib.decDigits (u / 10) ++ UInt8.ofNat (48 + u % 10) :: l) = Lib.decDigits u ++ l := by
  rw [Lib.decDigits.eq_def u]
  by_cases h : u < 10
  · rw [dif_pos h, if_pos (by omega), show u % 10 = u by omega]; rfl
  · rw [dif_neg h, if_neg (by omega)]; simp
theorem one_conv (z : Int) (h0 : 0 ≤ z) (h1 : z ≤ 255) (W : World) : (convert 22 9 (.slice (some ⟨W.heap.size, 0, none⟩) 1 1)).run Tryd.prog (W.alloc (.cells #[.int .u8 z] 5)) = .ok (.string ⟨#[UInt8.ofNat z.toNat]⟩) (W.alloc (.cells #[.int .u8 z] 5)) := by
  have hb : Blk (W.alloc (.cells #[.int .u8 z] 5)) W.heap.size 5 (vals [z]).toArray := Blk.new W _ _
  have := conv_bytes (P := Tryd.prog) Tryd.underlying22 Tryd.underlying5 Tryd.underlying9 _ _ _ [z] 1 (Ints.of_blk hb (by intro x hx; simp at hx; subst hx; simp [Lit.wf, IntKind.min, IntKind.max, IntKind.signed, IntKind.bits]; omega))
  exact this

/-- Where the digits stand: the number of which are left, and those that are there. -/
def DigitsAt (n : Int) (x : Int) (l : List UInt8) : Prop :=
  (if x.natAbs = 0 then l else Lib.decDigits x.natAbs ++ l) = Lib.decDigits n.natAbs ∧ (0 ≤ n → 0 ≤ x ∧ x ≤ n) ∧ (n < 0 → n ≤ x ∧ x ≤ 0)

theorem ba_cons (a : UInt8) (l : List UInt8) : (⟨#[a]⟩ : ByteArray) ++ ⟨l.toArray⟩ = ⟨(a :: l).toArray⟩ := by
  apply ByteArray.ext
  simp
theorem digits_len (n : Int) (h0 : -9223372036854775808 ≤ n) (h1 : n ≤ 9223372036854775807) : (Lib.decDigits n.natAbs).length ≤ 21 := by
  have := Lib.itoa_length_le n h0 h1
  unfold Lib.itoa at this
  split at this
  · simp at this; omega
  · rwa [show n.toNat = n.natAbs by omega] at this
theorem DigitsAt.few {n x : Int} {l : List UInt8} (h : DigitsAt n x l) (h0 : -9223372036854775808 ≤ n) (h1 : n ≤ 9223372036854775807) : l.length ≤ 21 := by
  have a := congrArg List.length h.1
  have b := digits_len n h0 h1
  split at a
  · omega
  · simp at a; omega
theorem bitoa_zero (w : World) : Calls Tryd.prog 22 #[.int .i64 0] w fun e w' => e = .returned (.string ⟨(Lib.itoa 0).toArray⟩) ∧ Below w.heap.size w w' := by
  go_enter Tryd.func22, Tryd.ntmps22
  go_wp2
  go_ret
  exact ⟨by simp [Lib.itoa, Lib.decDigits], Below.refl _ _⟩

set_option maxHeartbeats 1000000 in
theorem bitoa_pos (n : Int) (w : World) (h0 : 0 < n) (h1 : n ≤ 9223372036854775807) : Calls Tryd.prog 22 #[.int .i64 n] w fun e w' => e = .returned (.string ⟨(Lib.itoa n).toArray⟩) ∧ Below w.heap.size w w' := by
  have hz : (n == 0) = false := by simp; omega
  have hneg : ¬ n < 0 := by omega
  have e1 : Lib.itoa n = Lib.decDigits n.natAbs := by unfold Lib.itoa; rw [if_neg (by omega)]; congr 1; omega
  rw [e1]
  clear e1
  go_enter Tryd.func22, Tryd.ntmps22
  go_wp2_with fail
  go_loopw [3, 4] (fun s x wr => ∃ (l : List UInt8) (u : Int), s = .string ⟨l.toArray⟩ ∧ x = .int .i64 u ∧ Hid (DigitsAt n u l) ∧ Below w.heap.size w wr) (fun _ x _ => (intOf x).natAbs)
  case atStart => exact ⟨[], n, rfl, rfl, Lib.hid ⟨by rw [if_neg (by omega)]; simp, fun _ => ⟨by omega, by omega⟩, fun h => by omega⟩, Below.refl _ _⟩
  case round =>
    obtain ⟨l, u, rfl, rfl, hd, hb⟩ := hrel
    by_cases hu : u = 0
    · subst hu
      have e : l = Lib.decDigits n.natAbs := by have := hd.out.1; simpa using this
      go_wp2_with fail
      go_ret
      exact ⟨by rw [← e]; rfl, hb⟩
    · have hu2 : (u == 0) = false := by simp [hu]
      have hp : 0 ≤ u ∧ u ≤ n := hd.out.2.1 (by omega)
      obtain ⟨r, hr⟩ : ∃ r, u % 10 = r := ⟨_, rfl⟩
      obtain ⟨y, hy⟩ : ∃ y, u / 10 = y := ⟨_, rfl⟩
      have ht : u.tmod 10 = r := by rw [Int.tmod_eq_emod_of_nonneg hp.1, hr]
      have hv : u.tdiv 10 = y := by rw [Int.tdiv_eq_ediv_of_nonneg hp.1, hy]
      have hr2 : 0 ≤ r ∧ r < 10 := by omega
      have hr3 : ¬ r < 0 := by omega
      have hy2 : 0 ≤ y ∧ y ≤ n := by omega
      have hw : (48 + r) % 256 = 48 + r := by omega
      have hc : (convert 22 9 (.slice (some ⟨wr.heap.size, 0, none⟩) 1 1)).run Tryd.prog (wr.alloc (.cells #[.int .u8 (48 + r)] 5)) = .ok (.string ⟨#[UInt8.ofNat (48 + r).toNat]⟩) (wr.alloc (.cells #[.int .u8 (48 + r)] 5)) := one_conv (48 + r) (by omega) (by omega) wr
      have hnext : Hid (DigitsAt n y (UInt8.ofNat (48 + r).toNat :: l)) := Lib.hid ⟨by
        have h1 := hd.out.1
        rw [if_neg (by omega), ← digits_step u.natAbs (by omega) l] at h1
        rw [← h1, show y.natAbs = u.natAbs / 10 by omega, show (48 + r).toNat = 48 + u.natAbs % 10 by omega], fun _ => hy2, fun h => by omega⟩
      have hb2 := hb.alloc hb.size (.cells #[.int .u8 (48 + r)] 5)
      have hlt : y.natAbs < u.natAbs := by omega
      have hfew := hd.out.few (by omega) h1
      have hs : ¬ 9223372036854775807 < 1 + l.length := by omega
      clear hr hy hd
      go_wp2_with fail
      go_roundw
      case rel => exact ⟨UInt8.ofNat (48 + r).toNat :: l, y, by rw [ba_cons], rfl, hnext, hb2⟩
      case measure => simpa [intOf] using hlt
set_option maxHeartbeats 1000000 in
theorem bitoa_neg (n : Int) (w : World) (h0 : n < 0) (h1 : -9223372036854775808 ≤ n) : Calls Tryd.prog 22 #[.int .i64 n] w fun e w' => e = .returned (.string ⟨(Lib.itoa n).toArray⟩) ∧ Below w.heap.size w w' := by
  have hz : (n == 0) = false := by simp; omega
  have e1 : Lib.itoa n = 45 :: Lib.decDigits n.natAbs := by unfold Lib.itoa; rw [if_pos h0]
  rw [e1]
  clear e1
  go_enter Tryd.func22, Tryd.ntmps22
  go_wp2_with fail
  go_loopw [3, 4] (fun s x wr => ∃ (l : List UInt8) (u : Int), s = .string ⟨l.toArray⟩ ∧ x = .int .i64 u ∧ Hid (DigitsAt n u l) ∧ Below w.heap.size w wr) (fun _ x _ => (intOf x).natAbs)
  case atStart => exact ⟨[], n, rfl, rfl, Lib.hid ⟨by rw [if_neg (by omega)]; simp, fun h => by omega, fun _ => ⟨by omega, by omega⟩⟩, Below.refl _ _⟩
  case round =>
    obtain ⟨l, u, rfl, rfl, hd, hb⟩ := hrel
    by_cases hu : u = 0
    · subst hu
      have HE : Hid (l = Lib.decDigits n.natAbs) := Lib.hid (by have := hd.out.1; simpa using this)
      have hfew := hd.out.few h1 (by omega)
      have hs : ¬ 9223372036854775807 < 1 + l.length := by omega
      go_wp2_with fail
      go_ret
      exact ⟨by rw [← HE.out, ← ba_cons]; rfl, hb⟩
    · have hu2 : (u == 0) = false := by simp [hu]
      have hp : n ≤ u ∧ u ≤ 0 := hd.out.2.2 h0
      obtain ⟨v, hv0⟩ : ∃ v : Nat, u = -(v : Int) := ⟨u.natAbs, by omega⟩
      obtain ⟨r, hr⟩ : ∃ r : Int, ((v % 10 : Nat) : Int) = r := ⟨_, rfl⟩
      obtain ⟨y, hy⟩ : ∃ y : Int, -((v / 10 : Nat) : Int) = y := ⟨_, rfl⟩
      have ht : u.tmod 10 = -r := by rw [hv0, Int.neg_tmod, Int.tmod_eq_emod_of_nonneg (by omega)]; omega
      have hv : u.tdiv 10 = y := by rw [hv0, Int.neg_tdiv, Int.tdiv_eq_ediv_of_nonneg (by omega)]; omega
      have hr2 : 0 ≤ r ∧ r < 10 := by omega
      have hy2 : n ≤ y ∧ y ≤ 0 := by omega
      have hw : (48 + r) % 256 = 48 + r := by omega
      have hc : (convert 22 9 (.slice (some ⟨wr.heap.size, 0, none⟩) 1 1)).run Tryd.prog (wr.alloc (.cells #[.int .u8 (48 + r)] 5)) = .ok (.string ⟨#[UInt8.ofNat (48 + r).toNat]⟩) (wr.alloc (.cells #[.int .u8 (48 + r)] 5)) := one_conv (48 + r) (by omega) (by omega) wr
      have hnext : Hid (DigitsAt n y (UInt8.ofNat (48 + r).toNat :: l)) := Lib.hid ⟨by
        have h1 := hd.out.1
        rw [if_neg (by omega), ← digits_step u.natAbs (by omega) l] at h1
        rw [← h1, show y.natAbs = u.natAbs / 10 by omega, show (48 + r).toNat = 48 + u.natAbs % 10 by omega], fun h => by omega, fun _ => hy2⟩
      have hb2 := hb.alloc hb.size (.cells #[.int .u8 (48 + r)] 5)
      have hlt : y.natAbs < u.natAbs := by omega
      have hrp : -r < 0 ∨ r = 0 := by omega
      have hfew := hd.out.few h1 (by omega)
      have hs : ¬ 9223372036854775807 < 1 + l.length := by omega
      clear hr hy hd hv0
      rcases hrp with hrp | hrp
      · go_wp2_with fail
        go_roundw
        case rel => exact ⟨UInt8.ofNat (48 + r).toNat :: l, y, by rw [ba_cons], rfl, hnext, hb2⟩
        case measure => simpa [intOf] using hlt
      · subst hrp
        simp only [Int.add_zero] at hc hnext hb2
        go_wp2_with fail
        go_roundw
        case rel => exact ⟨UInt8.ofNat (48 : Int).toNat :: l, y, by rw [ba_cons]; rfl, rfl, hnext, hb2⟩
        case measure => simpa [intOf] using hlt
theorem bitoa_any (n : Int) (w : World) (h0 : -9223372036854775808 ≤ n) (h1 : n ≤ 9223372036854775807) : Calls Tryd.prog 22 #[.int .i64 n] w fun e w' => e = .returned (.string ⟨(Lib.itoa n).toArray⟩) ∧ Below w.heap.size w w' := by
  by_cases hz : n = 0
  · subst hz; exact bitoa_zero w
  · by_cases hn : n < 0
    · exact bitoa_neg n w hn h0
    · exact bitoa_pos n w (by omega) h1
end Go.Proofs.YtfjjmhiogfimjaaDoor
