/- What is known of icmp's words. No conditions but those that each names. -/
import Derived.Test.YtgdkgllhblfiiaaIcmpF
set_option linter.unusedVariables false
set_option linter.unusedSimpArgs false
set_option maxRecDepth 100000
namespace Go.Proofs.Ytgdkgllhblfiiaa.Ex
open Go Go.RowKit

/-- What is known of the words. -/
structure AbsOk (S : Abs) : Prop where
  pl : ∀ n, plainP (S.sp n) 0
  rm : ∀ n, roomP (S.sp n) (S.len n) (S.cap n)
  le : ∀ n, S.len n ≤ 1473
  row : ∀ n L, L.length = n → (S.row n L).length = S.len n
  byt : ∀ n L, Byt L → Byt (S.row n L)
  msgLen : ∀ k c r L, (S.msg k c r L).length = 8 + L.length
  msgByt : ∀ k c r L, okM k c r → Byt L → Byt (S.msg k c r L)
  kind : ∀ k c r L, S.num (S.msg k c r L) 0 = k
  code : ∀ k c r L, S.num (S.msg k c r L) 1 = c
  rest : ∀ k c r L, okM k c r → S.rest (S.msg k c r L) = r
  sum : ∀ k c r L, okM k c r → Byt L → S.sum (S.msg k c r L) = 65535
  drop : ∀ k c r L, (S.msg k c r L).drop 8 = L
theorem absOk : AbsOk S0 := ⟨f_plain, f_room, fun n => (by have := f_len n; show fLen n ≤ 1473; omega), fun _ _ h => f_row h, fun _ _ h => f_byt h, msgL_len, fun _ _ _ _ h hL => msgL_byt h hL, msg_kind, msg_code, fun _ _ _ _ h => msg_rest h _, fun _ _ _ _ h hL => sumL_msg h hL, msg_drop⟩
end Go.Proofs.Ytgdkgllhblfiiaa.Ex
