/- Bytes of any record on both sides; what parse answers of any bytes. -/
import Derived.Test.YtjhbljkoapbkfaaGreatM6
import Derived.Test.YtjhbljkoapbkfaaGreatM12
import Derived.Test.YtjhbljkoapbkfaaGreatM5
set_option linter.unusedSimpArgs false
set_option linter.unusedVariables false

namespace Go.Proofs.YtjhbljkoapbkfaaGreat
open Go.RowKit Go.Attic
theorem bytes_both2 (p k b o m : Int) (l : List Nat) (hx : ∀ x ∈ l, x < 256) (hlen : l.length ≤ 140737488355328) : ∃ M er, BytesR p k b o m l M er ∧
    (∀ v w, Bs w v l → Calls Tryz.prog 73 #[.int .i64 p, .agg #[.int .i64 k, .int .i64 b, .int .i64 o, v, .int .i64 m]] w (NewBsE w M er)) ∧ (∀ v w, Bs w v l → Calls Tryz.prog 53 #[.int .i64 p, .agg #[.int .i64 k, .int .i64 b, .int .i64 o, v, .int .i64 m]] w (NewBsE w M er)) := by
  cases hp : placeB p with
  | false => exact ⟨[], 1, .inr ⟨.inl rfl, rfl⟩, fun v w hv => bytes_arg p k b o m v l w hv hp, fun v w hv => rbytes_arg p k b o m v l w hv hp⟩
  | true =>
    by_cases h : okR k b o m l.length
    · have hp2 : 0 ≤ p ∧ p ≤ 2305843009213693952 := by simpa [placeB] using hp
      obtain ⟨k', b', o', m', rfl, rfl, rfl, rfl⟩ := okR_nat h
      obtain ⟨p', rfl⟩ := Int.eq_ofNat_of_zero_le hp2.1
      have hp3 : p' ≤ 2305843009213693952 := by omega
      exact ⟨secR p' k' b' o' m' l, 0, .inl ⟨rfl, p', k', b', o', m', rfl, rfl, rfl, rfl, rfl, h, hp3, hx, rfl⟩, fun v w hv => bytes_yes p' k' b' o' m' v l w hv hp3 h, fun v w hv => rbytes_yes p' k' b' o' m' v l w hv hp3 h⟩
    · have hc : chkR k b o m l.length ≠ 0 := fun e => h (chkR_zero e)
      refine ⟨[], chkR k b o m l.length, .inr ⟨.inr (chkR_no h), rfl⟩, fun v w hv => bytes_rec p k b o m v l w hv hlen hp hc, fun v w hv => rbytes_rec p k b o m v l w hv hlen hp hc⟩


end Go.Proofs.YtjhbljkoapbkfaaGreat
