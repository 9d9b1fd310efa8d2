/- Contracts: begun, the chapter's example. -/
import Derived.Test.YtcfmadgehpmboaaR15
import Derived.Test.YtcfmadgehpmboaaR3
set_option linter.unusedSimpArgs false
set_option linter.unusedVariables false
namespace Go.Proofs.Ytcfmadgehpmboaa
open Go.RowKit Go.Attic

theorem five_ok : okR (2 : Nat) (0 : Nat) (0 : Nat) (2 : Nat) 0 := .inr ⟨by decide, by decide, by decide, by decide, by decide, rfl⟩
theorem five_is : IsR (secR 5 2 0 0 2 []) 5 2 0 0 2 [] := ⟨five_ok, by decide, by simp, rfl⟩
theorem five_len : (secR 5 2 0 0 2 []).length = 64 := five_is.len
theorem five_take : (secR 5 2 0 0 2 []).take 14 = [2, 0, 5, 0, 0, 0, 0, 0, 0, 0, 2, 0, 0, 0] := by
  obtain ⟨t, e⟩ := secR_form 5 2 0 0 2 []
  rw [e]
  rfl
theorem five_lt : ∀ y ∈ secR 5 2 0 0 2 [], y < 256 := secR_lt _ _ _ _ _ _ (by decide) (by decide) (by decide) (by simp)
theorem five_bytes (w : World) : Calls Try.prog 9 #[.int .i64 5, .agg #[.int .i64 2, .int .i64 0, .int .i64 0, .slice none 0 0, .int .i64 2]] w (NewBsE w (secR 5 2 0 0 2 []) 0) :=
  bytes_yes 5 2 0 0 2 (.slice none 0 0) [] w (Bs.nil w) (by decide) five_ok
theorem five_at (v : Value) (w : World) (hv : Bs w v (secR 5 2 0 0 2 [])) : Calls Try.prog 18 #[v, .int .i64 5] w (TakeE w 2 0 0 [] 2 0) := by
  obtain ⟨vr, hvr, hc⟩ := parse_yes v _ 5 2 0 0 2 [] five_is
  exact take_yes v _ 5 w hv (by decide) 5 2 0 0 2 0 [] vr hvr hc (by simp) rfl (by decide)

set_option maxRecDepth 100000 in
set_option maxHeartbeats 400000 in
theorem begun_any (w : World) : Calls Try.prog 7 #[] w fun e w' => e = .returned (.bool true) ∧ Below w.heap.size w w' := by
  have h9 := five_bytes
  have h18 := five_at
  have hlen := five_len
  have htk := five_take
  have hlt := five_lt
  generalize secR 5 2 0 0 2 [] = S at *
  have Hlen := hide hlen
  have Htk := hide htk
  clear hlen htk
  go_enter Try.func7, Try.ntmps7
  go_wp2_with fail
  refine (h9 _).mono ?_
  rintro e w1 ⟨v1, rfl, ho1, hb1⟩
  have hbs1 := Bs.of_owns ho1 hlt
  rw [Hlen.out] at ho1
  obtain ⟨ao1, cap1, rfl, hcap1, hg1⟩ := owns_form ho1
  obtain ⟨g1, rfl, -⟩ := hg1 (by decide)
  clear ho1 hg1
  go_wp2_with fail
  refine (h18 _ _ hbs1).mono ?_
  rintro e w2 ⟨v2, rfl, ho2, hb2⟩
  have hB2 := hb1.trans (hb2.mono hb1.size)
  have hbs2 := hbs1.mono hb2
  have hbs3 := Bs.take (h := 14) hbs2 (by rw [Hlen.out]; decide)
  rw [Htk.out] at hbs3
  have hD2 := Bs.of_owns ho2 (by simp)
  obtain ⟨ao2, cap2, rfl, -, -⟩ := owns_form ho2
  simp only [List.length_nil] at hD2 ⊢
  have hbs4 := (hbs3.alloc (.cells #[.int .i64 2, .int .i64 0, .int .i64 0, .slice ao2 0 cap2, .int .i64 2] 24)).alloc (.cells #[.int .u8 2, .int .u8 0, .int .u8 5, .int .u8 0, .int .u8 0, .int .u8 0, .int .u8 0, .int .u8 0, .int .u8 0, .int .u8 0, .int .u8 2, .int .u8 0, .int .u8 0, .int .u8 0] 5)
  have hR := RecAt.new w2 2 0 0 (.slice ao2 0 cap2) 2
  have hR2 := hR.alloc (.cells #[.int .u8 2, .int .u8 0, .int .u8 5, .int .u8 0, .int .u8 0, .int .u8 0, .int .u8 0, .int .u8 0, .int .u8 0, .int .u8 0, .int .u8 2, .int .u8 0, .int .u8 0, .int .u8 0] 5)
  have hD3 := (hD2.alloc (.cells #[.int .i64 2, .int .i64 0, .int .i64 0, .slice ao2 0 cap2, .int .i64 2] 24)).alloc (.cells #[.int .u8 2, .int .u8 0, .int .u8 5, .int .u8 0, .int .u8 0, .int .u8 0, .int .u8 0, .int .u8 0, .int .u8 0, .int .u8 0, .int .u8 2, .int .u8 0, .int .u8 0, .int .u8 0] 5)
  have hlit : Bs ((w2.alloc (.cells #[.int .i64 2, .int .i64 0, .int .i64 0, .slice ao2 0 cap2, .int .i64 2] 24)).alloc (.cells #[.int .u8 2, .int .u8 0, .int .u8 5, .int .u8 0, .int .u8 0, .int .u8 0, .int .u8 0, .int .u8 0, .int .u8 0, .int .u8 0, .int .u8 2, .int .u8 0, .int .u8 0, .int .u8 0] 5)) (.slice (some ⟨w2.heap.size + 1, 0, none⟩) 14 14) [2, 0, 5, 0, 0, 0, 0, 0, 0, 0, 2, 0, 0, 0] := by
    have := Bs.lit (w2.alloc (.cells #[.int .i64 2, .int .i64 0, .int .i64 0, .slice ao2 0 cap2, .int .i64 2] 24)) 5 [2, 0, 5, 0, 0, 0, 0, 0, 0, 0, 2, 0, 0, 0] #[.int .u8 2, .int .u8 0, .int .u8 5, .int .u8 0, .int .u8 0, .int .u8 0, .int .u8 0, .int .u8 0, .int .u8 0, .int .u8 0, .int .u8 2, .int .u8 0, .int .u8 0, .int .u8 0] rfl (by decide)
    simpa using this
  have hB3 := (hB2.alloc hB2.size (.cells #[.int .i64 2, .int .i64 0, .int .i64 0, .slice ao2 0 cap2, .int .i64 2] 24)).alloc (by have := hB2.size; simp; omega) (.cells #[.int .u8 2, .int .u8 0, .int .u8 5, .int .u8 0, .int .u8 0, .int .u8 0, .int .u8 0, .int .u8 0, .int .u8 0, .int .u8 0, .int .u8 2, .int .u8 0, .int .u8 0, .int .u8 0] 5)
  clear ho2 hbs1 hb1 hb2 hbs2 hbs3 hD2 hR h9 h18
  go_wp2_with fail
  refine (equal_any _ _ _ _ _ hbs4 hlit).mono ?_
  rintro e w3 ⟨rfl, rfl⟩
  obtain ⟨c0, c1, c2, c3, c4, -, -, -, -, -, -⟩ := hR2
  rw [decide_eq_true rfl]
  go_wp2_with fail
  refine (same_any 2 0 0 2 2 0 0 2 _ _ [] [] _ hD3 (Bs.nil _)).mono ?_
  rintro e w4 ⟨rfl, hb4⟩
  rw [show sameB 2 0 0 2 [] 2 0 0 2 [] = true from decide_eq_true ⟨rfl, rfl, rfl, rfl, rfl⟩]
  go_wp2_with fail
  go_ret
  exact ⟨rfl, hB3.trans (hb4.mono hB3.size)⟩

end Go.Proofs.Ytcfmadgehpmboaa
