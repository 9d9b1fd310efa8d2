/- WordBack answers true for every number, width and slice of bytes: numbers, numbers in as few bytes as can be, and sealed bytes are read as they were, whatever stands behind; what is taken is the number's one form. No conditions. -/
import Derived.Test.YtiloaehomdlokaaSums
import Derived.Test.YtiloaehomdlokaaBackPure
import Derived.Deep.RegionHeld3
import Derived.Deep.QuietTactic
import Derived.BigQuiet
import Derived.WalkSmall
set_option linter.unusedSimpArgs false
set_option linter.unusedVariables false
namespace Go.Proofs.Ytiloaehomdlokaa
open Go.RowKit Go.Attic Go.ChangeShapes Go.WideShapes

theorem getV_num (k a : Nat) (b : List Nat) (h1 : 1 ≤ k) (h8 : k ≤ 8) : getB (numN k a ++ b) 0 k = true ∧ getV (numN k a ++ b) 0 k = a % 2 ^ (8 * k) := by
  have hb : getB (numN k a ++ b) 0 k = true := by simp [getB, widthB, numN_length]; omega
  refine ⟨hb, ?_⟩
  simp only [getV, hb, if_true, Int.toNat_natCast]
  have := getN_num [] b k a k (Nat.le_refl _)
  simpa using this

set_option maxRecDepth 100000 in
set_option maxHeartbeats 1000000 in
theorem back_walk (a n : Nat) (v : Value) (l : List Nat) (w : World) (ha : a < 2 ^ 64) (hn : n < 256) (h : Bs w v l) (hlen : l.length ≤ 140737488351232) :
    Calls Try.prog 7 #[.int .u64 a, .int .u8 n, v] w fun e w' => e = .returned (.bool true) ∧ Below w.heap.size w w' := by
  obtain ⟨i0, hi, hz0, hz1, hz2⟩ := info_parts Try.info5
  obtain ⟨k, hk⟩ : ∃ k, k = 1 + n % 8 := ⟨_, rfl⟩
  have hk1 : 1 ≤ k := by omega
  have hk8 : k ≤ 8 := by omega
  have hnum : numL (k : Int) a = numN k a := by
    have : widthB (k : Int) = true := by simp [widthB]; omega
    simp [numL, this]
  obtain ⟨hgB, hgV⟩ := getV_num k a l hk1 hk8
  have HgB := hide hgB
  have HgV := hide hgV
  have Hnum := hide hnum
  have hkk : 1 + (n : Int) % 8 = (k : Int) := by omega
  have Hk := hide hk
  clear hk hgB hgV hnum
  go_enter Try.func7, Try.ntmps7
  go_wp2_with fail
  refine (live_any _).mono ?_
  rintro e w1 ⟨rfl, hb1⟩
  have h1 := h.mono hb1
  go_wp2_with fail
  have hn2 := num_any (k : Int) a w1 ha
  rw [Hnum.out] at hn2
  refine hn2.mono ?_
  rintro e w2 ⟨v2, rfl, ho2, hb2⟩
  have h2 := h1.mono hb2
  have z1 := hb1.size
  have z2 := hb2.size
  clear hn2
  go_wp2_with (first | (at_builtin; go_loud (refine wpList_append_bs _ rfl (.tmp 24) (.tmp 25) 22 rfl w1.heap.size 5 i0 (.int .u8 0) Try.underlying22 hi hz0 hz1 hz2 rfl _ _ (numN k a) rfl ho2 _ l rfl h2 (by rw [numN_length]; omega) z2 ?_); intro v3 w3 ho3 hg3) | fail)
  have hb3 : Below w.heap.size w w3 := (hb1.trans (hb2.mono z1)).grown hg3 (by omega) (fun j hj => by have := owns_lt ho2 j hj; omega)
  have hs3 := Bs.of_owns ho3 (by
    intro x hx
    rcases List.mem_append.1 hx with hx | hx
    · exact numN_lt _ _ x hx
    · exact h.lt x hx)
  clear hg3 ho2 ho3 hb1 hb2 h1 h2
  refine (get_any _ _ _ _ _ hs3 (by rw [List.length_append, numN_length]; omega)).mono ?_
  rintro e w4 ⟨rfl, rfl⟩
  rw [HgB.out, HgV.out]
  clear HgB HgV
  obtain ⟨x, hx⟩ : ∃ x, x = a % 2 ^ (8 * k) := ⟨_, rfl⟩
  rw [← hx]
  have Hx := hide hx
  clear hx
  go_wp2_with fail
  refine (uvar_any a _ ha).mono ?_
  rintro e w4 ⟨v4, rfl, ho4, hb4⟩
  have hl10 := ulen_le10 ha
  have hul := uvarN_length ha
  have z3 := hb3.size
  have z4 := hb4.size
  have hb4' := hb3.trans (hb4.mono z3)
  have h4 := h.below hb4' (Nat.le_refl _)
  have Hul := hide hul
  clear hul hs3
  go_wp2_with (first | (at_builtin; go_loud (refine wpList_append_bs _ rfl (.tmp 33) (.tmp 34) 22 rfl w3.heap.size 5 i0 (.int .u8 0) Try.underlying22 hi hz0 hz1 hz2 rfl _ _ (uvarN a) rfl ho4 _ l rfl h4 (by rw [Hul.out]; omega) z4 ?_); intro v5 w5 ho5 hg5) | fail)
  have hb5 : Below w.heap.size w w5 := hb4'.grown hg5 (by omega) (fun j hj => by have := owns_lt ho4 j hj; omega)
  have hs5 := Bs.of_owns ho5 (by
    intro x hx
    rcases List.mem_append.1 hx with hx | hx
    · exact uvarN_lt ha x hx
    · exact h.lt x hx)
  clear hg5 ho4 ho5 hb4 hb4' h4
  have ht := take_any _ _ _ hs5 (by rw [List.length_append, Hul.out]; omega)
  rw [takeN_uvar ha l] at ht
  refine ht.mono ?_
  rintro e w6 ⟨rfl, rfl⟩
  simp only [takeE]
  clear ht hs5
  have hsl := sealN_lt h.lt
  have hform := fun y m => takeN_form l h.lt (y := y) (m := m)
  have h5 := h.below hb5 (Nat.le_refl _)
  have Hform := hide hform
  have Hk8 := hide hk8
  clear hform hk8 hb3 z3 z4
  by_cases hk7 : k < 8
  case' pos =>
    obtain ⟨P, hP⟩ : ∃ P, P = 2 ^ (8 * k) := ⟨_, rfl⟩
    have hP0 : 0 < P := by rw [hP]; exact Nat.two_pow_pos _
    have hP65 : P < 2 ^ 64 := by rw [hP]; exact Nat.pow_lt_pow_right (by decide) (by omega)
    have hP64 : P < 18446744073709551616 := by omega
    have hP2 : (2 : Int) ^ (8 * k) = (P : Int) := by rw [hP]; simp
    have hxx : x = a % P := by rw [hP]; exact Hx.out
    subst hxx
    clear hP Hx hP65
    have hk9 : ((k : Int) == 8) = false := by simp; omega
    go_wp2_with fail
  case' neg =>
    obtain rfl : k = 8 := by have := Hk8.out; omega
    obtain rfl : x = a := by rw [Hx.out]; exact Nat.mod_eq_of_lt ha
    go_wp2_with fail
  all_goals
    refine (uvar_any _ _ ha).mono ?_
    rintro e w6 ⟨v6, rfl, ho6, hb6⟩
    rw [Hul.out] at ho6
    obtain ⟨ao6, cap6, rfl, _, _⟩ := owns_form ho6
    have hb6' := hb5.trans (hb6.mono hb5.size)
    have h6 := h5.mono hb6
    clear ho6 hb6 h5 hb5
    go_wp2_with fail
    refine (seal_any _ l _ h6 (by omega)).mono ?_
    rintro e w7 ⟨v7, rfl, ho7, hb7⟩
    have hs7 := Bs.of_owns ho7 hsl
    have hb7' := hb6'.trans (hb7.mono hb6'.size)
    have h7 := h6.mono hb7
    clear ho7 hb7 h6 hb6'
    have hun := unseal_any _ _ _ hs7 (by rw [sealN_length]; omega)
    rw [unsE_seal, unsL_seal] at hun
    have Hun := hide hun
    clear hun hs7
    go_wp2_with fail
    refine (Hun.out).mono ?_
    rintro e w8 ⟨v8, rfl, ho8, hb8⟩
    have hs8 := Bs.of_owns ho8 h.lt
    have hb8' := hb7'.trans (hb8.mono hb7'.size)
    have h8 := h7.mono hb8
    clear ho8 hb8 h7 hb7' Hun
    go_wp2_with fail
    refine (equal_any _ _ l l _ hs8 h8).mono ?_
    rintro e w9 ⟨rfl, rfl⟩
    clear hs8
    go_wp2_with fail
    refine (take_any _ l _ h8 (by omega)).mono ?_
    rintro e w9 ⟨rfl, rfl⟩
    simp only [takeE]
    obtain ⟨y, m, er, hr⟩ : ∃ y m er, takeN l = (y, m, er) := ⟨_, _, _, rfl⟩
    have Hy := Hform.out y m
    rw [hr] at Hy ⊢
    clear hr
    have HY := hide Hy
    clear Hy Hform
    obtain ⟨ao8, cap8, rfl, hcap8, _⟩ := id h8
    go_wp2_with fail
    by_cases her : er = 0
    · subst her
      obtain ⟨hm, hy, hu⟩ := HY.out rfl
      have hut := h8.take hm
      have hm1 : (m : Int) ≤ (l.length : Int) := by omega
      have hm2 : (m : Int) ≤ (cap8 : Int) := by omega
      have hm3 : (0 : Int) ≤ (m : Int) := by omega
      have Hu := hide hu
      have S0 : Bs w8.drew (.slice ao8 m cap8) (l.take m) ∧ Below w.heap.size w w8.drew := ⟨hut.drew, hb8'.drew⟩
      have hz8 := hb8'.size
      clear hu HY h8 hut h hb8' Hul
      go_region_held3 (fun w' => Bs w' (.slice ao8 m cap8) (l.take m) ∧ Below w.heap.size w w')
        (first | exact S0 | assumption | exact ⟨S0.1.mono hbU, S0.2.trans (hbU.mono hz8)⟩)
        (first
          | (go_at_call 19; refine (uvar_any y _ hy).mono ?_; rintro e wU ⟨vU, rfl, hoU, hbU⟩; have hsU := Bs.of_owns hoU (uvarN_lt hy); rw [Hu.out] at hsU; clear hoU)
          | (go_at_call 14; refine (equal_any _ _ _ _ _ hsU (S0.1.mono hbU)).mono ?_; rintro e wE ⟨rfl, rfl⟩))
      have Hb : Hid (Below w.heap.size w wU) := S0.2.trans (hbU.mono hz8)
      clear S0 hbU hsU
      go_wp2
      go_ret
      exact ⟨by simp, Hb.out⟩
    · have hne : ((er : Int) != 0) = true := by simp [her]
      clear HY her
      go_quiet (fail)
      go_wp2
      go_ret
      exact ⟨by simp, below_drewN hb8' _⟩

theorem wordBack_lifted (os : Os) (started : os.Started) (H : Type) (enc : TypeId × Value → H) :
    ReturnsInHanded {} Try.checked os 7 .any (Rows.wordBackSpec.pre6 enc Try.prog Try.f7 Rows.wordBackRow.domain false) (Rows.wordBackSpec.post enc Try.prog Try.f7 false true false false) := by
  refine law_frame (C := Try.checked) rfl Try.own started (by kernel_rfl) Try.func7
    (ChangeSpec.witness6 (enc := enc) (C := Try.checked) false ⟨#[], #[.int .u64 0, .int .u8 0, .slice none 0 0], []⟩ 8 (by kernel_rfl) (by kernel_rfl) (by kernel_rfl) (by kernel_rfl))
    Try.laidOut ?_ 4 rfl Try.underlying4 ?_ ?_
  · rw [Try.params7]
    intro t ht
    simp at ht
    rcases ht with rfl | rfl | rfl <;> exact ⟨by kernel_rfl, of_decide_eq_true (by kernel_rfl)⟩
  · intro ds hn
    rw [Try.params7] at hn
    match ds, hn with
    | [d1, d2, d3], _ => rfl
  · intro W base args ds p hval0 hA hsz
    have hval : ∀ (j : Nat) t v, Try.f7.params[j]? = some t → args[j]? = some v → Value.okWide Try.prog W .any base t v := hval0
    rw [Try.params7] at hA hsz hval
    obtain ⟨v0, vs0, d0, ds0, p0, q0, hargs, rfl, rfl, h0, r0⟩ := trodAll_cons hA
    obtain ⟨v1, vs1, d1, ds1, p1, q1, rfl, rfl, rfl, h1, r1⟩ := trodAll_cons r0
    obtain ⟨v2, vs2, d2, ds2, p2, q2, rfl, rfl, rfl, h2, r2⟩ := trodAll_cons r1
    obtain ⟨rfl, rfl, rfl⟩ := trodAll_nil r2
    obtain rfl : args = #[v0, v1, v2] := by cases args; simp_all
    obtain ⟨a0, rfl, rfl, rfl, w0⟩ := open_int Try.underlying23 (hval 0 23 v0 rfl rfl) h0
    have hb0 := bounds_u64 w0
    obtain ⟨n0, rfl⟩ := Int.eq_ofNat_of_zero_le hb0.1
    obtain ⟨a1, rfl, rfl, rfl, w1⟩ := open_int Try.underlying5 (hval 1 5 v1 rfl rfl) h1
    have hb1 := bounds_u8 w1
    obtain ⟨n1, rfl⟩ := Int.eq_ofNat_of_zero_le hb1.1
    obtain ⟨l2, hbs2, hl2⟩ := Bs.came Try.underlying22 Try.underlying5 (by kernel_rfl) (hval 2 22 v2 rfl rfl) h2
    have hlen2 := came_len hsz (j := 2) (t := 22) rfl rfl Try.underlying22 (by kernel_rfl) hl2
    exact back_walk n0 n1 v2 l2 W (by omega) (by omega) hbs2 hlen2

theorem wordBack_holds : Rows.WordBackSaid :=
  OpenClaim.holds_of_wide 7 Try.f7 rfl rfl rfl rfl rfl rfl rfl ⟨rfl, rfl, rfl, rfl, rfl⟩ rfl rfl rfl rfl rfl (by kernel_rfl) Try.func7 (by kernel_rfl)
    (of_decide_eq_true (by kernel_rfl)) (by unfold Func.isWrapper; first | (rw [if_pos (by decide +kernel)]; kernel_rfl) | (rw [if_neg (by decide +kernel)]; exact ⟨rfl, rfl⟩))
    (fun os started H enc _ => wordBack_lifted os started H enc)
#print axioms wordBack_holds
end Go.Proofs.Ytiloaehomdlokaa
