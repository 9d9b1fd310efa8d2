/- WordSums answers true for every slice of bytes: word.Sum, word.Seal and word.Unseal answer as the document's own functions do, and what is sealed is unsealed. No conditions. -/
import Derived.Test.YtiloaehomdlokaaC8
import Derived.Test.YtiloaehomdlokaaFrame
set_option linter.unusedSimpArgs false
set_option linter.unusedVariables false
namespace Go.Proofs.Ytiloaehomdlokaa
open Go.RowKit Go.Attic Go.ChangeShapes Go.WideShapes

theorem getN_num (a b : List Nat) (n v k : Nat) (hk : k ≤ n) : getN (a ++ numN n v ++ b) a.length k = v % 2 ^ (8 * k) := by
  induction k with
  | zero => simp [getN, Nat.mod_one]
  | succ k ih =>
    have e : (a ++ numN n v ++ b).getD (a.length + k) 0 = v / 2 ^ (8 * k) % 256 := by
      have h1 : k < (numN n v).length := by rw [numN_length]; omega
      rw [List.getD_eq_getElem?_getD, List.append_assoc, List.getElem?_append_right (by omega), Nat.add_sub_cancel_left, List.getElem?_append_left h1]
      simp [numN, show k < n by omega]
    simp only [getN]
    rw [ih (by omega), e, pow8, Nat.mul_comm 256, Nat.mod_mul, Nat.mul_comm (2 ^ (8 * k))]

theorem unsE_seal (l : List Nat) : unsE (sealN l) = 0 := by
  have h1 := sealN_length l
  have h2 : getN (sealN l) l.length 4 = sumN l := by
    have := getN_num l [] 4 (sumN l) 4 (by omega)
    rw [List.append_nil] at this
    rw [sealN, this]
    exact Nat.mod_eq_of_lt (sumN_lt l)
  have h3 : (sealN l).take l.length = l := by simp [sealN]
  simp [unsE, h1, h2, h3]
theorem unsL_seal (l : List Nat) : unsL (sealN l) = l := by
  rw [unsL, if_pos (unsE_seal l), sealN_length]
  simp [sealN]

set_option maxRecDepth 100000 in
set_option maxHeartbeats 400000 in
theorem sums_walk (v : Value) (l : List Nat) (w : World) (h : Bs w v l) (hlen : l.length ≤ 140737488351232) :
    Calls Try.prog 5 #[v] w fun e w' => e = .returned (.bool true) ∧ Below w.heap.size w w' := by
  have hux : ∀ x ∈ unsL l, x < 256 := by
    intro x hx
    unfold unsL at hx
    split at hx
    · exact h.lt x (List.mem_of_mem_take hx)
    · simp at hx
  have hT : ∀ w v, Bs w v l → Calls Try.prog 21 #[v] w (NewBsE w (unsL l) (unsE l)) := fun w v h => unseal_any v l w h (by omega)
  have hR : ∀ w v, Bs w v l → Calls Try.prog 22 #[v] w (NewBsE w (unsL l) (unsE l)) := fun w v h => runseal_any v l w h (by omega)
  have hS : ∀ w v, Bs w v (sealN l) → Calls Try.prog 21 #[v] w (NewBsE w l 0) := fun w v h => by
    have := unseal_any v (sealN l) w h (by rw [sealN_length]; omega)
    rwa [unsE_seal, unsL_seal] at this
  have hlt := h.lt
  have hslt := sealN_lt hlt
  generalize unsL l = ul at *
  generalize unsE l = ue at *
  have HT := hide hT
  have HR := hide hR
  have HS := hide hS
  clear hT hR hS
  go_enter Try.func5, Try.ntmps5
  go_wp2_with fail
  refine (HT.out _ _ h).mono ?_
  rintro e w1 ⟨x1, rfl, ho1, hb1⟩
  have hs1 := Bs.of_owns ho1 hux
  clear ho1
  go_wp2_with fail
  have h1 := h.mono hb1
  refine (HR.out _ _ h1).mono ?_
  rintro e w2 ⟨x2, rfl, ho2, hb2⟩
  have hs2 := Bs.of_owns ho2 hux
  clear ho2
  go_wp2_with fail
  have h2 := h1.mono hb2
  refine (rseal_any _ l _ h2 (by omega)).mono ?_
  rintro e w3 ⟨x3, rfl, ho3, hb3⟩
  have hs3 := Bs.of_owns ho3 hslt
  clear ho3
  go_wp2_with fail
  refine (HS.out _ _ hs3).mono ?_
  rintro e w4 ⟨x4, rfl, ho4, hb4⟩
  have hs4 := Bs.of_owns ho4 hlt
  clear ho4
  go_wp2_with fail
  refine (live_any _).mono ?_
  rintro e w5 ⟨rfl, hb5⟩
  go_wp2_with fail
  have h5 := ((h2.mono hb3).mono hb4).mono hb5
  refine (sum_any _ l _ h5 (by omega)).mono ?_
  rintro e w6 ⟨rfl, rfl⟩
  go_wp2_with fail
  refine (rsum_any _ l _ h5 (by omega)).mono ?_
  rintro e w6 ⟨rfl, rfl⟩
  go_wp2_with fail
  refine (seal_any _ l _ h5 (by omega)).mono ?_
  rintro e w6 ⟨x6, rfl, ho6, hb6⟩
  have hs6 := Bs.of_owns ho6 hslt
  clear ho6
  go_wp2_with fail
  refine (rseal_any _ l _ (h5.mono hb6) (by omega)).mono ?_
  rintro e w7 ⟨x7, rfl, ho7, hb7⟩
  have hs7 := Bs.of_owns ho7 hslt
  clear ho7
  go_wp2_with fail
  refine (equal_any _ _ _ _ _ (hs6.mono hb7) hs7).mono ?_
  rintro e w8 ⟨rfl, rfl⟩
  go_wp2_with fail
  refine (equal_any _ _ ul ul _ ((((((hs1.mono hb2).mono hb3).mono hb4).mono hb5).mono hb6).mono hb7) (((((hs2.mono hb3).mono hb4).mono hb5).mono hb6).mono hb7)).mono ?_
  rintro e w8 ⟨rfl, rfl⟩
  go_wp2_with fail
  refine (equal_any _ _ l l _ (((hs4.mono hb5).mono hb6).mono hb7) ((h5.mono hb6).mono hb7)).mono ?_
  rintro e w8 ⟨rfl, rfl⟩
  have z1 := hb1.size
  have z2 := hb2.size
  have z3 := hb3.size
  have z4 := hb4.size
  have z5 := hb5.size
  have z6 := hb6.size
  have Hb : Hid (Below w.heap.size w w7) := (((((hb1.trans (hb2.mono (by omega))).trans (hb3.mono (by omega))).trans (hb4.mono (by omega))).trans (hb5.mono (by omega))).trans (hb6.mono (by omega))).trans (hb7.mono (by omega))
  clear hb1 hb2 hb3 hb4 hb5 hb6 hb7 hs1 hs2 hs3 hs4 hs6 hs7 h1 h2 h5 h hux
  go_wp2
  go_ret
  exact ⟨by simp, Hb.out⟩

theorem sums_lifted (os : Os) (started : os.Started) (H : Type) (enc : TypeId × Value → H) :
    ReturnsInHanded {} Try.checked os 5 .any (Rows.wordSumsSpec.pre6 enc Try.prog Try.f5 Rows.wordSumsRow.domain false) (Rows.wordSumsSpec.post enc Try.prog Try.f5 false true false false) := by
  refine law_frame (C := Try.checked) rfl Try.own started (by kernel_rfl) Try.func5
    (ChangeSpec.witness6 (enc := enc) (C := Try.checked) false ⟨#[], #[.slice none 0 0], []⟩ 8 (by kernel_rfl) (by kernel_rfl) (by kernel_rfl) (by kernel_rfl))
    Try.laidOut ?_ 4 rfl Try.underlying4 ?_ ?_
  · rw [Try.params5]
    intro t ht
    simp at ht
    rcases ht with rfl <;> exact ⟨by kernel_rfl, of_decide_eq_true (by kernel_rfl)⟩
  · intro ds hn
    rw [Try.params5] at hn
    match ds, hn with
    | [d1], _ => rfl
  · intro W base args ds p hval0 hA hsz
    have hval : ∀ (j : Nat) t v, Try.f5.params[j]? = some t → args[j]? = some v → Value.okWide Try.prog W .any base t v := hval0
    rw [Try.params5] at hA hsz hval
    obtain ⟨v0, vs0, d0, ds0, p0, q0, hargs, rfl, rfl, h0, r0⟩ := trodAll_cons hA
    obtain ⟨rfl, rfl, rfl⟩ := trodAll_nil r0
    obtain rfl : args = #[v0] := by cases args; simp_all
    obtain ⟨l, hbs, hl⟩ := Bs.came Try.underlying22 Try.underlying5 (by kernel_rfl) (hval 0 22 v0 rfl rfl) h0
    have hlen := came_len hsz (j := 0) (t := 22) rfl rfl Try.underlying22 (by kernel_rfl) hl
    exact sums_walk v0 l W hbs hlen

theorem wordSums_holds : Rows.WordSumsSaid :=
  OpenClaim.holds_of_wide 5 Try.f5 rfl rfl rfl rfl rfl rfl rfl ⟨rfl, rfl, rfl, rfl, rfl⟩ rfl rfl rfl rfl rfl (by kernel_rfl) Try.func5 (by kernel_rfl)
    (of_decide_eq_true (by kernel_rfl)) (by unfold Func.isWrapper; first | (rw [if_pos (by decide +kernel)]; kernel_rfl) | (rw [if_neg (by decide +kernel)]; exact ⟨rfl, rfl⟩))
    (fun os started H enc _ => sums_lifted os started H enc)
#print axioms wordSums_holds
end Go.Proofs.Ytiloaehomdlokaa
