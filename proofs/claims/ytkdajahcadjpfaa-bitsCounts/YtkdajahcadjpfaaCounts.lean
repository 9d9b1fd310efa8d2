/- BitsCounts answers true for every two rows of bytes: what And and Or count together is what both rows count, what And and Sub count together is what the first counts, and Within says true just if Sub has no bit. No conditions. -/
import Derived.Test.YtkdajahcadjpfaaC8
import Derived.Test.YtkdajahcadjpfaaFrame
set_option linter.unusedSimpArgs false
set_option linter.unusedVariables false
namespace Go.Proofs.Ytkdajahcadjpfaa
open Go.RowKit Go.Attic Go.ChangeShapes Go.WideShapes

theorem fewB_two' (a b : List Nat) : fewB [a, b] = (decide (a.length ≤ 3000) && decide (b.length ≤ 3000)) := by simp [fewB]

theorem cnt_and_or {a b : List Nat} (xa : ∀ x ∈ a, x < 256) (xb : ∀ x ∈ b, x < 256) (n : Nat) : ∀ k, k ≤ 8 * n → cntTo (joinN (fun x y => x &&& y) a b n) k + cntTo (joinN (fun x y => x ||| y) a b n) k = cntTo a k + cntTo b k := by
  intro k
  induction k with
  | zero => intro _; rfl
  | succ k ih =>
    intro hk
    have := ih (by omega)
    rw [cntTo_succ, cntTo_succ, cntTo_succ, cntTo_succ, bitB_join bitwise_and xa xb (by omega), bitB_join bitwise_or xa xb (by omega)]
    cases bitB a k <;> cases bitB b k <;> simp <;> omega
theorem cnt_and_sub {a b : List Nat} (xa : ∀ x ∈ a, x < 256) (xb : ∀ x ∈ b, x < 256) (n : Nat) : ∀ k, k ≤ 8 * n → cntTo (joinN (fun x y => x &&& y) a b n) k + cntTo (joinN (fun x y => x &&& (255 - y)) a b n) k = cntTo a k := by
  intro k
  induction k with
  | zero => intro _; rfl
  | succ k ih =>
    intro hk
    have := ih (by omega)
    rw [cntTo_succ, cntTo_succ, cntTo_succ, bitB_join bitwise_and xa xb (by omega), bitB_join bitwise_sub xa xb (by omega)]
    cases bitB a k <;> cases bitB b k <;> simp <;> omega
theorem cnt_zero (l : List Nat) (k : Nat) : cntTo l k = 0 ↔ ∀ i, i < k → bitB l i = false := by
  unfold cntTo
  rw [List.countP_eq_zero]
  constructor
  · intro h i hi
    have := h i (by simpa using hi)
    simpa using this
  · intro h i hi
    have := h i (by simpa using hi)
    simp [this]
theorem within_sub {a b : List Nat} (xa : ∀ x ∈ a, x < 256) (xb : ∀ x ∈ b, x < 256) : withinB a b = decide (countL (joinN (fun x y => x &&& (255 - y)) a b a.length) = 0) := by
  unfold countL
  rw [joinN_length]
  by_cases h : cntTo (joinN (fun x y => x &&& (255 - y)) a b a.length) (8 * a.length) = 0
  · rw [within_yes, h]; rfl
    intro i hi h1
    have := (cnt_zero _ _).1 h i hi
    rw [bitB_join bitwise_sub xa xb hi, h1] at this
    simpa using this
  · have h' := fun hh => h ((cnt_zero _ _).2 hh)
    have h2 : ∃ i, i < 8 * a.length ∧ bitB (joinN (fun x y => x &&& (255 - y)) a b a.length) i = true := by
      refine Classical.byContradiction fun hn => h' fun i hi => ?_
      cases hb : bitB (joinN (fun x y => x &&& (255 - y)) a b a.length) i
      · rfl
      · exact absurd ⟨i, hi, hb⟩ hn
    obtain ⟨i, hi, h3⟩ := h2
    rw [bitB_join bitwise_sub xa xb hi] at h3
    simp only [Bool.and_eq_true, Bool.not_eq_true'] at h3
    rw [within_no hi h3.1 h3.2]
    simp [h]
theorem within_and {a b : List Nat} (xa : ∀ x ∈ a, x < 256) (xb : ∀ x ∈ b, x < 256) (n : Nat) : withinB (joinN (fun x y => x &&& y) a b n) a = true := by
  apply within_yes
  intro i hi h
  rw [joinN_length] at hi
  rw [bitB_join bitwise_and xa xb hi] at h
  simp only [Bool.and_eq_true] at h
  exact h.1
theorem within_or {a b : List Nat} (xa : ∀ x ∈ a, x < 256) (xb : ∀ x ∈ b, x < 256) : withinB a (joinN (fun x y => x ||| y) a b a.length) = true := by
  apply within_yes
  intro i hi h
  rw [bitB_join bitwise_or xa xb hi, h]
  rfl
theorem countL_le (l : List Nat) : countL l ≤ 8 * l.length := cntTo_le l _

set_option maxRecDepth 100000 in
set_option maxHeartbeats 1000000 in
theorem counts_walk (va vb : Value) (a b : List Nat) (w : World) (ha : Bs w va a) (hb : Bs w vb b) (la : a.length ≤ 140737488351232) (lb : b.length ≤ 140737488351232) :
    Calls Try.prog 7 #[va, vb] w fun e w' => e = .returned (.bool true) ∧ Below w.heap.size w w' := by
  have xa := ha.lt
  have xb := hb.lt
  have hF : ∀ w1 : World, Below w.heap.size w w1 → Calls Try.prog 11 #[.slice (some ⟨w1.heap.size, 0, none⟩) 2 2] (w1.alloc (.cells #[va, vb] 22)) fun e w' => e = .returned (.bool (decide (a.length ≤ 3000) && decide (b.length ≤ 3000))) ∧ w1.alloc (.cells #[va, vb] 22) = w' := by
    intro w1 hb1
    have := few_any _ [a, b] _ (Bss.two 22 (ha.mono hb1) (hb.mono hb1)) (by simp)
    rwa [fewB_two'] at this
  have HF := hide hF
  clear hF
  obtain ⟨aoa, capa, rfl⟩ : ∃ ao cap, va = .slice ao a.length cap := by obtain ⟨ao, cap, e, _⟩ := ha; exact ⟨ao, cap, e⟩
  obtain ⟨aob, capb, rfl⟩ : ∃ ao cap, vb = .slice ao b.length cap := by obtain ⟨ao, cap, e, _⟩ := hb; exact ⟨ao, cap, e⟩
  go_enter Try.func7, Try.ntmps7
  go_wp2_with fail
  refine (begun_any _).mono ?_
  rintro e w1 ⟨rfl, hb1⟩
  have hz1 := hb1.size
  go_wp2_with fail
  refine (HF.out w1 hb1).mono ?_
  rintro e w2 ⟨rfl, rfl⟩
  have hb2 : Below w.heap.size w (w1.alloc (.cells #[.slice aoa a.length capa, .slice aob b.length capb] 22)) := hb1.alloc hz1 _
  have Hb1 := hide hb1
  clear hb1 HF
  by_cases h3 : a.length ≤ 3000 ∧ b.length ≤ 3000
  case neg =>
    have hd : (decide (a.length ≤ 3000) && decide (b.length ≤ 3000)) = false := by
      cases hq : (decide (a.length ≤ 3000) && decide (b.length ≤ 3000)) with
      | false => rfl
      | true => exact absurd (by simpa using hq) h3
    rw [hd]
    clear hd h3
    go_wp2_with fail
    refine (begun_any _).mono ?_
    rintro e w3 ⟨rfl, hb3⟩
    go_wp2_with fail
    go_ret
    exact ⟨rfl, hb2.trans (hb3.mono hb2.size)⟩
  have hd : (decide (a.length ≤ 3000) && decide (b.length ≤ 3000)) = true := by simpa using h3
  rw [hd]
  obtain ⟨h3a, h3b⟩ := h3
  clear hd
  by_cases he : a.length = b.length
  case neg =>
    have hne : ((a.length : Int) != (b.length : Int)) = true := by simp; omega
    clear he
    go_wp2_with fail
    refine (begun_any _).mono ?_
    rintro e w3 ⟨rfl, hb3⟩
    go_wp2_with fail
    go_ret
    exact ⟨rfl, hb2.trans (hb3.mono hb2.size)⟩
  have hne : ((a.length : Int) != (b.length : Int)) = false := by simp; omega
  have hA := ha.mono hb2
  have hB := hb.mono hb2
  have HbS : Hid (Below w.heap.size w (w1.alloc (.cells #[.slice aoa a.length capa, .slice aob b.length capb] 22))) := hb2
  clear hb2 Hb1 ha hb
  have eL : ∀ f, joinL f a b = joinN f a b a.length := by intro f; unfold joinL; rw [if_pos he]
  have eE : joinE a b = 0 := by unfold joinE; rw [if_pos he]
  have HP := hide (fun w hA hB => and_any (.slice aoa a.length capa) (.slice aob b.length capb) a b w hA hB (by omega) (by omega))
  have HQ := hide (fun w hA hB => or_any (.slice aoa a.length capa) (.slice aob b.length capb) a b w hA hB (by omega) (by omega))
  have HS := hide (fun w hA hB => sub_any (.slice aoa a.length capa) (.slice aob b.length capb) a b w hA hB (by omega) (by omega))
  rw [eL, eE] at HP HQ HS
  clear eL eE
  have xp := joinN_lt bitwise_and xa xb a.length
  have xq := joinN_lt bitwise_or xa xb a.length
  have xs := joinN_lt bitwise_sub xa xb a.length
  have lp : (joinN (fun x y => x &&& y) a b a.length).length = a.length := joinN_length _ _ _ _
  have lq : (joinN (fun x y => x ||| y) a b a.length).length = a.length := joinN_length _ _ _ _
  have ls : (joinN (fun x y => x &&& (255 - y)) a b a.length).length = a.length := joinN_length _ _ _ _
  have c1 : countL (joinN (fun x y => x &&& y) a b a.length) + countL (joinN (fun x y => x ||| y) a b a.length) = countL a + countL b := by
    unfold countL
    rw [lp, lq, ← he]
    exact cnt_and_or xa xb a.length _ (Nat.le_refl _)
  have c2 : countL (joinN (fun x y => x &&& y) a b a.length) + countL (joinN (fun x y => x &&& (255 - y)) a b a.length) = countL a := by
    unfold countL
    rw [lp, ls]
    exact cnt_and_sub xa xb a.length _ (Nat.le_refl _)
  have c3 := within_sub xa xb
  have c4 := within_and xa xb a.length
  have c5 := within_or xa xb
  generalize joinN (fun x y => x &&& y) a b a.length = p at *
  generalize joinN (fun x y => x ||| y) a b a.length = q at *
  generalize joinN (fun x y => x &&& (255 - y)) a b a.length = s at *
  have kp := countL_le p
  have kq := countL_le q
  have ks := countL_le s
  have ka := countL_le a
  have kb := countL_le b
  rw [lp] at kp
  rw [lq] at kq
  rw [ls] at ks
  have hlp : p.length ≤ 140737488355328 := by omega
  have hlq : q.length ≤ 140737488355328 := by omega
  have hls : s.length ≤ 140737488355328 := by omega
  have C1 := hide c1
  have C2 := hide c2
  have C3 := hide c3
  have C4 := hide c4
  have C5 := hide c5
  clear he lp lq ls c1 c2 c3 c4 c5
  go_wp2_with fail
  refine (HP.out _ hA hB).mono ?_
  rintro e wp ⟨vp, rfl, hop, hbp⟩
  have hp := Bs.of_owns hop xp
  have hA1 := hA.mono hbp
  have hB1 := hB.mono hbp
  have HbP : Hid (Below w.heap.size w wp) := HbS.out.trans (hbp.mono HbS.out.size)
  clear hop hbp hA hB HbS HP
  go_wp2_with fail
  refine (HQ.out _ hA1 hB1).mono ?_
  rintro e wq ⟨vq, rfl, hoq, hbq⟩
  have hq := Bs.of_owns hoq xq
  have hA2 := hA1.mono hbq
  have hB2 := hB1.mono hbq
  have hp2 := hp.mono hbq
  have HbQ : Hid (Below w.heap.size w wq) := HbP.out.trans (hbq.mono HbP.out.size)
  clear hoq hbq hA1 hB1 HbP hp HQ
  go_wp2_with fail
  refine (HS.out _ hA2 hB2).mono ?_
  rintro e wf ⟨vs, rfl, hos, hbs⟩
  have hs := Bs.of_owns hos xs
  have hA3 := hA2.mono hbs
  have hB3 := hB2.mono hbs
  have hp3 := hp2.mono hbs
  have hq3 := hq.mono hbs
  have HbF : Hid (Below w.heap.size w wf) := HbQ.out.trans (hbs.mono HbQ.out.size)
  clear hos hbs hA2 hB2 HbQ hp2 hq HS
  have Tp := count_any _ p _ hp3 hlp
  have Tq := count_any _ q _ hq3 hlq
  have Ts := count_any _ s _ hs hls
  have Ta := count_any _ a _ hA3 (by omega)
  have Tb := count_any _ b _ hB3 (by omega)
  have W1 := within_any _ _ a b _ hA3 hB3 (by omega) (by omega)
  have W2 := within_any _ _ p a _ hp3 hA3 (by omega) (by omega)
  have W3 := within_any _ _ a q _ hA3 hq3 (by omega) (by omega)
  rw [C3.out] at W1
  rw [C4.out] at W2
  rw [C5.out] at W3
  have TP := hide Tp
  have TQ := hide Tq
  have TS := hide Ts
  have TA := hide Ta
  have TB := hide Tb
  have V1 := hide W1
  have V2 := hide W2
  have V3 := hide W3
  clear Tp Tq Ts Ta Tb W1 W2 W3 hp3 hq3 hs hA3 hB3 xp xq xs xa xb C3 C4 C5 hlp hlq hls
  generalize countL p = np at *
  generalize countL q = nq at *
  generalize countL s = ns at *
  generalize countL a = na at *
  generalize countL b = nb at *
  have e1 : ((np : Int) + nq == (na : Int) + nb) = true := by have := C1.out; simp; omega
  have e2 : ((np : Int) + ns == (na : Int)) = true := by have := C2.out; simp; omega
  clear C1 C2
  go_wp2_with fail
  refine TP.out.mono ?_
  rintro e w' ⟨rfl, rfl⟩
  go_wp2_with fail
  refine TQ.out.mono ?_
  rintro e w' ⟨rfl, rfl⟩
  go_wp2_with fail
  refine TA.out.mono ?_
  rintro e w' ⟨rfl, rfl⟩
  go_wp2_with fail
  refine TB.out.mono ?_
  rintro e w' ⟨rfl, rfl⟩
  go_wp2_with fail
  refine TP.out.mono ?_
  rintro e w' ⟨rfl, rfl⟩
  go_wp2_with fail
  refine TS.out.mono ?_
  rintro e w' ⟨rfl, rfl⟩
  go_wp2_with fail
  refine TA.out.mono ?_
  rintro e w' ⟨rfl, rfl⟩
  go_wp2_with fail
  refine V1.out.mono ?_
  rintro e w' ⟨rfl, rfl⟩
  go_wp2_with fail
  refine TS.out.mono ?_
  rintro e w' ⟨rfl, rfl⟩
  have e3 : (decide (ns = 0) == ((ns : Int) == 0)) = true := by
    by_cases h : ns = 0
    · simp [h]
    · have : ¬ (ns : Int) = 0 := by omega
      simp [h, this]
  go_wp2_with fail
  refine V2.out.mono ?_
  rintro e w' ⟨rfl, rfl⟩
  go_wp2_with fail
  refine V3.out.mono ?_
  rintro e w' ⟨rfl, rfl⟩
  go_wp2_with fail
  go_ret
  exact ⟨by simp, HbF.out⟩

theorem bitsCounts_lifted (os : Os) (started : os.Started) (H : Type) (enc : TypeId × Value → H) :
    ReturnsInHanded {} Try.checked os 7 .any (Rows.bitsCountsSpec.pre6 enc Try.prog Try.f7 Rows.bitsCountsRow.domain false) (Rows.bitsCountsSpec.post enc Try.prog Try.f7 false true false false) := by
  refine law_frame (C := Try.checked) rfl Try.own started (by kernel_rfl) Try.func7
    (ChangeSpec.witness6 (enc := enc) (C := Try.checked) false ⟨#[], #[.slice none 0 0, .slice none 0 0], []⟩ 8 (by kernel_rfl) (by kernel_rfl) (by kernel_rfl) (by kernel_rfl))
    Try.laidOut ?_ 4 rfl Try.underlying4 ?_ ?_
  · rw [Try.params7]
    intro t ht
    simp at ht
    rcases ht with rfl <;> exact ⟨by kernel_rfl, of_decide_eq_true (by kernel_rfl)⟩
  · intro ds hn
    rw [Try.params7] at hn
    match ds, hn with
    | [d1, d2], _ => rfl
  · intro W base args ds p hval0 hA hsz
    have hval : ∀ (j : Nat) t v, Try.f7.params[j]? = some t → args[j]? = some v → Value.okWide Try.prog W .any base t v := hval0
    rw [Try.params7] at hA hsz hval
    obtain ⟨v0, vs0, d0, ds0, p0, q0, hargs, rfl, rfl, h0, r0⟩ := trodAll_cons hA
    obtain ⟨v1, vs1, d1, ds1, p1, q1, rfl, rfl, rfl, h1, r1⟩ := trodAll_cons r0
    obtain ⟨rfl, rfl, rfl⟩ := trodAll_nil r1
    obtain rfl : args = #[v0, v1] := by cases args; simp_all
    obtain ⟨l0, hbs0, hl0⟩ := Bs.came Try.underlying22 Try.underlying5 (by kernel_rfl) (hval 0 22 v0 rfl rfl) h0
    have hlen0 := came_len hsz (j := 0) (t := 22) rfl rfl Try.underlying22 (by kernel_rfl) hl0
    obtain ⟨l1, hbs1, hl1⟩ := Bs.came Try.underlying22 Try.underlying5 (by kernel_rfl) (hval 1 22 v1 rfl rfl) h1
    have hlen1 := came_len hsz (j := 1) (t := 22) rfl rfl Try.underlying22 (by kernel_rfl) hl1
    exact counts_walk v0 v1 l0 l1 W hbs0 hbs1 hlen0 hlen1

theorem bitsCounts_holds : Rows.BitsCountsSaid :=
  OpenClaim.holds_of_wide 7 Try.f7 rfl rfl rfl rfl rfl rfl rfl ⟨rfl, rfl, rfl, rfl, rfl⟩ rfl rfl rfl rfl rfl (by kernel_rfl) Try.func7 (by kernel_rfl)
    (of_decide_eq_true (by kernel_rfl)) (by unfold Func.isWrapper; first | (rw [if_pos (by decide +kernel)]; kernel_rfl) | (rw [if_neg (by decide +kernel)]; exact ⟨rfl, rfl⟩))
    (fun os started H enc _ => bitsCounts_lifted os started H enc)
#print axioms bitsCounts_holds
end Go.Proofs.Ytkdajahcadjpfaa
