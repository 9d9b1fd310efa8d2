/- The law ReplayCommits: which patches of any records count, and how many records, is what the document says, and so are their blocks, as far as one goes through them, whatever the records and the number. -/
import Derived.Test.YtgdlbfoihpdlhaaK9
import Derived.Test.YtgdlbfoihpdlhaaK3
import Derived.Test.YtgdlbfoihpdlhaaL2
import Derived.Test.YtgdlbfoihpdlhaaI5
import Derived.Test.YtgdlbfoihpdlhaaCameL
import Derived.Deep.RegionHeld3
set_option linter.unusedSimpArgs false
set_option linter.unusedVariables false
namespace Go.Proofs.Ytgdlbfoihpdlhaa
open Go.RowKit Go.Attic Go.ChangeShapes Go.WideShapes

set_option maxRecDepth 100000 in
set_option maxHeartbeats 2000000 in
theorem commits_walk {w : World} {F : Nat → Prop} {v : Value} {rs : List Rc} (mo : Nat) (hmo : mo < 256) (h : Rs w F v rs) (hlen : rs.length ≤ 140737488355328) (hls : ∀ r ∈ rs, r.l.length ≤ 140737488355328) :
    Calls Try.prog 3 #[v, .int .u8 (mo : Int)] w fun e w' => e = .returned (.bool true) ∧ Below w.heap.size w w' := by
  obtain ⟨ao, cap, e, hcap⟩ := h.slice
  subst e
  obtain ⟨L, hL⟩ : ∃ L, rs.length = L := ⟨_, rfl⟩
  have hfew := fun w1 (hb : Below w.heap.size w w1) => few_any (h.mono hb) hlen hls
  rw [hL] at hcap hlen hfew ⊢
  have HL := hide hL
  have H := hide h
  have Hls := hide hls
  have Hfew := hide hfew
  clear h hL hls hfew
  go_enter Try.func3, Try.ntmps3
  go_wp2_with fail
  refine (begun_any _).mono ?_
  rintro e w1 ⟨rfl, hb1⟩
  have hz1 := hb1.size
  go_wp2_with fail
  refine (Hfew.out w1 hb1).mono ?_
  rintro e w2 ⟨q, rfl, hq, hb2⟩
  have hb2 := hb1.trans (hb2.mono hz1)
  have hz2 := hb2.size
  cases q with
  | false =>
    clear hq
    go_wp2_with fail
    refine (begun_any _).mono ?_
    rintro e w3 ⟨rfl, hb3⟩
    go_wp2_with fail
    go_ret
    exact ⟨rfl, hb2.trans (hb3.mono hz2)⟩
  | true =>
    have hL4 := hq rfl
    clear hq
    have e0 := HL.out
    obtain ⟨G, hG⟩ : ∃ G, commit rs = G := ⟨_, rfl⟩
    obtain ⟨Z, hZ⟩ : ∃ Z, blocksN rs = Z := ⟨_, rfl⟩
    have hl1 := commit_len rs
    have hzl := blocksN_len rs
    rw [hG] at hl1
    rw [hZ] at hzl
    have c1 := fun w (hr : Rs w F (.slice ao rs.length cap) rs) => comm_any hr (by omega) Hls.out
    have c2 := fun w (hr : Rs w F (.slice ao rs.length cap) rs) => rcomm_any hr (by omega) Hls.out
    have c3 := fun w (hr : Rs w F (.slice ao rs.length cap) rs) => rblocks_any hr (by omega)
    have c4 := fun w (hr : Rs w F (.slice ao rs.length cap) rs) => blocks_any hr (by omega)
    rw [hG, e0] at c1 c2
    rw [hZ, e0] at c3 c4
    have H0 : ∀ w', Below w.heap.size w w' → Rs w' F (.slice ao L cap) rs := fun w' hb => by have := H.out.mono hb; rwa [e0] at this
    have C1 := hide c1
    have C2 := hide c2
    have C3 := hide c3
    have C4 := hide c4
    have HH0 := hide H0
    clear c1 c2 c3 c4 hG hZ H0 e0 H
    go_wp2_with fail
    refine (C1.out w2 (HH0.out w2 hb2)).mono ?_
    rintro e w3 ⟨v3, p3, vs3, rfl, hrw3, hb3⟩
    have hB3 := hb2.trans (hb3.mono hz2)
    have hz3 := hB3.size
    obtain ⟨a3, c3, rfl⟩ := owns_slice hrw3.row
    have Hrw3 := hide hrw3
    clear hrw3
    go_wp2_with fail
    refine (C2.out w3 (HH0.out w3 hB3)).mono ?_
    rintro e w4 ⟨v4, p4, vs4, rfl, hrw4, hb4⟩
    have hB4 := hB3.trans (hb4.mono hz3)
    have hz4 := hB4.size
    obtain ⟨a4, c4, rfl⟩ := owns_slice hrw4.row
    have Hrw4 := hide hrw4
    clear hrw4
    go_wp2_with fail
    refine (C3.out w4 (HH0.out w4 hB4)).mono ?_
    rintro e w5 ⟨v5, rfl, ho5, hb5⟩
    have hB5 := hB4.trans (hb5.mono hz4)
    have hz5 := hB5.size
    obtain ⟨a5, c5, hv5, hc5, -⟩ := owns_form ho5
    subst hv5
    have hI5 := Is.of_owns ho5
    clear ho5
    obtain ⟨Wd, hW⟩ : ∃ Wd, w5.drew = Wd := ⟨_, rfl⟩
    have hbd : Below w5.heap.size w5 Wd := by rw [← hW]; exact (Below.refl _ _).drew
    have hBd := hB5.trans (hbd.mono hz5)
    have hzd := hBd.size
    have hsame := sameAll_yes Wd _ _ _ _ _ (((Hrw3.out.rs.mono hb4).mono hb5).mono hbd) ((Hrw4.out.rs.mono hb5).mono hbd) (by have := HL.out; omega)
    have hId := hI5.mono hbd
    obtain ⟨nz, hnz⟩ : ∃ nz, Z.length = nz := ⟨_, rfl⟩
    have ht1 : Z.take 1048576 = Z := List.take_of_length_le (by have := HL.out; omega)
    obtain ⟨mn, hmn, hmin⟩ : ∃ mn : Nat, (mn ≤ nz ∧ Z.take mo = Z.take mn) ∧ min (nz : Int) (mo : Int) = (mn : Int) := by
      by_cases hm : mo < nz
      · exact ⟨mo, ⟨by omega, rfl⟩, by omega⟩
      · exact ⟨nz, ⟨Nat.le_refl _, by rw [List.take_of_length_le (by omega), List.take_of_length_le (by omega)]⟩, by omega⟩
    obtain ⟨hmn, htk⟩ := hmn
    rw [hnz] at hc5 hI5 hId ⊢
    have k1 : ∀ u1, Below Wd.heap.size Wd u1 → Calls Try.prog 17 #[.slice ao L cap] u1 fun e w' => ∃ f, e = .returned f ∧ ItI w' Z f ∧ Below u1.heap.size u1 w' := fun u1 hb => C4.out u1 (HH0.out u1 (hBd.trans (hb.mono hzd)))
    have k2 : ∀ u1 f, ItI u1 Z f → Calls Try.prog 16 #[f, .int .i64 1048576] u1 fun e w' => ∃ a c, e = .returned (.slice a nz c) ∧ Is w' (.slice a nz c) Z ∧ Below u1.heap.size u1 w' := by
      intro u1 f hf
      refine (told_any Z 1048576 f u1 hf (by have := HL.out; omega) (by omega)).mono ?_
      rintro e w' ⟨v', rfl, ho, hb⟩
      rw [ht1, hnz] at ho
      obtain ⟨a, c, rfl⟩ := owns_slice ho
      exact ⟨a, c, rfl, Is.of_owns ho, hb⟩
    have k3 : ∀ u1 f, ItI u1 Z f → Calls Try.prog 16 #[f, .int .i64 (mo : Int)] u1 fun e w' => ∃ a c, e = .returned (.slice a mn c) ∧ Is w' (.slice a mn c) (Z.take mn) ∧ Below u1.heap.size u1 w' := by
      intro u1 f hf
      refine (told_any Z mo f u1 hf (by have := HL.out; omega) (by omega)).mono ?_
      rintro e w' ⟨v', rfl, ho, hb⟩
      rw [htk, show (Z.take mn).length = mn by simp; omega] at ho
      obtain ⟨a, c, rfl⟩ := owns_slice ho
      exact ⟨a, c, rfl, Is.of_owns ho, hb⟩
    have k4 : ∀ u1 a c, Below Wd.heap.size Wd u1 → Is u1 (.slice a nz c) Z → Calls Try.prog 15 #[.slice a nz c, .slice a5 nz c5] u1 fun e w' => e = .returned (.bool true) ∧ Below u1.heap.size u1 w' :=
      fun u1 a c hb hi => iequal_yes hi (hId.mono hb) (by have := HL.out; omega)
    have k5 : ∀ u1 a c, Below Wd.heap.size Wd u1 → Is u1 (.slice a mn c) (Z.take mn) → Calls Try.prog 15 #[.slice a mn c, .slice a5 mn c5] u1 fun e w' => e = .returned (.bool true) ∧ Below u1.heap.size u1 w' :=
      fun u1 a c hb hi => iequal_yes hi ((hId.mono hb).take mn (by omega)) (by have := HL.out; simp; omega)
    have K1 := hide k1
    have K2 := hide k2
    have K3 := hide k3
    have K4 := hide k4
    have K5 := hide k5
    have Hsame := hide hsame
    have HW := hide hW
    clear k1 k2 k3 k4 k5 hsame ht1 htk hnz hI5 hId hW
    obtain ⟨ga, hga⟩ : ∃ ga, G.1.length = ga := ⟨_, rfl⟩
    rw [hga] at Hsame ⊢
    have hmnI : (mn : Int) ≤ (c5 : Int) := by omega
    have hmn0 : (0 : Int) ≤ (mn : Int) := by omega
    have hmnT : ((mn : Int)).toNat = mn := by omega
    have hwm : IntKind.i64.wrap (mo : Int) = (mo : Int) := wrap_small _ (by omega) (by omega)
    go_wp2_with fail
    have hWW := HW.out
    clear HW
    subst hWW
    go_region_held3 (fun _ => True) (trivial) (first
      | (go_at_call 14; refine Hsame.out.mono ?_; rintro r u1 ⟨rfl, hu1⟩)
      | (go_at_call 17; refine (K1.out u4 hu4).mono ?_; rintro r u5 ⟨f5, rfl, hit5, hv5⟩; have hu5 := hu4.trans (hv5.mono hu4.size))
      | (go_at_call 17; refine (K1.out u1 hu1).mono ?_; rintro r u2 ⟨f2, rfl, hit2, hv2⟩; have hu2 := hu1.trans (hv2.mono hu1.size))
      | (go_at_call 16; refine (K3.out u5 f5 hit5).mono ?_; rintro r u6 ⟨a6, c6, rfl, hi6, hv6⟩; have hu6 := hu5.trans (hv6.mono hu5.size))
      | (go_at_call 16; refine (K2.out u2 f2 hit2).mono ?_; rintro r u3 ⟨b3, d3, rfl, hi3, hv3⟩; have hu3 := hu2.trans (hv3.mono hu2.size))
      | (go_at_call 15; refine (K5.out u6 a6 c6 hu6 hi6).mono ?_; rintro r u7 ⟨rfl, hv7⟩; have hu7 := hu6.trans (hv7.mono hu6.size))
      | (go_at_call 15; refine (K4.out u3 b3 d3 hu3 hi3).mono ?_; rintro r u4 ⟨rfl, hv4⟩; have hu4 := hu3.trans (hv4.mono hu3.size)))
    all_goals
      go_wp2_with fail
      go_ret
      exact ⟨rfl, hBd.trans (hu7.mono hzd)⟩

theorem replayCommits_lifted (os : Os) (started : os.Started) (H : Type) (enc : TypeId × Value → H) :
    ReturnsInHanded {} Try.checked os 3 .any (Rows.replayCommitsSpec.pre6 enc Try.prog Try.f3 Rows.replayCommitsRow.domain false) (Rows.replayCommitsSpec.post enc Try.prog Try.f3 false true false false) := by
  refine law_frame (C := Try.checked) rfl Try.own started (by kernel_rfl) Try.func3
    (ChangeSpec.witness6 (enc := enc) (C := Try.checked) false ⟨#[], #[.slice none 0 0, .int .u8 0], []⟩ 8 (by kernel_rfl) (by kernel_rfl) (by kernel_rfl) (by kernel_rfl))
    Try.laidOut ?_ 4 rfl Try.underlying4 ?_ ?_
  · rw [Try.params3]
    intro t ht
    simp at ht
    rcases ht with rfl | rfl <;> exact ⟨by kernel_rfl, of_decide_eq_true (by kernel_rfl)⟩
  · intro ds hn
    rw [Try.params3] at hn
    match ds, hn with
    | [d1, d2], _ => rfl
  · intro W base args ds p hval0 hA hsz
    have hval : ∀ (j : Nat) t v, Try.f3.params[j]? = some t → args[j]? = some v → Value.okWide Try.prog W .any base t v := hval0
    rw [Try.params3] at hA hsz hval
    obtain ⟨v0, vs0, d0, ds0, p0, q0, hargs, rfl, rfl, h0, r0⟩ := trodAll_cons hA
    obtain ⟨v1, vs1, d1, ds1, p1, q1, rfl, rfl, rfl, h1, r1⟩ := trodAll_cons r0
    obtain ⟨rfl, rfl, rfl⟩ := trodAll_nil r1
    obtain rfl : args = #[v0, v1] := by cases args; simp_all
    obtain ⟨l0, hrs0, hln0, hls0, hnn0⟩ := rs_came (hval 0 22 v0 rfl rfl) h0 hsz (j := 0) rfl rfl
    obtain ⟨a1, rfl, rfl, rfl, w1⟩ := open_int Try.underlying5 (hval 1 5 v1 rfl rfl) h1
    have hb1 := bounds_u8 w1
    obtain ⟨n1, rfl⟩ := Int.eq_ofNat_of_zero_le hb1.1
    exact commits_walk n1 (by omega) hrs0 hln0 hls0

theorem replayCommits_holds : Rows.ReplayCommitsSaid :=
  OpenClaim.holds_of_wide 3 Try.f3 rfl rfl rfl rfl rfl rfl rfl ⟨rfl, rfl, rfl, rfl, rfl⟩ rfl rfl rfl rfl rfl (by kernel_rfl) Try.func3 (by kernel_rfl)
    (of_decide_eq_true (by kernel_rfl)) (by unfold Func.isWrapper; first | (rw [if_pos (by decide +kernel)]; kernel_rfl) | (rw [if_neg (by decide +kernel)]; exact ⟨rfl, rfl⟩))
    (fun os started H enc _ => replayCommits_lifted os started H enc)
#print axioms replayCommits_holds
end Go.Proofs.Ytgdlbfoihpdlhaa
