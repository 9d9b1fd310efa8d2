/- The law ReplayBegins: what counts of the first records of a list is a beginning of what counts of all of it, and those that count, alone, count as they do in it, whatever the records and the number. -/
import Derived.Test.YtgdlbfoihpdlhaaK9
import Derived.Test.YtgdlbfoihpdlhaaL2
import Derived.Test.YtgdlbfoihpdlhaaCameL
set_option linter.unusedSimpArgs false
set_option linter.unusedVariables false
namespace Go.Proofs.Ytgdlbfoihpdlhaa
open Go.RowKit Go.Attic Go.ChangeShapes Go.WideShapes

set_option maxRecDepth 100000 in
set_option maxHeartbeats 1000000 in
theorem begins_walk {w : World} {F : Nat → Prop} {v : Value} {rs : List Rc} (c : Nat) (hc : c < 65536) (h : Rs w F v rs) (hlen : rs.length ≤ 140737488355328) (hls : ∀ r ∈ rs, r.l.length ≤ 140737488355328) :
    Calls Try.prog 8 #[v, .int .u16 (c : Int)] w fun e w' => e = .returned (.bool true) ∧ Below w.heap.size w w' := by
  obtain ⟨ao, cap, e, hcap⟩ := h.slice
  subst e
  obtain ⟨L, hL⟩ : ∃ L, rs.length = L := ⟨_, rfl⟩
  have hfew := fun w1 (hb : Below w.heap.size w w1) => few_any (h.mono hb) hlen hls
  rw [hL] at hcap hlen hfew ⊢
  have HL := hide hL
  have H := hide h
  have Hls := hide hls
  have Hfew := hide hfew
  clear h hL hls hfew
  go_enter Try.func8, Try.ntmps8
  go_wp2_with fail
  refine (begun_any _).mono ?_
  rintro e w1 ⟨rfl, hb1⟩
  have hz1 := hb1.size
  go_wp2_with fail
  refine (Hfew.out w1 hb1).mono ?_
  rintro e w2 ⟨q, rfl, hq, hb2⟩
  have hb2 := hb1.trans (hb2.mono hz1)
  have hz2 := hb2.size
  cases q with
  | false =>
    clear hq
    go_wp2_with fail
    refine (begun_any _).mono ?_
    rintro e w3 ⟨rfl, hb3⟩
    go_wp2_with fail
    go_ret
    exact ⟨rfl, hb2.trans (hb3.mono hz2)⟩
  | true =>
    have hL4 := hq rfl
    clear hq
    obtain ⟨k, hk⟩ : ∃ k, c % (L + 1) = k := ⟨_, rfl⟩
    have hkL : k ≤ L := by have := Nat.mod_lt c (show 0 < L + 1 by omega); omega
    have hki : ((c : Int) % ((L : Int) + 1)) = (k : Int) := by rw [← hk]; simp
    have hL1 : ¬ (L : Int) + 1 = 0 := by omega
    have hp1 := commit_le rs
    have hp2 := commit_pre rs k
    have hp3 := commit_again rs
    have hp4 := commit_le (rs.take k)
    have hl1 := commit_len rs
    have hl2 := commit_len (rs.take k)
    have e0 := HL.out
    rw [List.length_take, e0, Nat.min_eq_left hkL] at hp4 hl2
    rw [e0] at hp1 hl1
    obtain ⟨G, hG⟩ : ∃ G, commit rs = G := ⟨_, rfl⟩
    obtain ⟨Ga, hGa⟩ : ∃ Ga, commit (rs.take k) = Ga := ⟨_, rfl⟩
    rw [hG] at hp1 hp2 hp3 hl1
    rw [hGa] at hp2 hp4 hl2
    obtain ⟨x, hx⟩ : ∃ x, Ga.2 = x := ⟨_, rfl⟩
    obtain ⟨y, hy⟩ : ∃ y, G.2 = y := ⟨_, rfl⟩
    obtain ⟨na, hna⟩ : ∃ na, Ga.1.length = na := ⟨_, rfl⟩
    obtain ⟨nb, hnb⟩ : ∃ nb, G.1.length = nb := ⟨_, rfl⟩
    obtain ⟨hp2, hpre⟩ := hp2
    have hnab : na ≤ nb := by rw [← hna, ← hnb]; exact hpre.length_le
    have hta : G.1.take na = Ga.1 := by rw [← hna]; exact (List.prefix_iff_eq_take.1 hpre).symm
    rw [hx] at hp2 hp4
    rw [hy] at hp1 hp2 hp3
    rw [hna] at hl2
    rw [hnb] at hl1
    have c1 := fun w (hr : Rs w F (.slice ao rs.length cap) rs) => comm_any (hr.take k (by omega)) (by simp; omega) (fun r hr => Hls.out r (List.mem_of_mem_take hr))
    have c2 := fun w (hr : Rs w F (.slice ao rs.length cap) rs) => comm_any hr (by omega) Hls.out
    have c3 := fun w (hr : Rs w F (.slice ao rs.length cap) rs) => comm_any (hr.take y (by omega)) (by simp; omega) (fun r hr => Hls.out r (List.mem_of_mem_take hr))
    rw [hGa, hx] at c1
    rw [hG, hy, e0] at c2
    rw [hp3, hy] at c3
    rw [e0] at c1 c3
    have H0 : ∀ w', Below w.heap.size w w' → Rs w' F (.slice ao L cap) rs := fun w' hb => by have := H.out.mono hb; rwa [e0] at this
    have d1 : decide ((k : Int) < (x : Int)) = false := decide_eq_false (by omega)
    have d2 : decide ((L : Int) < (y : Int)) = false := decide_eq_false (by omega)
    have d3 : decide ((y : Int) < (x : Int)) = false := decide_eq_false (by omega)
    have d4 : decide ((nb : Int) < (na : Int)) = false := decide_eq_false (by omega)
    have C1 := hide c1
    have C2 := hide c2
    have C3 := hide c3
    have HG := hide hG
    have HGa := hide hGa
    have Hx := hide hx
    have Hy := hide hy
    have Hna := hide hna
    have Hnb := hide hnb
    have Hta := hide hta
    have Hpre := hide hpre
    have Hp3 := hide hp3
    have HH0 := hide H0
    clear c1 c2 c3 hG hGa hx hy hna hnb hta hpre hp3 H0 e0 HL H
    go_wp2_with fail
    refine (C1.out w2 (HH0.out w2 hb2)).mono ?_
    rintro e w3 ⟨v3, p3, vs3, rfl, hrw3, hb3⟩
    have hB3 := hb2.trans (hb3.mono hz2)
    have hz3 := hB3.size
    obtain ⟨a3, c3, rfl⟩ := owns_slice hrw3.row
    have Hrw3 := hide hrw3
    rw [Hna.out]
    clear hrw3
    go_wp2_with fail
    refine (C2.out w3 (HH0.out w3 hB3)).mono ?_
    rintro e w4 ⟨v4, p4, vs4, rfl, hrw4, hb4⟩
    have hB4 := hB3.trans (hb4.mono hz3)
    have hz4 := hB4.size
    obtain ⟨a4, c4, rfl⟩ := owns_slice hrw4.row
    have hnc : nb ≤ c4 := by
      obtain ⟨_, _, e, h, _⟩ := owns_form hrw4.row
      injection e with _ _ e
      have := Hnb.out
      omega
    have Hrw4 := hide hrw4
    rw [Hnb.out]
    clear hrw4
    have h3 := (Hrw3.out.rs.mono hb4)
    have h4 := (Hrw4.out.rs).take na (by have := Hnb.out; omega)
    rw [Hta.out] at h4
    rw [Hna.out] at h3
    have hsame := sameAll_yes _ _ _ _ _ _ h3 h4 (by have := Hna.out; omega)
    have Hsame := hide hsame
    clear h3 h4 hsame
    go_wp2_with fail
    refine Hsame.out.mono ?_
    rintro e w5 ⟨rfl, hb5⟩
    have hB5 := hB4.trans (hb5.mono hz4)
    have hz5 := hB5.size
    go_wp2_with fail
    refine (C3.out w5 (HH0.out w5 hB5)).mono ?_
    rintro e w6 ⟨v6, p6, vs6, rfl, hrw6, hb6⟩
    have hB6 := hB5.trans (hb6.mono hz5)
    have hz6 := hB6.size
    obtain ⟨a6, c6, rfl⟩ := owns_slice hrw6.row
    have h6 := hrw6.rs
    have h4 := ((Hrw4.out.rs).mono hb5).mono hb6
    rw [Hnb.out] at h4 h6
    rw [Hnb.out]
    have hsame := sameAll_yes _ _ _ _ _ _ h6 h4 (by have := Hnb.out; omega)
    have Hsame2 := hide hsame
    clear h6 h4 hsame hrw6
    go_wp2_with fail
    refine Hsame2.out.mono ?_
    rintro e w7 ⟨rfl, hb7⟩
    go_wp2_with fail
    go_ret
    exact ⟨rfl, hB6.trans (hb7.mono hz6)⟩

theorem replayBegins_lifted (os : Os) (started : os.Started) (H : Type) (enc : TypeId × Value → H) :
    ReturnsInHanded {} Try.checked os 8 .any (Rows.replayBeginsSpec.pre6 enc Try.prog Try.f8 Rows.replayBeginsRow.domain false) (Rows.replayBeginsSpec.post enc Try.prog Try.f8 false true false false) := by
  refine law_frame (C := Try.checked) rfl Try.own started (by kernel_rfl) Try.func8
    (ChangeSpec.witness6 (enc := enc) (C := Try.checked) false ⟨#[], #[.slice none 0 0, .int .u16 0], []⟩ 8 (by kernel_rfl) (by kernel_rfl) (by kernel_rfl) (by kernel_rfl))
    Try.laidOut ?_ 4 rfl Try.underlying4 ?_ ?_
  · rw [Try.params8]
    intro t ht
    simp at ht
    rcases ht with rfl | rfl <;> exact ⟨by kernel_rfl, of_decide_eq_true (by kernel_rfl)⟩
  · intro ds hn
    rw [Try.params8] at hn
    match ds, hn with
    | [d1, d2], _ => rfl
  · intro W base args ds p hval0 hA hsz
    have hval : ∀ (j : Nat) t v, Try.f8.params[j]? = some t → args[j]? = some v → Value.okWide Try.prog W .any base t v := hval0
    rw [Try.params8] at hA hsz hval
    obtain ⟨v0, vs0, d0, ds0, p0, q0, hargs, rfl, rfl, h0, r0⟩ := trodAll_cons hA
    obtain ⟨v1, vs1, d1, ds1, p1, q1, rfl, rfl, rfl, h1, r1⟩ := trodAll_cons r0
    obtain ⟨rfl, rfl, rfl⟩ := trodAll_nil r1
    obtain rfl : args = #[v0, v1] := by cases args; simp_all
    obtain ⟨l0, hrs0, hln0, hls0, hnn0⟩ := rs_came (hval 0 22 v0 rfl rfl) h0 hsz (j := 0) rfl rfl
    obtain ⟨a1, rfl, rfl, rfl, w1⟩ := open_int Try.underlying55 (hval 1 55 v1 rfl rfl) h1
    have hb1 := bounds_u16 w1
    obtain ⟨n1, rfl⟩ := Int.eq_ofNat_of_zero_le hb1.1
    exact begins_walk n1 (by omega) hrs0 hln0 hls0

theorem replayBegins_holds : Rows.ReplayBeginsSaid :=
  OpenClaim.holds_of_wide 8 Try.f8 rfl rfl rfl rfl rfl rfl rfl ⟨rfl, rfl, rfl, rfl, rfl⟩ rfl rfl rfl rfl rfl (by kernel_rfl) Try.func8 (by kernel_rfl)
    (of_decide_eq_true (by kernel_rfl)) (by unfold Func.isWrapper; first | (rw [if_pos (by decide +kernel)]; kernel_rfl) | (rw [if_neg (by decide +kernel)]; exact ⟨rfl, rfl⟩))
    (fun os started H enc _ => replayBegins_lifted os started H enc)
#print axioms replayBegins_holds
end Go.Proofs.Ytgdlbfoihpdlhaa
