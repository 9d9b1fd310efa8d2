/- Proved: the statement of DiskSectors, for every script and every picks: behind a crash each sector of the medium is what it was there, or what some pending write of its block, that has a pick, had there. No condition. -/
import Derived.Test.YtjcobealnjkkcaaStays
set_option linter.unusedSimpArgs false
set_option linter.unusedVariables false
namespace Go.Proofs.Ytjcobealnjkkcaa
open Go.RowKit Go.Attic Go.ChangeShapes Go.WideShapes

/-- A sector of some bytes. -/
def secL (b : List Nat) (k : Nat) : List Nat := (b.drop (k * 64)).take 64
theorem secL_getD (b : List Nat) (k j : Nat) (hj : j < 64) : (secL b k).getD j 0 = b.getD (k * 64 + j) 0 := by
  simp [secL, List.getD_eq_getElem?_getD, List.getElem?_take, hj, List.getElem?_drop]
theorem secL_length (b : List Nat) (k : Nat) (h : (k + 1) * 64 ≤ b.length) : (secL b k).length = 64 := by simp [secL]; omega

theorem sec_reach (med : List Nat) (b : Nat) (bytes : List Nat) (pick k n : Nat) (hk : k < 4 * n) (hl : med.length = 256 * n) (hb : bytes.length = 256) :
    secL (reachL med b bytes pick) k = if b = k / 4 ∧ pick.testBit (k % 4) = true then secL bytes (k % 4) else secL med k := by
  have h1 : (secL (reachL med b bytes pick) k).length = 64 := secL_length _ _ (by rw [reachL_length, hl]; omega)
  refine ext_getD ?_ fun j hj => ?_
  · rw [h1]
    split
    · exact (secL_length _ _ (by omega)).symm
    · exact (secL_length _ _ (by omega)).symm
  · rw [h1] at hj
    rw [secL_getD _ _ _ hj]
    unfold reachL
    rw [reachK_getD _ _ _ _ _ _ (by omega)]
    have e1 : (k * 64 + j) / 256 = k / 4 := by omega
    have e2 : (k * 64 + j) % 256 = k % 4 * 64 + j := by omega
    have e3 : (k % 4 * 64 + j) / 64 = k % 4 := by omega
    rw [e1, e2, e3]
    by_cases h : b = k / 4 ∧ pick.testBit (k % 4) = true
    · rw [if_pos h, if_pos ⟨h.1.symm, by omega, h.2⟩, secL_getD _ _ _ hj]
    · rw [if_neg h, if_neg (by rintro ⟨a1, _, a3⟩; exact h ⟨a1.symm, a3⟩), secL_getD _ _ _ hj]

theorem sec_settle (ps : List (Nat × List Nat)) (ks : List Nat) (med : List Nat) (k n : Nat) (hk : k < 4 * n) (hl : med.length = 256 * n) (hp : ∀ x ∈ ps, x.2.length = 256) :
    secL (settleL med ps ks) k = secL med k ∨ ∃ i, ∃ hi : i < ps.length, i < ks.length ∧ (ps[i]).1 = k / 4 ∧ secL (settleL med ps ks) k = secL (ps[i]).2 (k % 4) := by
  induction ps generalizing med ks with
  | nil => exact .inl (by rw [settleL_none])
  | cons x ps ih =>
    cases ks with
    | nil => exact .inl (by rw [settleL_nil])
    | cons p ks =>
      simp only [settleL]
      rcases ih ks (reachL med x.1 x.2 p) (by rw [reachL_length, hl]) (fun y hy => hp y (by simp [hy])) with h | ⟨i, hi, h1, h2, h3⟩
      · rw [sec_reach _ _ _ _ _ n hk hl (hp x (by simp))] at h
        by_cases hc : x.1 = k / 4 ∧ p.testBit (k % 4) = true
        · rw [if_pos hc] at h
          exact .inr ⟨0, by simp, by simp, hc.1, h⟩
        · rw [if_neg hc] at h
          exact .inl h
      · exact .inr ⟨i + 1, by simpa using hi, by simpa using h1, by simpa using h2, by simpa using h3⟩

/-- Whether a write explains a sector. -/
def condB (now : List Nat) (np k : Nat) (x : PX) (j : Nat) : Bool := decide (x.1 = k / 4) && (decide (j < np) && decide (secL now k = secL x.2.1 (k % 4)))
/-- Whether the old medium or one of the first i writes explains it. -/
def okN (was now : List Nat) (np k : Nat) (xs : List PX) (i : Nat) : Bool := decide (secL now k = secL was k) || (List.range i).any fun j => condB now np k (xs.getD j (0, [], .slice none 0 0)) j

theorem okN_zero (was now : List Nat) (np k : Nat) (xs : List PX) : okN was now np k xs 0 = decide (secL now k = secL was k) := by simp [okN]
theorem okN_succ (was now : List Nat) (np k : Nat) (xs : List PX) (i : Nat) (hi : i < xs.length) : okN was now np k xs (i + 1) = (okN was now np k xs i || condB now np k xs[i] i) := by
  simp [okN, List.range_succ, List.any_append, Bool.or_assoc, List.getD_eq_getElem?_getD, hi]

theorem okN_end {s : St} {n : Nat} (hok : s.Ok n) (picks : List Nat) (xs : List PX) (hxs : xs.map pOf = s.pend) (k : Nat) (hk : k < 4 * n) : okN s.med (crashed s picks).med picks.length k xs xs.length = true := by
  have hl : xs.length = s.pend.length := by rw [← hxs]; simp
  rcases sec_settle s.pend picks s.med k n hk hok.len (fun x hx => (hok.pend x hx).2.1) with h | ⟨i, hi, h1, h2, h3⟩
  · simp only [okN, Bool.or_eq_true, decide_eq_true_eq]
    exact .inl h
  · simp only [okN, Bool.or_eq_true, decide_eq_true_eq, List.any_eq_true, List.mem_range]
    refine .inr ⟨i, by omega, ?_⟩
    have hi' : i < xs.length := by omega
    have e : pOf xs[i] = s.pend[i] := by
      have : (xs.map pOf)[i]'(by simpa using hi') = s.pend[i] := by simp only [hxs]
      simpa using this
    have e1 : (xs[i]).1 = (s.pend[i]).1 := congrArg Prod.fst e
    have e2 : (xs[i]).2.1 = (s.pend[i]).2 := congrArg Prod.snd e
    simp only [condB, List.getD_eq_getElem?_getD, List.getElem?_eq_getElem hi', Option.getD_some, Bool.and_eq_true, decide_eq_true_eq]
    exact ⟨by rw [e1]; exact h2, h1, by rw [e2]; exact h3⟩

set_option maxRecDepth 100000 in
set_option maxHeartbeats 400000 in
theorem sec_any (v : Value) (l : List Nat) (k : Nat) (w : World) (h : Bs w v l) (hk : (k + 1) * 64 ≤ l.length) (hl : l.length ≤ 1000000) :
    Calls Try.prog 28 #[v, .int .i64 (k : Int)] w fun e w' => ∃ v', e = .returned v' ∧ Bs w v' (secL l k) ∧ w = w' := by
  have hcap : ∃ ao cap, v = .slice ao l.length cap ∧ l.length ≤ cap := by obtain ⟨ao, cap, e, h1, _⟩ := h; exact ⟨ao, cap, e, h1⟩
  obtain ⟨ao, cap, rfl, hc⟩ := hcap
  have q := (h.drop (lo := k * 64) (by omega)).take (h := 64) (by simp; omega)
  have e1 : (k : Int) * 64 ≤ ((k : Int) + 1) * 64 := by omega
  have e2 : ((k : Int) + 1) * 64 ≤ (cap : Int) := by omega
  have Q := hide q
  clear q
  go_enter Try.func28, Try.ntmps28
  go_wp2
  go_ret
  refine ⟨_, rfl, ?_, rfl⟩
  have q := Q.out
  rw [if_neg (by omega)] at q
  rw [show (k + 1) * 64 - k * 64 = 64 by omega]
  exact q

set_option maxRecDepth 100000 in
set_option maxHeartbeats 400000 in
theorem sec_val (b off n cap k : Nat) (z : Int) (w : World) (hz : z = (k : Int)) (hk : (k + 1) * 64 ≤ n) (hc : n ≤ cap) (hn : n ≤ 1000000) :
    Calls Try.prog 28 #[.slice (some ⟨b, off, none⟩) n cap, .int .i64 z] w fun e w' => e = .returned (.slice (some ⟨b, off + k * 64, none⟩) 64 (cap - k * 64)) ∧ w' = w := by
  subst hz
  have e1 : (k : Int) * 64 ≤ ((k : Int) + 1) * 64 := by omega
  have e2 : ((k : Int) + 1) * 64 ≤ (cap : Int) := by omega
  have e3 : (k + 1) * 64 - k * 64 = 64 := by omega
  go_enter Try.func28, Try.ntmps28
  go_wp2
  go_ret
  exact ⟨by simp [e3], rfl⟩

theorem bs_sec {w : World} {b off n cap k : Nat} {l : List Nat} (h : Bs w (.slice (some ⟨b, off, none⟩) n cap) l) (hk : (k + 1) * 64 ≤ l.length) : Bs w (.slice (some ⟨b, off + k * 64, none⟩) 64 (cap - k * 64)) (secL l k) := by
  have hc := h.cap
  have q := (h.drop (lo := k * 64) (by omega)).take (h := 64) (by simp; omega)
  rw [if_neg (by omega), Option.map_some, Addr.add_lit] at q
  exact q

theorem cellsP_at (xs : List PX) (i : Nat) (hi : i < xs.length) : (cellsP xs)[i * 2]? = some (Value.int .i64 ((xs[i]).1 : Int)) ∧ (cellsP xs)[i * 2 + 1]? = some (xs[i]).2.2 := by
  induction xs generalizing i with
  | nil => simp at hi
  | cons x xs ih =>
    cases i with
    | zero => simp [cellsP]
    | succ i =>
      have := ih i (by simpa using hi)
      simp only [cellsP, List.flatMap_cons, List.cons_append, List.nil_append, List.getElem_cons_succ] at this ⊢
      rw [show (i + 1) * 2 = i * 2 + 1 + 1 by omega]
      simpa using this

set_option maxRecDepth 100000 in
set_option maxHeartbeats 4000000 in
theorem sectors_walk (v vp : Value) (l : List OpX) (picks : List Nat) (w : World) (h : Ops w v l) (hlen : l.length ≤ 140737488355328) (hp : Bs w vp picks) (hpl : picks.length ≤ 140737488355328) :
    Calls Try.prog 5 #[v, vp] w fun e w' => e = .returned (.bool true) ∧ Below w.heap.size w w' := by
  have hcalm : Calm (playS l) 120 := by
    have := playK_calm l (min l.length 120) (by omega)
    rw [playK_end l _ rfl] at this
    exact ⟨this.on, this.left, by have := this.pend; omega, by have := this.ops; omega⟩
  have hpp : (playS l).pend.length ≤ 120 := hcalm.pend
  have hc0 : crashS (playS l) picks = (crashed (playS l) picks, 0) := by simp [crashS, hcalm.on]
  have hpa := played_any v l w h hlen
  obtain ⟨s, hs⟩ : ∃ s, playS l = s := ⟨_, rfl⟩
  rw [hs] at hcalm hpp hc0 hpa
  clear hs
  go_enter Try.func5, Try.ntmps5
  go_wp2_with fail
  refine hpa.mono ?_
  rintro e w1 ⟨g, m, rfl, p, F, hD, hb1, hO⟩
  have z1 := hb1.size
  go_wp2_with fail
  refine (live_any w1).mono ?_
  rintro e w4 ⟨rfl, hb4⟩
  have z4 := hb4.size
  have hL := hD.ownLt
  have hD4 := hD.mono hb4
  have hml : s.med.length = 1024 := by have := hD.ok.len; omega
  have hok := hD.ok
  go_wp2_with fail
  refine (image_yes hD4).mono ?_
  rintro e w5 ⟨v5, rfl, ho5, hb5⟩
  have z5 := hb5.size
  rw [hml] at ho5
  obtain ⟨ao5, cap5, rfl⟩ := owns_slice ho5
  go_wp2_with fail
  refine (pendL_yes (hD4.mono hb5) 1048576 (by omega) (by omega)).mono ?_
  rintro e w6 ⟨v6, xs, rfl, hxs, ho6, hn6, hb6⟩
  have z6 := hb6.size
  rw [List.take_of_length_le (by omega)] at hxs
  have hxl : xs.length ≤ 120 := by
    have := congrArg List.length hxs
    simp at this
    omega
  obtain ⟨ao6, cap6, rfl⟩ := owns_slice ho6
  have hb6a : Below w.heap.size w w6 := ((hb1.trans (hb4.mono (by omega))).trans (hb5.mono (by omega))).trans (hb6.mono (by omega))
  have hD6 := (hD4.mono hb5).mono hb6
  have hlt5 := ho5.lt
  have hlt6 := ho6.lt
  have ho56 := (Keeps.of_below (S := fun _ => False) hb6).owns ho5 (fun _ _ => id)
  have Hml := hide hml
  have Hok := hide hok
  have Hxs := hide hxs
  clear hml hok hxs
  go_wp2_with fail
  refine (crash_yes hD6 vp picks (hp.mono hb6a) (fun hpe b hb e => by
    have h1 := hO m (.inr (.inl rfl))
    have := bs_lt2 hp hpe b hb; omega) (by omega) hpl).mono ?_
  rintro e w7 ⟨rfl, hT7⟩
  rw [hc0] at hT7 ⊢
  dsimp only at hT7 ⊢
  obtain ⟨p7, F7, hD7, k7, hf7⟩ := hT7
  have z7 := k7.size
  have hb7 : Below w.heap.size w w7 := hb6a.trans (k7.below hO (by omega))
  have ho57 := k7.owns ho56 (fun b hb e => by have := hL _ e; have := (hlt5 b hb).1; omega)
  have ho67 := k7.owns ho6 (fun b hb e => by have := hL _ e; have := (hlt6 b hb).1; omega)
  have hn7 : ∀ x ∈ xs, Bs w7 x.2.2 x.2.1 := fun x hx => Bs.of_owns (k7.owns (hn6 x hx).1 (fun b hb e => by have := hL _ e; have := ((hn6 x hx).1.lt b hb).1; omega)) (hn6 x hx).2
  have hml7 : (crashed s picks).med.length = 1024 := by rw [← Hml.out]; exact settleL_length _ _ _
  obtain ⟨now, hnow⟩ : ∃ now, (crashed s picks).med = now := ⟨_, rfl⟩
  have Hnow := hide hnow
  have Hn7 := hide hn7
  rw [hnow] at hml7
  have Hlt7 := hide hD7.ok.lt
  have him := image_yes hD7
  rw [hnow] at him Hlt7
  have Him := hide him
  clear hnow hn7 hn6 ho6 ho5 ho56 hD6 hD4 hD k7 hf7 him hD7
  go_wp2_with fail
  refine (Him.out).mono ?_
  rintro e w8 ⟨v8, rfl, ho8, hb8⟩
  have z8 := hb8.size
  rw [hml7] at ho8
  obtain ⟨ao8, cap8, rfl⟩ := owns_slice ho8
  have q8 := Keeps.of_below (S := fun _ => False) hb8
  have hwas := Bs.of_owns (q8.owns ho57 (fun _ _ => id)) Hok.out.lt
  have hnowb := Bs.of_owns ho8 Hlt7.out
  have hrow := q8.owns ho67 (fun _ _ => id)
  have hnx : ∀ x ∈ xs, Bs w8 x.2.2 x.2.1 := fun x hx => (Hn7.out x hx).mono hb8
  have hb8a : Below w.heap.size w w8 := hb7.trans (hb8.mono (by omega))
  have Hrow := hide hrow
  have Hnx := hide hnx
  have Hml7 := hide hml7
  have H8 := hide ho8
  clear hrow hnx ho57 ho67 ho8 hml7 Hn7 hb7
  go_wp2_with fail
  go_loopw [41] (fun i wr => ∃ k : Nat, k ≤ 16 ∧ i = .int .i64 k ∧ Below w8.heap.size w8 wr) (fun i _ => 16 - (intOf i).toNat)
  case atStart => exact ⟨0, by omega, rfl, Below.refl _ _⟩
  case round =>
    obtain ⟨k, hk, rfl, hbr⟩ := hrel
    by_cases hk16 : k < 16
    · have hwr := hwas.mono hbr
      have hnr := hnowb.mono hbr
      go_wp2_with fail
      refine (sec_any _ now k _ hnr (by rw [Hml7.out]; omega) (by rw [Hml7.out]; omega)).mono ?_
      rintro e w' ⟨va, rfl, hsa, rfl⟩
      go_wp2_with fail
      refine (sec_any _ s.med k _ hwr (by rw [Hml.out]; omega) (by rw [Hml.out]; omega)).mono ?_
      rintro e w' ⟨vc, rfl, hsc, rfl⟩
      go_wp2_with fail
      refine (equal_any _ _ _ _ _ hsa hsc).mono ?_
      rintro e w' ⟨rfl, rfl⟩
      rw [← okN_zero s.med now picks.length k xs]
      clear hsa hsc hwr hnr
      have hend : okN s.med now picks.length k xs xs.length = true := by rw [← Hnow.out]; exact okN_end Hok.out picks xs Hxs.out k (by omega)
      have Hend := hide hend
      clear hend
      go_wp2_with fail
      go_loopw [10, 53] (fun t i wr => ∃ j : Nat, j ≤ xs.length ∧ i = .int .i64 j ∧ t = .bool (okN s.med now picks.length k xs j) ∧ Below w8.heap.size w8 wr) (fun _ i _ => xs.length - (intOf i).toNat)
      case atStart => exact ⟨0, by omega, rfl, rfl, hbr⟩
      case round =>
        obtain ⟨j, hj, rfl, rfl, hbq⟩ := hrel
        by_cases hjx : j < xs.length
        · have hsu := okN_succ s.med now picks.length k xs j hjx
          obtain ⟨d1, d2⟩ := cellsP_at xs j hjx
          obtain ⟨ao', cap', e2, _, hg⟩ := owns_form Hrow.out
          obtain ⟨xb, rfl, _⟩ := hg (by omega)
          injection e2 with e2 _ e3
          subst e2 e3
          have q9 := Keeps.of_below (S := fun _ => False) hbq
          have x1 := q9.cell (Hrow.out.cells (g := xb) rfl _ _ d1) id
          have x2 := q9.cell (Hrow.out.cells (g := xb) rfl _ _ d2) id
          rw [Addr.add_lit, Nat.zero_add] at x1 x2
          have hbx := (Hnx.out _ (List.getElem_mem hjx)).mono hbq
          have hx256 : (xs[j]).2.1.length = 256 := by
            have hj' : j < s.pend.length := by rw [← Hxs.out]; simpa using hjx
            have e : pOf xs[j] = s.pend[j] := by
              have : (xs.map pOf)[j]'(by simpa using hjx) = s.pend[j] := by simp only [Hxs.out]
              simpa using this
            have := (Hok.out.pend _ (List.getElem_mem hj')).2.1
            rw [← e] at this
            exact this
          generalize xs[j] = xj at *
          obtain ⟨bi, bl, bv⟩ := xj
          dsimp only at *
          have hcap : ∃ a c, bv = .slice a bl.length c := by obtain ⟨a, c, e, _⟩ := hbx; exact ⟨a, c, e⟩
          obtain ⟨ba, bc, rfl⟩ := hcap
          rw [hx256] at hbx x2
          have Hx256 := hide hx256
          have Hsu := hide hsu
          have z9 := hbq.size
          clear hx256 hsu d1 d2 hg
          obtain ⟨wb, hwb⟩ : ∃ wb, wr.alloc (.cells #[.int .i64 (bi : Int), .slice ba 256 bc] 55) = wb := ⟨_, rfl⟩
          have kb0 : Below wr.heap.size wr wb := by rw [← hwb]; exact (Below.refl _ _).alloc (Nat.le_refl _) _
          have S0 : wb.cell? ⟨wr.heap.size, 0, none⟩ = some (.int .i64 (bi : Int)) ∧ wb.cell? ⟨wr.heap.size, 1, none⟩ = some (.slice ba 256 bc) := by rw [← hwb]; simp
          have hbwb' : Below w8.heap.size w8 wb := hbq.trans (kb0.mono z9)
          have hbwb : Below w8.heap.size w8 wb := hbwb'
          have hbxb := hbx.mono kb0
          have hnrb := hnowb.mono hbwb
          have hvpl : ∃ a c, vp = .slice a picks.length c := by obtain ⟨a, c, e, _⟩ := hp; exact ⟨a, c, e⟩
          obtain ⟨pa, pc, rfl⟩ := hvpl
          cases hok0 : okN s.med now picks.length k xs j with
          | true =>
            rw [hok0] at Hsu
            go_wp2_with fail
            have cb0 := S0.1
            have cb1 := S0.2
            go_quiet (fail)
            go_wp2_with fail
            go_roundw
            case rel => exact ⟨j + 1, by omega, by go_num, by rw [Hsu.out]; rfl, below_drewN hbwb' _⟩
            case measure => simp [intOf]; omega
          | false =>
            rw [hok0] at Hsu
            have cb0 := S0.1
            have cb1 := S0.2
            by_cases hbi : bi = k / 4
            · by_cases hjp : j < picks.length
              · have h8 : ∃ g8, ao8 = some ⟨g8, 0, none⟩ := by
                  obtain ⟨a, c, e, _, hg⟩ := owns_form H8.out
                  obtain ⟨g8, rfl, _⟩ := hg (by omega)
                  injection e with e _ _
                  exact ⟨g8, e⟩
                obtain ⟨g8, rfl⟩ := h8
                have hbb : ∃ bb bo, ba = some ⟨bb, bo, none⟩ := by
                  obtain ⟨a, c, e, _, _, _, hcc⟩ := hbxb
                  obtain ⟨bb, bo, rfl, _⟩ := hcc (by rw [Hx256.out]; omega)
                  injection e with e _ _
                  exact ⟨bb, bo, e⟩
                obtain ⟨bb, bo, rfl⟩ := hbb
                have hb64 : (k % 4 + 1) * 64 ≤ bl.length := by rw [Hx256.out]; omega
                have hn64 : (k + 1) * 64 ≤ now.length := by rw [Hml7.out]; omega
                have hq : ∀ n, Calls Try.prog 23 #[.slice (some ⟨g8, 0 + k * 64, none⟩) 64 (cap8 - k * 64), .slice (some ⟨bb, bo + k % 4 * 64, none⟩) 64 (bc - k % 4 * 64)] (wb.drewN n) fun e w' => e = .returned (.bool (decide (secL now k = secL bl (k % 4)))) ∧ w' = wb.drewN n := fun n =>
                  (equal_any _ _ _ _ _ (bs_sec (hnrb.mono (below_drewN (Below.refl _ _) n)) hn64) (bs_sec (hbxb.mono (below_drewN (Below.refl _ _) n)) hb64)).mono (fun e w' ⟨h1, h2⟩ => ⟨h1, h2.symm⟩)
                have hc8 := hnrb.cap
                have hcb := hbxb.cap
                rw [Hml7.out] at hc8
                rw [Hx256.out] at hcb
                have heq : ((bi : Int) == (k : Int) / 4) = true := by simp; omega
                have hcond : condB now picks.length k (bi, bl, .slice (some ⟨bb, bo, none⟩) bl.length bc) j = decide (secL now k = secL bl (k % 4)) := by simp [condB, hbi, hjp]
                rw [hcond, Bool.false_or] at Hsu
                have hji : (j : Int) < (picks.length : Int) := by omega
                obtain ⟨dq, hdq⟩ : ∃ dq, decide (secL now k = secL bl (k % 4)) = dq := ⟨_, rfl⟩
                rw [hdq] at hq Hsu
                rw [Nat.zero_add] at hq
                clear hcond hdq hbi
                go_wp2_with fail
                go_quiet (first
                  | (go_at_call 28; refine Calls.quiet_of_same (by simpa using sec_val g8 0 1024 cap8 k _ _ rfl (by omega) hc8 (by omega)))
                  | (go_at_call 28; refine Calls.quiet_of_same (sec_val bb bo 256 bc (k % 4) _ _ (by omega) (by omega) hcb (by omega)))
                  | (go_at_call 23; refine Calls.quiet_of_same (hq _)))
                go_wp2_with fail
                go_roundw
                case rel => exact ⟨j + 1, by omega, by go_num, by rw [Hsu.out], below_drewN hbwb' _⟩
                case measure => simp [intOf]; omega
              · have heq : ((bi : Int) == (k : Int) / 4) = true := by simp; omega
                have hji : (picks.length : Int) ≤ (j : Int) := by omega
                have hjd : decide ((j : Int) < (picks.length : Int)) = false := by simp; omega
                have hjd2 : decide (j < picks.length) = false := by simp; omega
                have hjn : picks.length ≤ j := by omega
                have hcond : condB now picks.length k (bi, bl, .slice ba bl.length bc) j = false := by simp [condB, hjp]
                rw [hcond, Bool.false_or] at Hsu
                clear hcond hbi hjp
                go_wp2_with fail
                go_quiet (fail)
                go_wp2_with fail
                go_roundw
                case rel => exact ⟨j + 1, by omega, by go_num, by rw [Hsu.out], below_drewN hbwb' _⟩
                case measure => simp [intOf]; omega
            · have heq : ((bi : Int) == (k : Int) / 4) = false := by simp; omega
              have hcond : condB now picks.length k (bi, bl, .slice ba bl.length bc) j = false := by simp [condB, hbi]
              rw [hcond, Bool.false_or] at Hsu
              clear hcond hbi
              go_wp2_with fail
              go_quiet (fail)
              go_wp2_with fail
              go_roundw
              case rel => exact ⟨j + 1, by omega, by go_num, by rw [Hsu.out], below_drewN hbwb' _⟩
              case measure => simp [intOf]; omega
        · obtain rfl : j = xs.length := by omega
          rw [Hend.out]
          go_wp2_with fail
          go_roundw
          case rel => exact ⟨k + 1, by omega, by go_num, hbq⟩
          case measure => simp [intOf]; omega
    · obtain rfl : k = 16 := by omega
      go_wp2_with fail
      go_ret
      exact ⟨by simp, hb8a.trans (hbr.mono (by have := hb8a.size; omega))⟩

theorem diskSectors_lifted (os : Os) (started : os.Started) (H : Type) (enc : TypeId × Value → H) :
    ReturnsInHanded {} Try.checked os 5 .any (Rows.diskSectorsSpec.pre6 enc Try.prog Try.f5 Rows.diskSectorsRow.domain false) (Rows.diskSectorsSpec.post enc Try.prog Try.f5 false true false false) := by
  refine law_frame (C := Try.checked) rfl Try.own started (by kernel_rfl) Try.func5
    (ChangeSpec.witness6 (enc := enc) (C := Try.checked) false ⟨#[], #[.slice none 0 0, .slice none 0 0], []⟩ 8 (by kernel_rfl) (by kernel_rfl) (by kernel_rfl) (by kernel_rfl))
    Try.laidOut ?_ 4 rfl Try.underlying4 ?_ ?_
  · rw [Try.params5]
    intro t ht
    simp at ht
    rcases ht with rfl | rfl <;> exact ⟨by kernel_rfl, of_decide_eq_true (by kernel_rfl)⟩
  · intro ds hn
    rw [Try.params5] at hn
    match ds, hn with
    | [d1, d2], _ => rfl
  · intro W base args ds p hval0 hA hsz
    have hval : ∀ (j : Nat) t v, Try.f5.params[j]? = some t → args[j]? = some v → Value.okWide Try.prog W .any base t v := hval0
    rw [Try.params5] at hA hsz hval
    obtain ⟨v0, vs0, d0, ds0, p0, q0, hargs, rfl, rfl, h0, r0⟩ := trodAll_cons hA
    obtain ⟨v1, vs1, d1, ds1, p1, q1, rfl, rfl, rfl, h1, r1⟩ := trodAll_cons r0
    obtain ⟨rfl, rfl, rfl⟩ := trodAll_nil r1
    obtain rfl : args = #[v0, v1] := by cases args; simp_all
    obtain ⟨l0, hop0, hol0⟩ := Ops.came (hval 0 22 v0 rfl rfl) h0 hsz (j := 0) rfl rfl
    obtain ⟨l1, hbs1, hl1⟩ := Bs.came Try.underlying31 Try.underlying5 (by kernel_rfl) (hval 1 31 v1 rfl rfl) h1
    have hlen1 := came_len hsz (j := 1) (t := 31) rfl rfl Try.underlying31 (by kernel_rfl) hl1
    exact sectors_walk _ _ l0 l1 W hop0 hol0 hbs1 (by omega)

theorem diskSectors_holds : Rows.DiskSectorsSaid :=
  OpenClaim.holds_of_wide 5 Try.f5 rfl rfl rfl rfl rfl rfl rfl ⟨rfl, rfl, rfl, rfl, rfl⟩ rfl rfl rfl rfl rfl (by kernel_rfl) Try.func5 (by kernel_rfl)
    (of_decide_eq_true (by kernel_rfl)) (by unfold Func.isWrapper; first | (rw [if_pos (by decide +kernel)]; kernel_rfl) | (rw [if_neg (by decide +kernel)]; exact ⟨rfl, rfl⟩))
    (fun os started H enc _ => diskSectors_lifted os started H enc)
#print axioms diskSectors_holds

end Go.Proofs.Ytjcobealnjkkcaa
