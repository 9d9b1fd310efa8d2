/- BitsRuns answers true for every row of bytes and every number of bits: a row is the Or of the Spans of its runs, and between two runs there is a bit that is 0. No conditions. -/
import Derived.Test.YtkdajahcadjpfaaC13
import Derived.Test.YtkdajahcadjpfaaFrame
set_option linter.unusedSimpArgs false
set_option linter.unusedVariables false
namespace Go.Proofs.Ytkdajahcadjpfaa
open Go.RowKit Go.Attic Go.ChangeShapes Go.WideShapes

theorem fewB_oneR (l : List Nat) : fewB [l] = decide (l.length ≤ 3000) := by simp [fewB]

/-- What the runs of the first k bits are. -/
def GoodR (l : List Nat) (k : Nat) (rs : List (Nat × Nat)) : Prop :=
  (∀ r ∈ rs, 1 ≤ r.2 ∧ r.1 + r.2 ≤ k) ∧ rs.Pairwise (fun r r' => r.1 + r.2 < r'.1) ∧ ∀ i, i < k → (bitB l i = true ↔ ∃ r ∈ rs, r.1 ≤ i ∧ i < r.1 + r.2)

theorem good_runs (l : List Nat) : ∀ k, GoodR l k (runsN l k) := by
  intro k
  induction k with
  | zero => exact ⟨by simp [runsN, onesN, stR, finR], by simp [runsN, onesN, stR, finR], fun i hi => by omega⟩
  | succ k ih =>
    obtain ⟨h1, h2, h3⟩ := ih
    cases hb : bitB l k with
    | false =>
      rw [runs_zero hb]
      refine ⟨fun r hr => ⟨(h1 r hr).1, by have := (h1 r hr).2; omega⟩, h2, fun i hi => ?_⟩
      by_cases e : i = k
      · subst e
        rw [hb]
        constructor
        · intro h; cases h
        · rintro ⟨r, hr, ha, hb'⟩
          have := (h1 r hr).2
          omega
      · exact h3 i (by omega)
    | true =>
      rcases List.eq_nil_or_concat (runsN l k) with he | ⟨r0, ⟨a, m⟩, he⟩
      · rw [runs_first hb he]
        rw [he] at h3
        refine ⟨by simp, by simp, fun i hi => ?_⟩
        by_cases e : i = k
        · subst e; simp [hb]
        · have := h3 i (by omega)
          simp at this
          simp [this]; omega
      · rw [List.concat_eq_append] at he
        rw [he] at h1 h2 h3
        have hlt := runs_lt he
        have h4 : ∀ r ∈ r0, r.1 + r.2 < a := by
          rw [List.pairwise_append] at h2
          intro r hr
          exact h2.2.2 r hr (a, m) (by simp)
        have h5 : r0.Pairwise (fun r r' => r.1 + r.2 < r'.1) := by rw [List.pairwise_append] at h2; exact h2.1
        have hm := (h1 (a, m) (by simp)).1
        simp only at hm
        by_cases hem : a + m = k
        · rw [runs_more hb he hem]
          refine ⟨?_, ?_, fun i hi => ?_⟩
          · intro r hr
            rcases List.mem_append.1 hr with h | h
            · have := h1 r (by simp [h]); omega
            · simp at h; subst h; simp only; omega
          · rw [List.pairwise_append]
            refine ⟨h5, by simp, ?_⟩
            intro r hr r' hr'
            simp at hr'
            subst hr'
            exact h4 r hr
          · by_cases e : i = k
            · subst e
              simp only [hb, true_iff]
              exact ⟨(a, m + 1), by simp, by simp only; omega, by simp only; omega⟩
            · rw [h3 i (by omega)]
              constructor
              · rintro ⟨r, hr, h6, h7⟩
                rcases List.mem_append.1 hr with h | h
                · exact ⟨r, by simp [h], h6, h7⟩
                · simp at h; subst h
                  exact ⟨(a, m + 1), by simp, h6, by simp only at h7 ⊢; omega⟩
              · rintro ⟨r, hr, h6, h7⟩
                rcases List.mem_append.1 hr with h | h
                · exact ⟨r, by simp [h], h6, h7⟩
                · simp at h; subst h
                  exact ⟨(a, m), by simp, h6, by simp only at h7 ⊢; omega⟩
        · rw [runs_next hb he hem]
          refine ⟨?_, ?_, fun i hi => ?_⟩
          · intro r hr
            rcases List.mem_append.1 hr with h | h
            · have := h1 r h; omega
            · simp at h; subst h; simp only; omega
          · rw [List.pairwise_append]
            refine ⟨h2, by simp, ?_⟩
            intro r hr r' hr'
            simp at hr'
            subst hr'
            rcases List.mem_append.1 hr with h | h
            · have := h4 r h; simp only; omega
            · simp at h; subst h; simp only; omega
          · by_cases e : i = k
            · subst e
              simp only [hb, true_iff]
              exact ⟨(i, 1), by simp, by simp only; omega, by simp only; omega⟩
            · rw [h3 i (by omega)]
              constructor
              · rintro ⟨r, hr, h6, h7⟩
                exact ⟨r, List.mem_append_left _ hr, h6, h7⟩
              · rintro ⟨r, hr, h6, h7⟩
                rcases List.mem_append.1 hr with h | h
                · exact ⟨r, h, h6, h7⟩
                · simp at h; subst h
                  simp only at h6 h7
                  omega

/-- The Or of the Spans of the first k runs. -/
def unN (n q : Nat) (rs : List (Nat × Nat)) : Nat → List Nat
  | 0 => zeros q
  | k + 1 => joinN (fun x y => x ||| y) (unN n q rs k) (spanI n ((rs.getD k (0, 0)).1 : Nat) (((rs.getD k (0, 0)).1 + (rs.getD k (0, 0)).2 : Nat) : Int)) q
theorem unN_length (n q : Nat) (rs : List (Nat × Nat)) (k : Nat) : (unN n q rs k).length = q := by
  cases k with
  | zero => exact zeros_length q
  | succ k => exact joinN_length _ _ _ _
theorem unN_lt (n q : Nat) (rs : List (Nat × Nat)) (k : Nat) : ∀ x ∈ unN n q rs k, x < 256 := by
  induction k with
  | zero => exact zeros_lt q
  | succ k ih => exact joinN_lt bitwise_or ih (spanI_lt _ _ _) _

theorem span_ok {n a m : Nat} (hn : n ≤ 65536) (h : a + m ≤ n) : spanOk n a ((a + m : Nat) : Int) = true := by
  simp only [spanOk, sizeB, Bool.and_eq_true, decide_eq_true_eq]; omega
theorem span_len {n q a m : Nat} (hn : n ≤ 65536) (hq : (n + 7) / 8 = q) (h : a + m ≤ n) : (spanI n a ((a + m : Nat) : Int)).length = q := by
  unfold spanI
  rw [if_pos (span_ok hn h), spanN_length, zeros_length]
  omega
theorem span_bit {n q a m i : Nat} (hn : n ≤ 65536) (hq : (n + 7) / 8 = q) (h : a + m ≤ n) : bitB (spanI n a ((a + m : Nat) : Int)) i = decide (a ≤ i ∧ i < a + m) := by
  unfold spanI
  rw [if_pos (span_ok hn h), Int.toNat_natCast, show (((a + m : Nat) : Int) - (a : Int)).toNat = m by omega]
  rw [bitB_span (by rw [zeros_length]; omega), bitB_zeros]
  by_cases hh : a ≤ i ∧ i < a + m
  · simp [hh]
  · rw [if_neg hh]; simp [hh]

theorem unN_bit {l : List Nat} {n q : Nat} {rs : List (Nat × Nat)} (hn : n ≤ 65536) (hq : (n + 7) / 8 = q) (hg : GoodR l n rs) : ∀ k, k ≤ rs.length → ∀ i, i < 8 * q → (bitB (unN n q rs k) i = true ↔ ∃ j, j < k ∧ (rs.getD j (0, 0)).1 ≤ i ∧ i < (rs.getD j (0, 0)).1 + (rs.getD j (0, 0)).2) := by
  intro k
  induction k with
  | zero => intro _ i hi; rw [unN, bitB_zeros]; simp
  | succ k ih =>
    intro hk i hi
    have hr : (rs.getD k (0, 0)).1 + (rs.getD k (0, 0)).2 ≤ n := by
      have : rs.getD k (0, 0) ∈ rs := by simp [List.getD, show k < rs.length by omega]
      exact (hg.1 _ this).2
    rw [unN, bitB_join bitwise_or (unN_lt _ _ _ _) (spanI_lt _ _ _) hi, span_bit hn hq hr]
    simp only [Bool.or_eq_true, decide_eq_true_eq]
    rw [ih (by omega) i hi]
    constructor
    · rintro (⟨j, h1, h2⟩ | h)
      · exact ⟨j, by omega, h2⟩
      · exact ⟨k, by omega, h⟩
    · rintro ⟨j, h1, h2⟩
      by_cases e : j = k
      · subst e; exact .inr h2
      · exact .inl ⟨j, by omega, h2⟩

theorem nx_none {l : List Nat} : ∀ f i, nx l true f i = i + f → ∀ j, i ≤ j → j < i + f → bitB l j = false := by
  intro f
  induction f with
  | zero => intro i _ j h1 h2; omega
  | succ f ih =>
    intro i h j h1 h2
    unfold nx at h
    split at h
    · omega
    · rename_i hb
      by_cases e : j = i
      · subst e; simpa using hb
      · exact ih (i + 1) (by omega) j (by omega) (by omega)

/-- What Check says when all is well. -/
theorem check_ok {l : List Nat} {n : Int} (h : checkI l n = 0) : ∃ m : Nat, n = m ∧ m ≤ 65536 ∧ l.length = (m + 7) / 8 ∧ ∀ i, m ≤ i → bitB l i = false := by
  unfold checkI at h
  cases hs : sizeB n with
  | false => simp [hs] at h
  | true =>
    have hs2 : 0 ≤ n ∧ n ≤ 65536 := by simpa [sizeB] using hs
    obtain ⟨m, rfl⟩ := Int.eq_ofNat_of_zero_le hs2.1
    simp only [hs, if_true] at h
    split at h
    · omega
    · split at h
      · omega
      · rename_i h1 h2
        refine ⟨m, rfl, by omega, by omega, fun i hi => ?_⟩
        rw [Int.toNat_natCast] at h2
        by_cases hl : i < 8 * l.length
        · have hg := nx_ge l true (8 * l.length - m) m
          exact nx_none (8 * l.length - m) m (by omega) i hi (by omega)
        · exact bitB_out (by omega)

theorem un_all {l : List Nat} {n : Nat} {rs : List (Nat × Nat)} (hx : ∀ x ∈ l, x < 256) (hn : n ≤ 65536) (hl : l.length = (n + 7) / 8) (hz : ∀ i, n ≤ i → bitB l i = false) (hg : GoodR l n rs) : unN n l.length rs rs.length = l := by
  apply row_ext (unN_lt _ _ _ _) hx (unN_length _ _ _ _)
  intro i hi
  rw [unN_length] at hi
  have h1 := unN_bit hn hl.symm hg rs.length (Nat.le_refl _) i hi
  have h2 : (∃ j, j < rs.length ∧ (rs.getD j (0, 0)).1 ≤ i ∧ i < (rs.getD j (0, 0)).1 + (rs.getD j (0, 0)).2) ↔ ∃ r ∈ rs, r.1 ≤ i ∧ i < r.1 + r.2 := by
    constructor
    · rintro ⟨j, h3, h4⟩
      exact ⟨rs.getD j (0, 0), by simp [List.getD, h3], h4⟩
    · rintro ⟨r, hr, h4⟩
      obtain ⟨j, hj, rfl⟩ := List.getElem_of_mem hr
      exact ⟨j, hj, by simpa [List.getD, hj] using h4⟩
  rw [h2] at h1
  rw [Bool.eq_iff_iff, h1]
  by_cases hin : i < n
  · exact (hg.2.2 i hin).symm
  · rw [hz i (by omega)]
    constructor
    · rintro ⟨r, hr, h3, h4⟩
      have := (hg.1 r hr).2
      omega
    · intro h; cases h

/-- Where the run ahead of run k ends. -/
def lastR (rs : List (Nat × Nat)) : Nat → Int
  | 0 => -1
  | k + 1 => ((rs.getD k (0, 0)).1 : Int) + ((rs.getD k (0, 0)).2 : Int)
theorem last_lt {l : List Nat} {n : Nat} {rs : List (Nat × Nat)} (hg : GoodR l n rs) {k : Nat} (hk : k < rs.length) : lastR rs k < ((rs.getD k (0, 0)).1 : Int) := by
  cases k with
  | zero => simp only [lastR]; omega
  | succ k =>
    have := List.pairwise_iff_getElem.1 hg.2.1 k (k + 1) (by omega) hk (by omega)
    simp only [lastR, List.getD, show k < rs.length by omega, hk, List.getElem?_eq_getElem, Option.getD_some]
    omega

set_option maxRecDepth 100000 in
set_option maxHeartbeats 2000000 in
theorem runs_walk (v : Value) (l : List Nat) (n : Int) (w : World) (h : Bs w v l) (hlen : l.length ≤ 140737488351232) :
    Calls Try.prog 8 #[v, .int .i64 n] w fun e w' => e = .returned (.bool true) ∧ Below w.heap.size w w' := by
  have hx := h.lt
  have hF : ∀ w1 : World, Below w.heap.size w w1 → Calls Try.prog 11 #[.slice (some ⟨w1.heap.size, 0, none⟩) 1 1] (w1.alloc (.cells #[v] 22)) fun e w' => e = .returned (.bool (decide (l.length ≤ 3000))) ∧ w1.alloc (.cells #[v] 22) = w' := by
    intro w1 hb
    have := few_any _ [l] _ (Bss.one 22 (h.mono hb)) (by simp)
    rwa [fewB_oneR] at this
  have HF := hide hF
  clear hF
  obtain ⟨ao, cap, rfl⟩ : ∃ ao cap, v = .slice ao l.length cap := by obtain ⟨ao, cap, e, _⟩ := h; exact ⟨ao, cap, e⟩
  go_enter Try.func8, Try.ntmps8
  go_wp2_with fail
  refine (begun_any _).mono ?_
  rintro e w1 ⟨rfl, hb1⟩
  have hz1 := hb1.size
  go_wp2_with fail
  refine (HF.out w1 hb1).mono ?_
  rintro e w2 ⟨rfl, rfl⟩
  have hb2 : Below w.heap.size w (w1.alloc (.cells #[.slice ao l.length cap] 22)) := hb1.alloc hz1 _
  have Hb1 := hide hb1
  clear hb1 HF
  by_cases h3 : l.length ≤ 3000
  case neg =>
    have hd : decide (l.length ≤ 3000) = false := by simpa using h3
    rw [hd]
    go_wp2_with fail
    refine (begun_any _).mono ?_
    rintro e w3 ⟨rfl, hb3⟩
    go_wp2_with fail
    go_ret
    exact ⟨rfl, hb2.trans (hb3.mono hb2.size)⟩
  have hd : decide (l.length ≤ 3000) = true := by simpa using h3
  rw [hd]
  by_cases hbig : 2000 < n
  case pos =>
    go_wp2_with fail
    refine (begun_any _).mono ?_
    rintro e w3 ⟨rfl, hb3⟩
    go_wp2_with fail
    go_ret
    exact ⟨rfl, hb2.trans (hb3.mono hb2.size)⟩
  have h2 := h.mono hb2
  have hb2s := hb2.size
  have hck := check_any _ l n _ h2 (by omega)
  by_cases hc0 : checkI l n = 0
  case neg =>
    have hc1 : (checkI l n != 0) = true := by simpa using hc0
    generalize checkI l n = c at *
    clear hc0
    go_wp2_with fail
    refine hck.mono ?_
    rintro e w3 ⟨rfl, rfl⟩
    go_wp2_with fail
    refine (begun_any _).mono ?_
    rintro e w3 ⟨rfl, hb3⟩
    go_wp2_with fail
    go_ret
    exact ⟨rfl, hb2.trans (hb3.mono hb2.size)⟩
  obtain ⟨N, rfl, hN, hl, hz⟩ := check_ok hc0
  rw [hc0] at hck
  have hend : endN l (N : Int) = N := by unfold endN; omega
  have hg := good_runs l N
  have hun := un_all hx hN hl hz hg
  have HT := hide (told_runs l (N : Int) h3)
  have HR := hide (runs_any (.slice ao l.length cap) l (N : Int))
  rw [hend] at HT HR
  have hrl := runs_len l N
  obtain ⟨rs, hrs⟩ : ∃ rs, runsN l N = rs := ⟨_, rfl⟩
  rw [hrs] at hg hun HT hrl
  have ht : rs.take 1048576 = rs := List.take_of_length_le (by omega)
  have HT1 := hide (fun W g hg => HT.out W g hg 1048576 (by omega))
  rw [ht, show ((1048576 : Nat) : Int) = 1048576 from rfl] at HT1
  have hnew := fun w => new_any (N : Int) w
  have hsz : sizeB (N : Int) = true := by simp [sizeB]; omega
  have hnl : newL (N : Int) = zeros l.length := by simp only [newL, hsz, if_true]; congr 1; omega
  have hne : newE (N : Int) = 0 := by simp [newE, hsz]
  rw [hnl, hne] at hnew
  have Hnew := hide hnew
  have Hun := hide hun
  have Hl := hide hl
  have Hg := hide hg
  have Hb2 := hide hb2
  clear hb2 Hb1 hc0 hend hg hun hl hrs ht hnew hnl hne hsz HT hz h
  go_wp2_with fail
  refine hck.mono ?_
  rintro e w3 ⟨rfl, rfl⟩
  clear hck
  go_wp2_with fail
  refine (Hnew.out _).mono ?_
  rintro e w3 ⟨vo, rfl, hown3, hb3⟩
  have h3' := h2.mono hb3
  have hbo := Bs.of_owns hown3 (zeros_lt _)
  have Hb3 : Hid (Below w.heap.size w w3) := Hb2.out.trans (hb3.mono hb2s)
  clear hown3 hb3 h2 Hb2 hb2s Hnew
  go_wp2_with fail
  refine (HR.out _ h3' (by omega)).mono ?_
  rintro e w4 ⟨g4, rfl, hg4, hb4⟩
  have h4 := h3'.mono hb4
  have hbo4 := hbo.mono hb4
  have Hb4 : Hid (Below w.heap.size w w4) := Hb3.out.trans (hb4.mono Hb3.out.size)
  clear hb4 h3' hbo Hb3 HR
  go_wp2_with fail
  refine (HT1.out _ _ hg4).mono ?_
  rintro e w5 ⟨v5, rfl, hR5, hb5⟩
  have h5 := h4.mono hb5
  have hbo5 := hbo4.mono hb5
  have Hb5 : Hid (Below w.heap.size w w5) := Hb4.out.trans (hb5.mono Hb4.out.size)
  clear hb5 h4 hbo4 Hb4 hg4 HT1
  obtain ⟨ar, capr, rfl⟩ : ∃ ao cap, v5 = .slice ao rs.length cap := by obtain ⟨ao, cap, e, _⟩ := hR5; exact ⟨ao, cap, e⟩
  have hru : Hid (Bs w5 vo (unN N l.length rs 0)) := hbo5
  clear hbo5
  go_wp2_with fail
  go_loopw [43, 5, 7] (fun i vo' la wr => ∃ k : Nat, k ≤ rs.length ∧ i = .int .i64 k ∧ la = .int .i64 (lastR rs k) ∧ Bs wr vo' (unN N l.length rs k) ∧ Below w5.heap.size w5 wr) (fun i _ _ _ => rs.length - (intOf i).toNat)
  case atStart => exact ⟨0, Nat.zero_le _, rfl, rfl, hru.out, Below.refl _ _⟩
  case round =>
    obtain ⟨k, hk, rfl, rfl, hbu, hbw⟩ := hrel
    clear hru
    by_cases hkn : k < rs.length
    · have hR6 := hR5.mono hbw
      obtain ⟨ao', cap', e', hcr, hcells⟩ := hR6
      simp only [Value.slice.injEq] at e'
      obtain ⟨rfl, -, rfl⟩ := e'
      obtain ⟨b, rfl, hcell⟩ := hcells (by omega)
      obtain ⟨c1, c2⟩ := hcell k hkn
      have hll := last_lt Hg.out hkn
      have hmem : rs.getD k (0, 0) ∈ rs := by simp [List.getD, hkn]
      obtain ⟨hr1, hr2⟩ := Hg.out.1 _ hmem
      have hs1 := span_len hN Hl.out.symm hr2
      have hs2 := span_ok hN hr2
      have hst : unN N l.length rs (k + 1) = joinN (fun x y => x ||| y) (unN N l.length rs k) (spanI N ((rs.getD k (0, 0)).1 : Nat) (((rs.getD k (0, 0)).1 + (rs.getD k (0, 0)).2 : Nat) : Int)) l.length := rfl
      have hln : lastR rs (k + 1) = ((rs.getD k (0, 0)).1 : Int) + ((rs.getD k (0, 0)).2 : Int) := rfl
      generalize rs.getD k (0, 0) = r at *
      obtain ⟨a, m⟩ := r
      simp only at c1 c2 hll hr1 hr2 hs1 hs2 hst hln
      have hbl := unN_length N l.length rs k
      have hbx := unN_lt N l.length rs k
      generalize unN N l.length rs k = ul at *
      generalize lastR rs k = la at *
      have Hst := hide hst
      have Hln := hide hln
      have Hbl := hide hbl
      clear hst hln hcells hcell hmem hbl
      have hsp := fun w => span_any (N : Int) (a : Int) (((a + m : Nat)) : Int) w
      have hse : spanE (N : Int) (a : Int) (((a + m : Nat)) : Int) = 0 := by simp only [spanE, hs2, if_true]
      rw [hse, show (((a + m : Nat)) : Int) = (a : Int) + m by omega] at hsp
      have hsx := spanI_lt (N : Int) (a : Int) ((a : Int) + m)
      rw [show (((a + m : Nat)) : Int) = (a : Int) + m by omega] at hs1 Hst
      generalize spanI (N : Int) (a : Int) ((a : Int) + m) = sl at *
      have Hsp := hide hsp
      have Hs1 := hide hs1
      clear hsp hse hs2 hs1
      have cs0 : (wr.alloc (.cells #[.int .i64 (a : Int), .int .i64 (m : Int)] 42)).cell? ⟨wr.heap.size, 0, none⟩ = some (.int .i64 (a : Int)) := by simp
      have cs1 : (wr.alloc (.cells #[.int .i64 (a : Int), .int .i64 (m : Int)] 42)).cell? ⟨wr.heap.size, 1, none⟩ = some (.int .i64 (m : Int)) := by simp
      have Hc0 := hide cs0
      have Hc1 := hide cs1
      clear cs0 cs1
      go_wp2_with fail
      refine (Hsp.out _).mono ?_
      rintro e w6 ⟨vs, rfl, ho6, hb6⟩
      have hbu6 := (hbu.alloc (.cells #[.int .i64 (a : Int), .int .i64 (m : Int)] 42)).mono hb6
      have hs6 := Bs.of_owns ho6 hsx
      have d0 : w6.cell? ⟨wr.heap.size, 0, none⟩ = some (.int .i64 (a : Int)) := (hb6.cell (p := ⟨wr.heap.size, 0, none⟩) (by simp)).trans Hc0.out
      have d1 : w6.cell? ⟨wr.heap.size, 1, none⟩ = some (.int .i64 (m : Int)) := (hb6.cell (p := ⟨wr.heap.size, 1, none⟩) (by simp)).trans Hc1.out
      have zw := hbw.size
      have z6 := hb6.size
      simp only [World.size_alloc] at z6
      have Hb6 : Hid (Below w5.heap.size w5 w6) := (hbw.alloc zw _).trans (hb6.mono (by simp; omega))
      have hor := or_any u5 vs ul sl w6 hbu6 hs6 (by have := Hbl.out; omega) (by have := Hs1.out; omega)
      rw [show joinL (fun x y => x ||| y) ul sl = unN N l.length rs (k + 1) by unfold joinL; rw [if_pos (Hbl.out.trans Hs1.out.symm), Hst.out, Hbl.out], show joinE ul sl = 0 by unfold joinE; rw [if_pos (Hbl.out.trans Hs1.out.symm)]] at hor
      have Hor := hide hor
      have hux := unN_lt N l.length rs (k + 1)
      clear hor hb6 ho6 hbu6 hs6 Hsp Hst Hc0 Hc1 hbu c1 c2
      go_wp2_with fail
      refine Hor.out.mono ?_
      rintro e w7 ⟨vo7, rfl, ho7, hb7⟩
      have hbo7 := Bs.of_owns ho7 hux
      have f0 : w7.cell? ⟨wr.heap.size, 0, none⟩ = some (.int .i64 (a : Int)) := (hb7.cell (p := ⟨wr.heap.size, 0, none⟩) (by simp; omega)).trans d0
      have f1 : w7.cell? ⟨wr.heap.size, 1, none⟩ = some (.int .i64 (m : Int)) := (hb7.cell (p := ⟨wr.heap.size, 1, none⟩) (by simp; omega)).trans d1
      have Hb7 : Hid (Below w5.heap.size w5 w7) := Hb6.out.trans (hb7.mono Hb6.out.size)
      clear ho7 hb7 Hor d0 d1 Hb6
      go_wp2_with fail
      go_roundw
      case rel => exact ⟨k + 1, by omega, by go_num, by rw [Hln.out], hbo7, Hb7.out⟩
      case measure => simp [intOf]; omega
    · obtain rfl : k = rs.length := by omega
      rw [Hun.out] at hbu
      have h6 := h5.mono hbw
      have HbF : Hid (Below w.heap.size w wr) := Hb5.out.trans (hbw.mono Hb5.out.size)
      clear hbw
      go_wp2_with fail
      refine (equal_any _ _ l l _ hbu h6).mono ?_
      rintro e w7 ⟨rfl, rfl⟩
      go_wp2_with fail
      go_ret
      exact ⟨by simp, HbF.out⟩

theorem bitsRuns_lifted (os : Os) (started : os.Started) (H : Type) (enc : TypeId × Value → H) :
    ReturnsInHanded {} Try.checked os 8 .any (Rows.bitsRunsSpec.pre6 enc Try.prog Try.f8 Rows.bitsRunsRow.domain false) (Rows.bitsRunsSpec.post enc Try.prog Try.f8 false true false false) := by
  refine law_frame (C := Try.checked) rfl Try.own started (by kernel_rfl) Try.func8
    (ChangeSpec.witness6 (enc := enc) (C := Try.checked) false ⟨#[], #[.slice none 0 0, .int .i64 0], []⟩ 8 (by kernel_rfl) (by kernel_rfl) (by kernel_rfl) (by kernel_rfl))
    Try.laidOut ?_ 4 rfl Try.underlying4 ?_ ?_
  · rw [Try.params8]
    intro t ht
    simp at ht
    rcases ht with rfl | rfl <;> exact ⟨by kernel_rfl, of_decide_eq_true (by kernel_rfl)⟩
  · intro ds hn
    rw [Try.params8] at hn
    match ds, hn with
    | [d1, d2], _ => rfl
  · intro W base args ds p hval0 hA hsz
    have hval : ∀ (j : Nat) t v, Try.f8.params[j]? = some t → args[j]? = some v → Value.okWide Try.prog W .any base t v := hval0
    rw [Try.params8] at hA hsz hval
    obtain ⟨v0, vs0, d0, ds0, p0, q0, hargs, rfl, rfl, h0, r0⟩ := trodAll_cons hA
    obtain ⟨v1, vs1, d1, ds1, p1, q1, rfl, rfl, rfl, h1, r1⟩ := trodAll_cons r0
    obtain ⟨rfl, rfl, rfl⟩ := trodAll_nil r1
    obtain rfl : args = #[v0, v1] := by cases args; simp_all
    obtain ⟨l0, hbs0, hl0⟩ := Bs.came Try.underlying22 Try.underlying5 (by kernel_rfl) (hval 0 22 v0 rfl rfl) h0
    have hlen0 := came_len hsz (j := 0) (t := 22) rfl rfl Try.underlying22 (by kernel_rfl) hl0
    obtain ⟨a1, rfl, rfl, rfl, w1⟩ := open_int Try.underlying3 (hval 1 3 v1 rfl rfl) h1
    have hb1 := bounds_i64 w1
    exact runs_walk v0 l0 a1 W hbs0 hlen0

theorem bitsRuns_holds : Rows.BitsRunsSaid :=
  OpenClaim.holds_of_wide 8 Try.f8 rfl rfl rfl rfl rfl rfl rfl ⟨rfl, rfl, rfl, rfl, rfl⟩ rfl rfl rfl rfl rfl (by kernel_rfl) Try.func8 (by kernel_rfl)
    (of_decide_eq_true (by kernel_rfl)) (by unfold Func.isWrapper; first | (rw [if_pos (by decide +kernel)]; kernel_rfl) | (rw [if_neg (by decide +kernel)]; exact ⟨rfl, rfl⟩))
    (fun os started H enc _ => bitsRuns_lifted os started H enc)
#print axioms bitsRuns_holds
end Go.Proofs.Ytkdajahcadjpfaa
