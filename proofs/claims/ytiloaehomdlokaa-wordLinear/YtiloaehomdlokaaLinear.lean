/- WordLinear answers true for every three slices of bytes: the exclusive or of their sums is the sum of their exclusive or. No conditions. -/
import Derived.Test.YtiloaehomdlokaaC8
import Derived.Test.YtiloaehomdlokaaCrc
import Derived.Test.YtiloaehomdlokaaFrame
import Derived.Deep.RegionHeld3
set_option linter.unusedSimpArgs false
set_option linter.unusedVariables false
namespace Go.Proofs.Ytiloaehomdlokaa
open Go.RowKit Go.Attic Go.ChangeShapes Go.WideShapes

/-- The cells of the first k exclusive ors, ahead of noughts. -/
def midX (a b c : List Nat) (n k : Nat) : List Value := cellsB (xor3 a b c k) ++ List.replicate (n - k) (Value.int .u8 0)

theorem midX_set (a b c : List Nat) (n k : Nat) (hk : k < n) : (midX a b c n k).set k (.int .u8 ((a.getD k 0 ^^^ b.getD k 0 ^^^ c.getD k 0 : Nat) : Int)) = midX a b c n (k + 1) := by
  unfold midX
  have h1 : (cellsB (xor3 a b c k)).length = k := by rw [cellsB_length, xor3_length]
  rw [show n - k = (n - (k + 1)) + 1 by omega, List.replicate_succ]
  rw [List.set_append_right _ _ (by omega), h1, Nat.sub_self]
  simp only [List.set_cons_zero]
  rw [xor3_succ, cellsB_append]
  simp [cellsB]
theorem midX_at (a b c : List Nat) (n k : Nat) (hk : k < n) : (midX a b c n k)[k]? = some (.int .u8 0) := by
  unfold midX
  rw [List.getElem?_append_right (by simp [cellsB_length, xor3_length]), cellsB_length, xor3_length, Nat.sub_self, List.getElem?_replicate, if_pos (by omega)]
theorem midX_zero (a b c : List Nat) (n : Nat) : (madeCells (Value.int .u8 0).cells (n * 1)).toList = midX a b c n 0 := by
  simp only [madeCells, midX, xor3, cellsB, Value.cells, Nat.mul_one, Array.toList_map, Array.toList_range, List.range_zero, List.map_nil, List.nil_append, Nat.sub_zero]
  apply List.ext_getElem (by simp)
  intro i h1 h2
  simp [Nat.mod_one]

set_option maxRecDepth 100000 in
set_option maxHeartbeats 1000000 in
theorem linear_walk (va vb vc : Value) (a b c : List Nat) (w : World) (ha : Bs w va a) (hb : Bs w vb b) (hc : Bs w vc c) (la : a.length ≤ 140737488351232) (lb : b.length ≤ 140737488351232) (lc : c.length ≤ 140737488351232) :
    Calls Try.prog 9 #[va, vb, vc] w fun e w' => e = .returned (.bool true) ∧ Below w.heap.size w w' := by
  obtain ⟨i0, hi, hz0, hz1, hz2⟩ := info_parts Try.info5
  have ha' := ha
  have hb' := hb
  have hc' := hc
  obtain ⟨aoa, capa, rfl, hla, _, _, hca⟩ := ha
  obtain ⟨aob, capb, rfl, hlb, _, _, hcb⟩ := hb
  obtain ⟨aoc, capc, rfl, hlc, _, _, hcc⟩ := hc
  have Hca := hide hca
  have Hcb := hide hcb
  have Hcc := hide hcc
  clear hca hcb hcc
  obtain ⟨m, hm, hma, hmb⟩ : ∃ m : Nat, (if b.length < a.length then (b.length : Int) else (a.length : Int)) = (m : Int) ∧ m ≤ a.length ∧ m ≤ b.length := by
    by_cases h : b.length < a.length
    · exact ⟨b.length, by rw [if_pos h], by omega, by omega⟩
    · exact ⟨a.length, by rw [if_neg h], by omega, by omega⟩
  obtain ⟨n, hn, hnm, hnc⟩ : ∃ n : Nat, (if c.length < m then (c.length : Int) else (m : Int)) = (n : Int) ∧ n ≤ m ∧ n ≤ c.length := by
    by_cases h : c.length < m
    · exact ⟨c.length, by rw [if_pos h], by omega, by omega⟩
    · exact ⟨m, by rw [if_neg h], by omega, by omega⟩
  go_enter Try.func9, Try.ntmps9
  go_wp2_with fail
  refine (live_any _).mono ?_
  rintro e w1 ⟨rfl, hb1⟩
  go_wp2_with (at_make; refine wpList_make_full _ rfl (.tmp 19) (.tmp 19) 22 rfl w1.heap.size 5 i0 (.int .u8 0) 1 Try.underlying22 hi hz0 hz1 .i64 .i64 n n n rfl rfl rfl rfl (by rw [hz2]; omega) (by unfold maxLen; omega) (Nat.le_refl _) ?_; intro w2 hown hgrow)
  rw [midX_zero a b c n] at hown
  have hz := hb1.size
  have hb2 : Below w.heap.size w w2 := hb1.grown hgrow hz (by intro k hk; cases hk)
  clear hgrow hm hn
  go_loopw [22] (fun i wr => ∃ k : Nat, k ≤ n ∧ i = .int .i64 k ∧ wr.ownsRow w1.heap.size 5 1 (.slice (some ⟨w1.heap.size, 0, none⟩) n n) n (midX a b c n k) ∧ Below w.heap.size w wr) (fun i _ => n - (intOf i).toNat)
  case atStart => exact ⟨0, Nat.zero_le _, rfl, hown, hb2⟩
  case round =>
    obtain ⟨k, hk, rfl, hown', hbr⟩ := hrel
    clear hown hb2
    by_cases hkn : k < n
    · obtain ⟨ba, oa, rfl, ca⟩ := Hca.out (by omega)
      obtain ⟨bb, ob, rfl, cb⟩ := Hcb.out (by omega)
      obtain ⟨bc, oc, rfl, cc⟩ := Hcc.out (by omega)
      have ca' : wr.cell? ⟨ba, oa + k, none⟩ = some (.int .u8 (a.getD k 0 : Nat)) := by
        have := ca k (by omega)
        rw [hbr.cell (p := ⟨ba, oa + k, none⟩) (by have := World.block_lt_of_cell? w _ this; simpa using this)]; exact this
      have cb' : wr.cell? ⟨bb, ob + k, none⟩ = some (.int .u8 (b.getD k 0 : Nat)) := by
        have := cb k (by omega)
        rw [hbr.cell (p := ⟨bb, ob + k, none⟩) (by have := World.block_lt_of_cell? w _ this; simpa using this)]; exact this
      have cc' : wr.cell? ⟨bc, oc + k, none⟩ = some (.int .u8 (c.getD k 0 : Nat)) := by
        have := cc k (by omega)
        rw [hbr.cell (p := ⟨bc, oc + k, none⟩) (by have := World.block_lt_of_cell? w _ this; simpa using this)]; exact this
      have cx : wr.cell? ⟨w1.heap.size, k, none⟩ = some (.int .u8 0) := by rw [hown'.cellAt k (by omega), midX_at _ _ _ _ _ hkn]
      have fx := hown'.frozenAt k
      have hst := (hown'.stored k (.int .u8 ((a.getD k 0 ^^^ b.getD k 0 ^^^ c.getD k 0 : Nat) : Int))).1
      rw [midX_set _ _ _ _ _ hkn] at hst
      have Hst : Hid (World.ownsRow _ _ _ _ _ _ _) := hst
      have Hb : Hid _ := hbr.setCell (p := ⟨w1.heap.size, k, none⟩) hz (.int .u8 ((a.getD k 0 ^^^ b.getD k 0 ^^^ c.getD k 0 : Nat) : Int))
      have xa := getD_lt ha'.lt k
      have xb := getD_lt hb'.lt k
      have xc := getD_lt hc'.lt k
      clear hst hown' hbr ca cb cc Hca Hcb Hcc ha' hb' hc'
      generalize a.getD k 0 = na at *
      generalize b.getD k 0 = nb at *
      generalize c.getD k 0 = nc at *
      have k1 : (k : Int) < (a.length : Int) := by omega
      have k2 : (k : Int) < (b.length : Int) := by omega
      have k3 : (k : Int) < (c.length : Int) := by omega
      have k4 : (k : Int) < (n : Int) := by omega
      go_wp2_with fail
      go_region
      all_goals
        go_wp2_with fail
        go_roundw
        case rel =>
          rw [u8_xor_nat na nb xa xb, u8_xor_nat _ nc (Nat.xor_lt_two_pow (n := 8) xa xb) xc]
          exact ⟨k + 1, by omega, by go_num, World.ownsRow.drew Hst.out, Hb.out.drew⟩
        case measure => simp [intOf]; omega
    · obtain rfl : k = n := by omega
      have hx : Bs wr (.slice (some ⟨w1.heap.size, 0, none⟩) k k) (xor3 a b c k) := by
        have e : midX a b c k k = cellsB (xor3 a b c k) := by simp [midX]
        rw [e] at hown'
        exact Bs.of_owns hown' (xor3_lt ha'.lt hb'.lt hc'.lt k)
      have h1 := (ha'.below hbr (Nat.le_refl _)).take (h := k) (by omega)
      have h2 := (hb'.below hbr (Nat.le_refl _)).take (h := k) (by omega)
      have h3 := (hc'.below hbr (Nat.le_refl _)).take (h := k) (by omega)
      have Hsum := hide (sum_xor3 a b c k (by omega) (by omega) (by omega) ha'.lt hb'.lt hc'.lt)
      have l0 := xor3_length a b c k
      have s0 := sumN_lt (xor3 a b c k)
      have s1 := sumN_lt (a.take k)
      have s2 := sumN_lt (b.take k)
      have s3 := sumN_lt (c.take k)
      have L0 : Hid ((xor3 a b c k).length ≤ 140737488355328) := by show _ ≤ _; omega
      have L1 : Hid ((a.take k).length ≤ 140737488355328) := by show _ ≤ _; simp; omega
      have L2 : Hid ((b.take k).length ≤ 140737488355328) := by show _ ≤ _; simp; omega
      have L3 : Hid ((c.take k).length ≤ 140737488355328) := by show _ ≤ _; simp; omega
      have k1 : (k : Int) ≤ (a.length : Int) := by omega
      have k2 : (k : Int) ≤ (b.length : Int) := by omega
      have k3 : (k : Int) ≤ (c.length : Int) := by omega
      have k4 : (k : Int) ≤ (capa : Int) := by omega
      have k5 : (k : Int) ≤ (capb : Int) := by omega
      have k6 : (k : Int) ≤ (capc : Int) := by omega
      clear hown' Hca Hcb Hcc ha' hb' hc' l0
      generalize xor3 a b c k = lx at *
      generalize a.take k = ta at *
      generalize b.take k = tb at *
      generalize c.take k = tc at *
      go_wp2_with fail
      go_region_held3 (fun w' => Bs w' (.slice (some ⟨w1.heap.size, 0, none⟩) k k) lx ∧ Bs w' (.slice aoa k capa) ta ∧ Bs w' (.slice aob k capb) tb ∧ Bs w' (.slice aoc k capc) tc)
        (first | exact ⟨hx.drew, h1.drew, h2.drew, h3.drew⟩ | assumption)
        (first
          | (go_at_call_of 24 (Value.slice (some ⟨w1.heap.size, 0, none⟩) k k); refine (sum_any _ lx _ hx.drew L0.out).mono ?_; rintro e wE ⟨rfl, rfl⟩)
          | (go_at_call_of 24 (Value.slice aoa k capa); refine (sum_any _ ta _ h1.drew L1.out).mono ?_; rintro e wE ⟨rfl, rfl⟩)
          | (go_at_call_of 24 (Value.slice aob k capb); refine (sum_any _ tb _ h2.drew L2.out).mono ?_; rintro e wE ⟨rfl, rfl⟩)
          | (go_at_call_of 24 (Value.slice aoc k capc); refine (sum_any _ tc _ h3.drew L3.out).mono ?_; rintro e wE ⟨rfl, rfl⟩))
      all_goals
        go_wp2_with fail
        go_ret
        refine ⟨?_, hbr.drew⟩
        show Ending.returned (Value.bool ((sumN lx : Int) == bits .xor .u32 (bits .xor .u32 (sumN ta : Int) (sumN tb : Int)) (sumN tc : Int))) = _
        rw [u32_xor_nat _ _ (by omega) (by omega), u32_xor_nat _ _ (xor_lt32 s1 s2) (by omega), ← Hsum.out]
        simp

theorem wordLinear_lifted (os : Os) (started : os.Started) (H : Type) (enc : TypeId × Value → H) :
    ReturnsInHanded {} Try.checked os 9 .any (Rows.wordLinearSpec.pre6 enc Try.prog Try.f9 Rows.wordLinearRow.domain false) (Rows.wordLinearSpec.post enc Try.prog Try.f9 false true false false) := by
  refine law_frame (C := Try.checked) rfl Try.own started (by kernel_rfl) Try.func9
    (ChangeSpec.witness6 (enc := enc) (C := Try.checked) false ⟨#[], #[.slice none 0 0, .slice none 0 0, .slice none 0 0], []⟩ 8 (by kernel_rfl) (by kernel_rfl) (by kernel_rfl) (by kernel_rfl))
    Try.laidOut ?_ 4 rfl Try.underlying4 ?_ ?_
  · rw [Try.params9]
    intro t ht
    simp at ht
    rcases ht with rfl <;> exact ⟨by kernel_rfl, of_decide_eq_true (by kernel_rfl)⟩
  · intro ds hn
    rw [Try.params9] at hn
    match ds, hn with
    | [d1, d2, d3], _ => rfl
  · intro W base args ds p hval0 hA hsz
    have hval : ∀ (j : Nat) t v, Try.f9.params[j]? = some t → args[j]? = some v → Value.okWide Try.prog W .any base t v := hval0
    rw [Try.params9] at hA hsz hval
    obtain ⟨v0, vs0, d0, ds0, p0, q0, hargs, rfl, rfl, h0, r0⟩ := trodAll_cons hA
    obtain ⟨v1, vs1, d1, ds1, p1, q1, rfl, rfl, rfl, h1, r1⟩ := trodAll_cons r0
    obtain ⟨v2, vs2, d2, ds2, p2, q2, rfl, rfl, rfl, h2, r2⟩ := trodAll_cons r1
    obtain ⟨rfl, rfl, rfl⟩ := trodAll_nil r2
    obtain rfl : args = #[v0, v1, v2] := by cases args; simp_all
    obtain ⟨l0, hbs0, hl0⟩ := Bs.came Try.underlying22 Try.underlying5 (by kernel_rfl) (hval 0 22 v0 rfl rfl) h0
    have hlen0 := came_len hsz (j := 0) (t := 22) rfl rfl Try.underlying22 (by kernel_rfl) hl0
    obtain ⟨l1, hbs1, hl1⟩ := Bs.came Try.underlying22 Try.underlying5 (by kernel_rfl) (hval 1 22 v1 rfl rfl) h1
    have hlen1 := came_len hsz (j := 1) (t := 22) rfl rfl Try.underlying22 (by kernel_rfl) hl1
    obtain ⟨l2, hbs2, hl2⟩ := Bs.came Try.underlying22 Try.underlying5 (by kernel_rfl) (hval 2 22 v2 rfl rfl) h2
    have hlen2 := came_len hsz (j := 2) (t := 22) rfl rfl Try.underlying22 (by kernel_rfl) hl2
    exact linear_walk v0 v1 v2 l0 l1 l2 W hbs0 hbs1 hbs2 hlen0 hlen1 hlen2

theorem wordLinear_holds : Rows.WordLinearSaid :=
  OpenClaim.holds_of_wide 9 Try.f9 rfl rfl rfl rfl rfl rfl rfl ⟨rfl, rfl, rfl, rfl, rfl⟩ rfl rfl rfl rfl rfl (by kernel_rfl) Try.func9 (by kernel_rfl)
    (of_decide_eq_true (by kernel_rfl)) (by unfold Func.isWrapper; first | (rw [if_pos (by decide +kernel)]; kernel_rfl) | (rw [if_neg (by decide +kernel)]; exact ⟨rfl, rfl⟩))
    (fun os started H enc _ => wordLinear_lifted os started H enc)
#print axioms wordLinear_holds
end Go.Proofs.Ytiloaehomdlokaa
