/- WordNums answers true for every slice of bytes, every number and every place: word.Get and word.Num answer as the document's own functions do. No conditions. -/
import Derived.Test.YtiloaehomdlokaaC6
import Derived.Test.YtiloaehomdlokaaFrame
import Derived.Deep.RegionHeld3
set_option linter.unusedSimpArgs false
set_option linter.unusedVariables false
namespace Go.Proofs.Ytiloaehomdlokaa
open Go.RowKit Go.Attic Go.ChangeShapes Go.WideShapes

theorem numL_lt (n : Int) (v : Nat) : ∀ x ∈ numL n v, x < 256 := by
  unfold numL
  split
  · exact numN_lt _ _
  · simp

/-- What holds from the region's beginning on: the place's second number lies where it lay, and nothing that was there has turned. -/
theorem held_keep {w0 w w' : World} {a : Addr} {n : Value} (h : w.cell? a = some n ∧ Below w0.heap.size w0 w) (hb : Below w.heap.size w w') : w'.cell? a = some n ∧ Below w0.heap.size w0 w' :=
  ⟨(hb.cell (World.block_lt_of_cell? w a h.1)).trans h.1, h.2.trans (hb.mono h.2.size)⟩

set_option maxRecDepth 100000 in
set_option maxHeartbeats 1000000 in
theorem nums_walk (v : Value) (l : List Nat) (a : Nat) (p n : Int) (w : World) (h : Bs w v l) (hlen : l.length ≤ 140737488351232) (ha : a < 2 ^ 64) :
    Calls Try.prog 3 #[v, .int .u64 a, .agg #[.int .i64 p, .int .i64 n]] w fun e w' => e = .returned (.bool true) ∧ Below w.heap.size w w' := by
  go_enter Try.func3, Try.ntmps3
  go_wp2_with fail
  refine (get_any _ l _ _ _ (h.alloc _) (by omega)).mono ?_
  rintro e w1 ⟨rfl, rfl⟩
  go_wp2_with fail
  refine (rget_any _ l _ _ _ (h.alloc _) (by omega)).mono ?_
  rintro e w1 ⟨rfl, rfl⟩
  go_wp2_with fail
  have hc : (w.alloc (.cells #[.int .i64 p, .int .i64 n] 25)).cell? ⟨w.heap.size, 1, none⟩ = some (.int .i64 n) := by simp
  have hb0 : Below w.heap.size w (w.alloc (.cells #[.int .i64 p, .int .i64 n] 25)) := (Below.refl _ _).alloc (Nat.le_refl _) _
  have Hz : Hid (w.heap.size ≤ (w.alloc (.cells #[.int .i64 p, .int .i64 n] 25)).heap.size) := by show _ ≤ _; simp
  have hlt := numL_lt n a
  generalize w.alloc (.cells #[.int .i64 p, .int .i64 n] 25) = w0 at *
  generalize getV l p n = gv
  generalize getB l p n = gb
  have S0 : w0.drew.cell? ⟨w.heap.size, 1, none⟩ = some (.int .i64 n) ∧ Below w0.heap.size w0 w0.drew := ⟨hc, (Below.refl _ _).drew⟩
  go_region_held3 (fun w' => w'.cell? ⟨w.heap.size, 1, none⟩ = some (.int .i64 n) ∧ Below w0.heap.size w0 w')
    (first
      | exact S0
      | assumption
      | exact held_keep S0 hbL
      | exact held_keep (held_keep S0 hbL) hbN
      | exact held_keep (held_keep (held_keep S0 hbL) hbN) hbR)
    (first
      | (go_at_call 13; refine (live_any _).mono ?_; rintro e wL ⟨rfl, hbL⟩)
      | (go_at_call 15; refine (num_any n a _ ha).mono ?_; rintro e wN ⟨vN, rfl, hoN, hbN⟩; have hsN := Bs.of_owns hoN hlt; clear hoN)
      | (go_at_call 16; refine (rnum_any n a _ ha).mono ?_; rintro e wR ⟨vR, rfl, hoR, hbR⟩; have hsR := Bs.of_owns hoR hlt; have hsN2 := hsN.mono hbR; clear hoR)
      | (go_at_call 14; refine (equal_any _ _ (numL n a) (numL n a) _ hsN2 hsR).mono ?_; rintro e wE ⟨rfl, rfl⟩))
  have Hb : Hid (Below w.heap.size w wR) := hb0.trans ((held_keep (held_keep (held_keep S0 hbL) hbN) hbR).2.mono Hz.out)
  clear hbL hbN hbR S0 hb0 hsN hsN2 hsR
  go_wp2
  go_ret
  exact ⟨by simp, Hb.out⟩

theorem nums_lifted (os : Os) (started : os.Started) (H : Type) (enc : TypeId × Value → H) :
    ReturnsInHanded {} Try.checked os 3 .any (Rows.wordNumsSpec.pre6 enc Try.prog Try.f3 Rows.wordNumsRow.domain false) (Rows.wordNumsSpec.post enc Try.prog Try.f3 false true false false) := by
  refine law_frame (C := Try.checked) rfl Try.own started (by kernel_rfl) Try.func3
    (ChangeSpec.witness6 (enc := enc) (C := Try.checked) false ⟨#[], #[.slice none 0 0, .int .u64 0, .agg #[.int .i64 0, .int .i64 0]], []⟩ 8 (by kernel_rfl) (by kernel_rfl) (by kernel_rfl) (by kernel_rfl))
    Try.laidOut ?_ 4 rfl Try.underlying4 ?_ ?_
  · rw [Try.params3]
    intro t ht
    simp at ht
    rcases ht with rfl | rfl | rfl <;> exact ⟨by kernel_rfl, of_decide_eq_true (by kernel_rfl)⟩
  · intro ds hn
    rw [Try.params3] at hn
    match ds, hn with
    | [d1, d2, d3], _ => rfl
  · intro W base args ds p hval0 hA hsz
    have hval : ∀ (j : Nat) t v, Try.f3.params[j]? = some t → args[j]? = some v → Value.okWide Try.prog W .any base t v := hval0
    rw [Try.params3] at hA hsz hval
    obtain ⟨v0, vs0, d0, ds0, p0, q0, hargs, rfl, rfl, h0, r0⟩ := trodAll_cons hA
    obtain ⟨v1, vs1, d1, ds1, p1, q1, rfl, rfl, rfl, h1, r1⟩ := trodAll_cons r0
    obtain ⟨v2, vs2, d2, ds2, p2, q2, rfl, rfl, rfl, h2, r2⟩ := trodAll_cons r1
    obtain ⟨rfl, rfl, rfl⟩ := trodAll_nil r2
    obtain rfl : args = #[v0, v1, v2] := by cases args; simp_all
    obtain ⟨l, hbs, hl⟩ := Bs.came Try.underlying22 Try.underlying5 (by kernel_rfl) (hval 0 22 v0 rfl rfl) h0
    have hlen := came_len hsz (j := 0) (t := 22) rfl rfl Try.underlying22 (by kernel_rfl) hl
    obtain ⟨a1, rfl, rfl, rfl, w1⟩ := open_int Try.underlying23 (hval 1 23 v1 rfl rfl) h1
    have hb1 := bounds_u64 w1
    obtain ⟨n1, rfl⟩ := Int.eq_ofNat_of_zero_le hb1.1
    obtain ⟨c0, c1, y0, y1, m, rfl, rfl, rfl, hy0, hy1⟩ := Joins.open_agg2 Try.underlying25 (by kernel_rfl) (by kernel_rfl) (hval 2 25 v2 rfl rfl) h2
    obtain ⟨x0, e0, rfl, wx0⟩ := DataW.trod_int Try.underlying3 hy0
    obtain ⟨x1, e1, rfl, wx1⟩ := DataW.trod_int Try.underlying3 hy1
    simp at e0 e1
    subst e0 e1
    exact nums_walk v0 l n1 x0 x1 W hbs hlen (by omega)

theorem wordNums_holds : Rows.WordNumsSaid :=
  OpenClaim.holds_of_wide 3 Try.f3 rfl rfl rfl rfl rfl rfl rfl ⟨rfl, rfl, rfl, rfl, rfl⟩ rfl rfl rfl rfl rfl (by kernel_rfl) Try.func3 (by kernel_rfl)
    (of_decide_eq_true (by kernel_rfl)) (by unfold Func.isWrapper; first | (rw [if_pos (by decide +kernel)]; kernel_rfl) | (rw [if_neg (by decide +kernel)]; exact ⟨rfl, rfl⟩))
    (fun os started H enc _ => nums_lifted os started H enc)
#print axioms wordNums_holds
end Go.Proofs.Ytiloaehomdlokaa
