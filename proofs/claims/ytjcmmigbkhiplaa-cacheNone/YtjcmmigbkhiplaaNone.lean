/- CacheNone: of a cache that no call made each call answers ErrMade, false, 0, or nothing, and of a disk that no call made New answers ErrMade. No conditions. -/
import Derived.Test.YtjcmmigbkhiplaaN1
import Derived.Test.YtjcmmigbkhiplaaN2
import Derived.Test.YtjcmmigbkhiplaaFrame
set_option linter.unusedSimpArgs false
set_option linter.unusedVariables false
namespace Go.Proofs.Ytjcmmigbkhiplaa
open Go.RowKit Go.Attic Go.ChangeShapes Go.WideShapes Go.Shelf

set_option maxRecDepth 100000 in
set_option maxHeartbeats 1000000 in
theorem none_walk (i : Int) (v : Value) (hv : ∃ ao n cap, v = .slice ao n cap) (w : World) : Calls Try.prog 6 #[.int .i64 i, v] w fun e w' => e = .returned (.bool true) ∧ Below w.heap.size w w' := by
  obtain ⟨ao, n, cap, rfl⟩ := hv
  obtain ⟨w1, hw1⟩ : ∃ w1, (w.alloc (.cells #[.pointer none, .int .i64 0, .map none, .int .i64 0] 62)).alloc (.cells #[.pointer none, .pointer (some ⟨w.heap.size, 0, none⟩)] 31) = w1 := ⟨_, rfl⟩
  have hb1 : Below w.heap.size w w1 := by rw [← hw1]; exact ((Below.refl _ w).alloc (Nat.le_refl _) _).alloc (by simp) _
  have hz1 : w1.heap.size = w.heap.size + 2 := by rw [← hw1]; simp
  have r0 : w1.cell? ⟨w.heap.size, 0, none⟩ = some (.pointer none) := by rw [← hw1]; simp
  have s0 : w1.cell? ⟨w.heap.size + 1, 0, none⟩ = some (.pointer none) := by rw [← hw1]; simp
  have s1 : w1.cell? ⟨w.heap.size + 1, 1, none⟩ = some (.pointer (some ⟨w.heap.size, 0, none⟩)) := by rw [← hw1]; simp
  have Hz1 := hide hz1
  clear hz1
  go_enter Try.func6, Try.ntmps6
  go_wp2_with fail
  go_loopw [19] (fun iv wr => ∃ k : Nat, k ≤ 2 ∧ iv = .int .i64 (k : Int) ∧ Below w1.heap.size w1 wr) (fun iv _ => 2 - (intOf iv).toNat)
  case atStart => exact ⟨0, by omega, rfl, Below.refl _ _⟩
  case round =>
    obtain ⟨k, hk, rfl, hbr⟩ := hrel
    have kk := Keeps.of_below (S := fun _ => False) hbr
    have t0 := kk.cell s0 id
    have t1 := kk.cell s1 id
    have u0 := kk.cell r0 id
    clear kk r0 s0 s1
    by_cases h2 : k < 2
    · by_cases h0 : k = 0
      · subst h0
        have hN : NoC wr (.pointer none) := .inl rfl
        go_wp2_with fail
        refine (cread_no hN i).mono ?_
        rintro e w' ⟨rfl, rfl⟩
        go_wp2_with fail
        refine (clen_no hN).mono ?_
        rintro e w' ⟨rfl, rfl⟩
        go_wp2_with fail
        refine (cwrite_no hN i 0 (.slice ao n cap)).mono ?_
        rintro e w' ⟨rfl, rfl⟩
        go_wp2_with fail
        refine (clean_no hN).mono ?_
        rintro e w2 ⟨rfl, hb2⟩
        have hN2 := NoC.mono hN hb2
        go_wp2_with fail
        refine (has_no hN2 i).mono ?_
        rintro e w' ⟨rfl, rfl⟩
        go_wp2_with fail
        refine (dirty_no hN2).mono ?_
        rintro e w3 ⟨ao3, cap3, rfl, hb3⟩
        have hb23 := hb2.trans (hb3.mono hb2.size)
        go_wp2_with fail
        go_roundw
        case rel => exact ⟨1, by omega, by go_num, hbr.trans (hb23.mono hbr.size)⟩
        case measure => simp [intOf]
      · obtain rfl : k = 1 := by omega
        have hN : NoC wr (.pointer (some ⟨w.heap.size, 0, none⟩)) := .inr ⟨_, rfl, u0⟩
        go_wp2_with fail
        refine (cread_no hN i).mono ?_
        rintro e w' ⟨rfl, rfl⟩
        go_wp2_with fail
        refine (clen_no hN).mono ?_
        rintro e w' ⟨rfl, rfl⟩
        go_wp2_with fail
        refine (cwrite_no hN i 0 (.slice ao n cap)).mono ?_
        rintro e w' ⟨rfl, rfl⟩
        go_wp2_with fail
        refine (clean_no hN).mono ?_
        rintro e w2 ⟨rfl, hb2⟩
        have hN2 := NoC.mono hN hb2
        go_wp2_with fail
        refine (has_no hN2 i).mono ?_
        rintro e w' ⟨rfl, rfl⟩
        go_wp2_with fail
        refine (dirty_no hN2).mono ?_
        rintro e w3 ⟨ao3, cap3, rfl, hb3⟩
        have hb23 := hb2.trans (hb3.mono hb2.size)
        go_wp2_with fail
        go_roundw
        case rel => exact ⟨2, by omega, by go_num, hbr.trans (hb23.mono hbr.size)⟩
        case measure => simp [intOf]
    · obtain rfl : k = 2 := by omega
      obtain ⟨w3, hw3⟩ : ∃ w3, (wr.alloc (.cells #[.slice none 0 0, .slice none 0 0, .int .i64 0, .slice none 0 0, .int .i64 0, .bool false] 68)).alloc (.cells #[.pointer none, .pointer (some ⟨wr.heap.size, 0, none⟩)] 23) = w3 := ⟨_, rfl⟩
      have hb3 : Below wr.heap.size wr w3 := by rw [← hw3]; exact ((Below.refl _ _).alloc (Nat.le_refl _) _).alloc (by simp) _
      have q0 : w3.cell? ⟨wr.heap.size, 0, none⟩ = some (.slice none 0 0) := by rw [← hw3]; simp
      have p0 : w3.cell? ⟨wr.heap.size + 1, 0, none⟩ = some (.pointer none) := by rw [← hw3]; simp
      have p1 : w3.cell? ⟨wr.heap.size + 1, 1, none⟩ = some (.pointer (some ⟨wr.heap.size, 0, none⟩)) := by rw [← hw3]; simp
      clear t0 t1 u0 hw1
      go_wp2_with fail
      rw [show ((2 : Nat) : Int) = 2 from rfl]
      go_loopw [77] (fun iv wz => ∃ k : Nat, k ≤ 2 ∧ iv = .int .i64 (k : Int) ∧ Below w3.heap.size w3 wz) (fun iv _ => 2 - (intOf iv).toNat)
      case atStart => exact ⟨0, by omega, rfl, Below.refl _ _⟩
      case round =>
        obtain ⟨j, hj, rfl, hbz⟩ := hrel
        have kz := Keeps.of_below (S := fun _ => False) hbz
        have q0' := kz.cell q0 id
        have p0' := kz.cell p0 id
        have p1' := kz.cell p1 id
        clear kz q0 p0 p1
        by_cases h2' : j < 2
        · by_cases h0 : j = 0
          · subst h0
            go_wp2_with fail
            refine (cnew_none (v := .pointer none) (.inl rfl) 9).mono ?_
            rintro e w' ⟨rfl, rfl⟩
            go_wp2_with fail
            go_roundw
            case rel => exact ⟨1, by omega, by go_num, hbz⟩
            case measure => simp [intOf]
          · obtain rfl : j = 1 := by omega
            go_wp2_with fail
            refine (cnew_none (.inr ⟨_, rfl, q0'⟩) 9).mono ?_
            rintro e w' ⟨rfl, rfl⟩
            go_wp2_with fail
            go_roundw
            case rel => exact ⟨2, by omega, by go_num, hbz⟩
            case measure => simp [intOf]
        · obtain rfl : j = 2 := by omega
          go_wp2_with fail
          refine (live_any _).mono ?_
          rintro e w4 ⟨rfl, hb4⟩
          go_wp2_with fail
          go_ret
          have hA0 : Below w.heap.size w w3 := hb1.trans ((hbr.mono hb1.size).trans (hb3.mono (Nat.le_trans hb1.size hbr.size)))
          have hA := hA0.trans (hbz.mono hA0.size)
          exact ⟨by simp, hA.trans (hb4.mono hA.size)⟩

set_option maxRecDepth 100000 in
theorem cacheNone_lifted (os : Os) (started : os.Started) (H : Type) (enc : TypeId × Value → H) :
    ReturnsInHanded {} Try.checked os 6 .any (Rows.cacheNoneSpec.pre6 enc Try.prog Try.f6 Rows.cacheNoneRow.domain false) (Rows.cacheNoneSpec.post enc Try.prog Try.f6 false true false false) := by
  refine law_frame (C := Try.checked) rfl Try.own started (by kernel_rfl) Try.func6
    (ChangeSpec.witness6 (enc := enc) (C := Try.checked) false ⟨#[], #[.int .i64 0, .slice none 0 0], []⟩ 8 (by kernel_rfl) (by kernel_rfl) (by kernel_rfl) (by kernel_rfl))
    Try.laidOut ?_ 4 rfl Try.underlying4 ?_ ?_
  · rw [Try.params6]
    intro t ht
    simp at ht
    rcases ht with rfl | rfl <;> exact ⟨by kernel_rfl, of_decide_eq_true (by kernel_rfl)⟩
  · intro ds hn
    rw [Try.params6] at hn
    match ds, hn with
    | [d1, d2], _ => rfl
  · intro W base args ds p hval0 hA hsz
    have hval : ∀ (j : Nat) t v, Try.f6.params[j]? = some t → args[j]? = some v → Value.okWide Try.prog W .any base t v := hval0
    rw [Try.params6] at hA hsz hval
    obtain ⟨v0, vs0, d0, ds0, p0, q0, hargs, rfl, rfl, h0, r0⟩ := trodAll_cons hA
    obtain ⟨v1, vs1, d1, ds1, p1, q1, rfl, rfl, rfl, h1, r1⟩ := trodAll_cons r0
    obtain ⟨rfl, rfl, rfl⟩ := trodAll_nil r1
    obtain rfl : args = #[v0, v1] := by cases args; simp_all
    obtain ⟨a0, rfl, rfl, rfl, w0⟩ := open_int Try.underlying3 (hval 0 3 v0 rfl rfl) h0
    have hb0 := bounds_i64 w0
    obtain ⟨l1, hbs1, hl1⟩ := Bs.came Try.underlying37 Try.underlying5 (by kernel_rfl) (hval 1 37 v1 rfl rfl) h1
    have hlen1 := came_len hsz (j := 1) (t := 37) rfl rfl Try.underlying37 (by kernel_rfl) hl1
    exact none_walk a0 v1 (by obtain ⟨ao, cap, e, _⟩ := hbs1; exact ⟨ao, _, cap, e⟩) W

theorem cacheNone_holds : Rows.CacheNoneSaid :=
  OpenClaim.holds_of_wide 6 Try.f6 rfl rfl rfl rfl rfl rfl rfl ⟨rfl, rfl, rfl, rfl, rfl⟩ rfl rfl rfl rfl rfl (by kernel_rfl) Try.func6 (by kernel_rfl)
    (of_decide_eq_true (by kernel_rfl)) (by unfold Func.isWrapper; first | (rw [if_pos (by decide +kernel)]; kernel_rfl) | (rw [if_neg (by decide +kernel)]; exact ⟨rfl, rfl⟩))
    (fun os started H enc _ => cacheNone_lifted os started H enc)
#print axioms cacheNone_holds

end Go.Proofs.Ytjcmmigbkhiplaa
