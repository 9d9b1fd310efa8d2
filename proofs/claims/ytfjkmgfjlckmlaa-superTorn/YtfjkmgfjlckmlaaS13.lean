/- Contracts: Bytes, Parse and Choose of any bytes, and the document's. -/
import Derived.Test.YtfjkmgfjlckmlaaS4
import Derived.Test.YtfjkmgfjlckmlaaS9
import Derived.Test.YtfjkmgfjlckmlaaS10
import Derived.Test.YtfjkmgfjlckmlaaS12
set_option linter.unusedSimpArgs false
set_option linter.unusedVariables false
namespace Go.Proofs.Ytfjkmgfjlckmlaa
open Go.RowKit Go.Attic

theorem bytes_yes (ep b l d x h : Nat) (w : World) (k : okS ep b l d x h) : Calls Try.prog 17 #[.agg #[.int .i64 (ep : Nat), .int .i64 (b : Nat), .int .i64 (l : Nat), .int .i64 (d : Nat), .int .i64 (x : Nat), .int .i64 (h : Nat)]] w (NewBsE w (blockL ep b l d x h) 0) := by
  have r := okS_range k
  exact bytes_of ep b l d x h w k (fun w => summed_yes ep b l d x h w (by omega) (by omega) (by omega) (by omega) (by omega) (by omega))

theorem parse_yes (v : Value) (L : List Nat) (w : World) (hv : Bs w v L) (ep b l d x h : Nat) (k : IsS L ep b l d x h) :
    Calls Try.prog 19 #[v] w fun e w' => e = .returned (.tuple #[.agg #[.int .i64 (ep : Nat), .int .i64 (b : Nat), .int .i64 (l : Nat), .int .i64 (d : Nat), .int .i64 (x : Nat), .int .i64 (h : Nat)], .int .i64 0]) ∧ Below w.heap.size w w' := by
  obtain ⟨f0, f1, f2, f3, f4, f5⟩ := fields_isS k
  have hl := k.len
  refine parse_eq v L w hv ep b l d x h (fun w hv => ?_) (blockL ep b l d x h) 0 (fun w => bytes_yes ep b l d x h w k.1) (blockL_lt ep b l d x h) rfl (decide_eq_true k.2)
  have := fields_any v L w hv (by omega)
  rw [f0, f1, f2, f3, f4, f5] at this
  exact this

theorem parse_no (v : Value) (L : List Nat) (w : World) (hv : Bs w v L) (hlen : L.length ≤ 140737488355328) (k : NoS L) :
    Calls Try.prog 19 #[v] w fun e w' => e = .returned (.tuple #[.agg #[.int .i64 0, .int .i64 0, .int .i64 0, .int .i64 0, .int .i64 0, .int .i64 0], .int .i64 50]) ∧ Below w.heap.size w w' := by
  have hf := fun w hv => fields_any v L w hv hlen
  have kb : -9223372036854775808 ≤ fB L ∧ fB L ≤ 9223372036854775807 := wrap64_range _
  generalize fEp L = p0 at *
  generalize fB L = p1 at *
  generalize fL L = p2 at *
  generalize fD L = p3 at *
  generalize fX L = p4 at *
  generalize fH L = p5 at *
  by_cases ko : okS p0 p1 p2 p3 p4 p5
  · obtain ⟨ep, b, l, d, x, h, rfl, rfl, rfl, rfl, rfl, rfl⟩ := okS_nat ko
    exact parse_ne v L w hv ep b l d x h hf (blockL ep b l d x h) 0 (fun w => bytes_yes ep b l d x h w ko) (blockL_lt ep b l d x h) rfl (decide_eq_false (fun e => k ep b l d x h ⟨ko, e⟩))
  · have kc : chkS p0 p1 p2 p3 p4 p5 ≠ 0 := fun e => ko (chkS_zero e)
    exact parse_err v L w hv p0 p1 p2 p3 p4 p5 hf [] _ (fun w => bytes_no p0 p1 p2 p3 p4 p5 w kb kc) (by simp) (by simpa using kc)

/-- What any bytes are told to be. -/
def Par (L : List Nat) (q0 q1 q2 q3 q4 q5 er : Int) : Prop :=
  (∃ ep b l d x h : Nat, IsS L ep b l d x h ∧ q0 = ep ∧ q1 = b ∧ q2 = l ∧ q3 = d ∧ q4 = x ∧ q5 = h ∧ er = 0) ∨ (NoS L ∧ q0 = 0 ∧ q1 = 0 ∧ q2 = 0 ∧ q3 = 0 ∧ q4 = 0 ∧ q5 = 0 ∧ er = 50)

theorem par_ex (L : List Nat) : ∃ q0 q1 q2 q3 q4 q5 er : Int, Par L q0 q1 q2 q3 q4 q5 er := by
  by_cases k : ∃ ep b l d x h : Nat, IsS L ep b l d x h
  · obtain ⟨ep, b, l, d, x, h, k⟩ := k
    exact ⟨ep, b, l, d, x, h, 0, .inl ⟨ep, b, l, d, x, h, k, rfl, rfl, rfl, rfl, rfl, rfl, rfl⟩⟩
  · exact ⟨0, 0, 0, 0, 0, 0, 50, .inr ⟨fun ep b l d x h kk => k ⟨ep, b, l, d, x, h, kk⟩, rfl, rfl, rfl, rfl, rfl, rfl, rfl⟩⟩

theorem Par.pos {L : List Nat} {q0 q1 q2 q3 q4 q5 er : Int} (k : Par L q0 q1 q2 q3 q4 q5 er) (h0 : er = 0) : 1 ≤ q0 := by
  rcases k with ⟨ep, b, l, d, x, h, k, rfl, _⟩ | ⟨_, _, _, _, _, _, _, h⟩
  · have := okS_range k.1; omega
  · omega
theorem Par.er {L : List Nat} {q0 q1 q2 q3 q4 q5 er : Int} (k : Par L q0 q1 q2 q3 q4 q5 er) : er = 0 ∨ er = 50 := by
  rcases k with ⟨ep, b, l, d, x, h, k, _, _, _, _, _, _, h⟩ | ⟨_, _, _, _, _, _, _, h⟩
  · exact .inl h
  · exact .inr h

theorem parse_par {L : List Nat} {q0 q1 q2 q3 q4 q5 er : Int} (k : Par L q0 q1 q2 q3 q4 q5 er) (v : Value) (hlen : L.length ≤ 140737488355328) (w : World) (hv : Bs w v L) :
    Calls Try.prog 19 #[v] w fun e w' => e = .returned (.tuple #[.agg #[.int .i64 q0, .int .i64 q1, .int .i64 q2, .int .i64 q3, .int .i64 q4, .int .i64 q5], .int .i64 er]) ∧ Below w.heap.size w w' := by
  rcases k with ⟨ep, b, l, d, x, h, k, rfl, rfl, rfl, rfl, rfl, rfl, rfl⟩ | ⟨k, rfl, rfl, rfl, rfl, rfl, rfl, rfl⟩
  · exact parse_yes v L w hv ep b l d x h k
  · exact parse_no v L w hv hlen k
theorem rparse_par {L : List Nat} {q0 q1 q2 q3 q4 q5 er : Int} (k : Par L q0 q1 q2 q3 q4 q5 er) (v : Value) (hlen : L.length ≤ 140737488355328) (w : World) (hv : Bs w v L) :
    Calls Try.prog 20 #[v] w fun e w' => e = .returned (.tuple #[.agg #[.int .i64 q0, .int .i64 q1, .int .i64 q2, .int .i64 q3, .int .i64 q4, .int .i64 q5], .int .i64 er]) ∧ Below w.heap.size w w' := by
  rcases k with ⟨ep, b, l, d, x, h, k, rfl, rfl, rfl, rfl, rfl, rfl, rfl⟩ | ⟨k, rfl, rfl, rfl, rfl, rfl, rfl, rfl⟩
  · exact rparse_yes v L w hv ep b l d x h k
  · exact rparse_no v L w hv hlen k

theorem stand_in {L : List Nat} {q0 q1 q2 q3 q4 q5 er : Int} (k : Par L q0 q1 q2 q3 q4 q5 er) (sl : Int) (h0 : er = 0) (hs : slotS q0 = sl) (v : Value) (hlen : L.length ≤ 140737488355328) (w : World) (hv : Bs w v L) :
    Calls Try.prog 35 #[v, .int .i64 sl] w fun e w' => e = .returned (.agg #[.int .i64 q0, .int .i64 q1, .int .i64 q2, .int .i64 q3, .int .i64 q4, .int .i64 q5]) ∧ Below w.heap.size w w' :=
  stand_yes v L sl w hv q0 q1 q2 q3 q4 q5 er (fun w hv => parse_par k v hlen w hv) h0 (by simpa using hs)
theorem stand_out {L : List Nat} {q0 q1 q2 q3 q4 q5 er : Int} (k : Par L q0 q1 q2 q3 q4 q5 er) (sl : Int) (hs : ¬ (er = 0 ∧ slotS q0 = sl)) (v : Value) (hlen : L.length ≤ 140737488355328) (w : World) (hv : Bs w v L) :
    Calls Try.prog 35 #[v, .int .i64 sl] w fun e w' => e = .returned (.agg #[.int .i64 0, .int .i64 0, .int .i64 0, .int .i64 0, .int .i64 0, .int .i64 0]) ∧ Below w.heap.size w w' := by
  by_cases h0 : er = 0
  · exact stand_no v L sl w hv q0 q1 q2 q3 q4 q5 er (fun w hv => parse_par k v hlen w hv) h0 (by simpa using fun e => hs ⟨h0, e⟩)
  · exact stand_err v L sl w hv q0 q1 q2 q3 q4 q5 er (fun w hv => parse_par k v hlen w hv) (by simpa using h0)

theorem slotS_two (n : Int) (h : 1 ≤ n) : slotS n = n % 2 := if_neg (by omega)

/-- Choose of any two rows of bytes: the same answer on both sides. -/
theorem choose_both (L M : List Nat) (hL : L.length ≤ 140737488355328) (hM : M.length ≤ 140737488355328) : ∃ c0 c1 c2 c3 c4 c5 ec : Int,
    (∀ (v u : Value) (w : World), Bs w v L → Bs w u M → Calls Try.prog 23 #[v, u] w fun e w' => e = .returned (.tuple #[.agg #[.int .i64 c0, .int .i64 c1, .int .i64 c2, .int .i64 c3, .int .i64 c4, .int .i64 c5], .int .i64 ec]) ∧ Below w.heap.size w w') ∧
    (∀ (v u : Value) (w : World), Bs w v L → Bs w u M → Calls Try.prog 24 #[v, u] w fun e w' => e = .returned (.tuple #[.agg #[.int .i64 c0, .int .i64 c1, .int .i64 c2, .int .i64 c3, .int .i64 c4, .int .i64 c5], .int .i64 ec]) ∧ Below w.heap.size w w') := by
  obtain ⟨q0, q1, q2, q3, q4, q5, ex, kq⟩ := par_ex L
  obtain ⟨r0, r1, r2, r3, r4, r5, ey, kr⟩ := par_ex M
  by_cases hx : ex = 0 ∧ slotS q0 = 0
  · have px := kq.pos hx.1
    by_cases hy : ey = 0 ∧ slotS r0 = 1
    · have py := kr.pos hy.1
      have ex1 := hx.2
      have ey1 := hy.2
      rw [slotS_two _ px] at ex1
      rw [slotS_two _ py] at ey1
      by_cases hc : r0 < q0
      · refine ⟨q0, q1, q2, q3, q4, q5, 0, fun v u w hv hu => ?_, fun v u w hv hu => ?_⟩
        · exact choose_a v u L M w hv hu _ _ _ _ _ _ _ _ _ _ _ _ (fun w hv => stand_in kq 0 hx.1 hx.2 v hL w hv) (fun w hu => stand_in kr 1 hy.1 hy.2 u hM w hu) (by omega) (by omega)
        · exact rchoose_YYq v u L M w hv hu _ _ _ _ _ _ _ _ _ _ _ _ _ _ (fun w hv => rparse_par kq v hL w hv) (fun w hu => rparse_par kr u hM w hu) hx.1 (by simpa using hx.2) hy.1 (by simpa using hy.2) hc
      · refine ⟨r0, r1, r2, r3, r4, r5, 0, fun v u w hv hu => ?_, fun v u w hv hu => ?_⟩
        · exact choose_b v u L M w hv hu _ _ _ _ _ _ _ _ _ _ _ _ (fun w hv => stand_in kq 0 hx.1 hx.2 v hL w hv) (fun w hu => stand_in kr 1 hy.1 hy.2 u hM w hu) (by omega) (by omega)
        · exact rchoose_YYr v u L M w hv hu _ _ _ _ _ _ _ _ _ _ _ _ _ _ (fun w hv => rparse_par kq v hL w hv) (fun w hu => rparse_par kr u hM w hu) hx.1 (by simpa using hx.2) hy.1 (by simpa using hy.2) (by omega)
    · refine ⟨q0, q1, q2, q3, q4, q5, 0, fun v u w hv hu => ?_, fun v u w hv hu => ?_⟩
      · exact choose_a v u L M w hv hu _ _ _ _ _ _ _ _ _ _ _ _ (fun w hv => stand_in kq 0 hx.1 hx.2 v hL w hv) (fun w hu => stand_out kr 1 hy u hM w hu) (by omega) (by omega)
      · by_cases h0 : ey = 0
        · exact rchoose_YN v u L M w hv hu _ _ _ _ _ _ _ _ _ _ _ _ _ _ (fun w hv => rparse_par kq v hL w hv) (fun w hu => rparse_par kr u hM w hu) hx.1 (by simpa using hx.2) h0 (by simpa using fun e => hy ⟨h0, e⟩)
        · exact rchoose_YE v u L M w hv hu _ _ _ _ _ _ _ _ _ _ _ _ _ _ (fun w hv => rparse_par kq v hL w hv) (fun w hu => rparse_par kr u hM w hu) hx.1 (by simpa using hx.2) (by simpa using h0)
  · by_cases hy : ey = 0 ∧ slotS r0 = 1
    · have py := kr.pos hy.1
      refine ⟨r0, r1, r2, r3, r4, r5, 0, fun v u w hv hu => ?_, fun v u w hv hu => ?_⟩
      · exact choose_b v u L M w hv hu _ _ _ _ _ _ _ _ _ _ _ _ (fun w hv => stand_out kq 0 hx v hL w hv) (fun w hu => stand_in kr 1 hy.1 hy.2 u hM w hu) (by omega) (by omega)
      · by_cases h0 : ex = 0
        · exact rchoose_NY v u L M w hv hu _ _ _ _ _ _ _ _ _ _ _ _ _ _ (fun w hv => rparse_par kq v hL w hv) (fun w hu => rparse_par kr u hM w hu) h0 (by simpa using fun e => hx ⟨h0, e⟩) hy.1 (by simpa using hy.2)
        · exact rchoose_EY v u L M w hv hu _ _ _ _ _ _ _ _ _ _ _ _ _ _ (fun w hv => rparse_par kq v hL w hv) (fun w hu => rparse_par kr u hM w hu) (by simpa using h0) hy.1 (by simpa using hy.2)
    · refine ⟨0, 0, 0, 0, 0, 0, 50, fun v u w hv hu => ?_, fun v u w hv hu => ?_⟩
      · exact choose_none v u L M w hv hu (fun w hv => stand_out kq 0 hx v hL w hv) (fun w hu => stand_out kr 1 hy u hM w hu)
      · by_cases h0 : ex = 0
        · by_cases h1 : ey = 0
          · exact rchoose_NN v u L M w hv hu _ _ _ _ _ _ _ _ _ _ _ _ _ _ (fun w hv => rparse_par kq v hL w hv) (fun w hu => rparse_par kr u hM w hu) h0 (by simpa using fun e => hx ⟨h0, e⟩) h1 (by simpa using fun e => hy ⟨h1, e⟩)
          · exact rchoose_NE v u L M w hv hu _ _ _ _ _ _ _ _ _ _ _ _ _ _ (fun w hv => rparse_par kq v hL w hv) (fun w hu => rparse_par kr u hM w hu) h0 (by simpa using fun e => hx ⟨h0, e⟩) (by simpa using h1)
        · by_cases h1 : ey = 0
          · exact rchoose_EN v u L M w hv hu _ _ _ _ _ _ _ _ _ _ _ _ _ _ (fun w hv => rparse_par kq v hL w hv) (fun w hu => rparse_par kr u hM w hu) (by simpa using h0) h1 (by simpa using fun e => hy ⟨h1, e⟩)
          · exact rchoose_EE v u L M w hv hu _ _ _ _ _ _ _ _ _ _ _ _ _ _ (fun w hv => rparse_par kq v hL w hv) (fun w hu => rparse_par kr u hM w hu) (by simpa using h0) (by simpa using h1)

end Go.Proofs.Ytfjkmgfjlckmlaa
