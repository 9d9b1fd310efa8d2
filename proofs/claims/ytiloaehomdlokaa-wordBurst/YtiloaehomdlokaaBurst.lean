/- WordBurst answers true for every slice of bytes, every place and every 32 bits: with bits turned that lie within 32 bits one behind the other word.Sum is another one, just where a bit was turned. No conditions. -/
import Derived.Test.YtiloaehomdlokaaC7
import Derived.Test.YtiloaehomdlokaaCrc
import Derived.Test.YtiloaehomdlokaaFrame
set_option linter.unusedSimpArgs false
set_option linter.unusedVariables false
namespace Go.Proofs.Ytiloaehomdlokaa
open Go.RowKit Go.Attic Go.ChangeShapes Go.WideShapes

/-- What the loop has come to behind k rounds. -/
def Flips (w : World) (B : Nat) (l : List Nat) (p : Nat) (v : Value) (k : Nat) (t : Bool) (wr : World) : Prop :=
  ∃ (cl : List Nat) (m : Nat), cl.length = l.length ∧ (∀ x ∈ cl, x < 256) ∧ m < 2 ^ k ∧ t = decide (m ≠ 0) ∧ valN cl = valN l ^^^ (m * 2 ^ p) ∧ wr.ownsRow B 5 1 v l.length (cellsB cl) ∧ Below w.heap.size w wr

theorem Flips.no {w : World} {B : Nat} {l : List Nat} {p : Nat} {v : Value} {k : Nat} {t : Bool} {wr : World} (h : Flips w B l p v k t wr) : Flips w B l p v (k + 1) t wr := by
  obtain ⟨cl, m, h1, h2, h3, h4, h5⟩ := h
  exact ⟨cl, m, h1, h2, by rw [Nat.pow_succ]; omega, h4, h5⟩

theorem add_pow_xor (m k p : Nat) (h : m < 2 ^ k) : (m + 2 ^ k) * 2 ^ p = m * 2 ^ p ^^^ 2 ^ (p + k) := by
  apply Nat.eq_of_testBit_eq
  intro i
  rw [Nat.testBit_xor, Nat.testBit_two_pow, Nat.mul_comm, Nat.testBit_two_pow_mul, Nat.mul_comm m, Nat.testBit_two_pow_mul, show m + 2 ^ k = 2 ^ k * 1 + m by omega, Nat.testBit_two_pow_mul_add _ h]
  by_cases h1 : p ≤ i
  · by_cases h2 : i - p < k
    · have h4 : ¬ p + k = i := by omega
      simp [h1, h2, h4]
    · have h3 : m.testBit (i - p) = false := Nat.testBit_lt_two_pow (Nat.lt_of_lt_of_le h (Nat.pow_le_pow_right (by omega) (by omega)))
      simp only [h1, h2, h3, if_false, decide_true, Bool.true_and, Bool.false_bne]
      have e : (1 : Nat).testBit (i - p - k) = decide (i - p - k = 0) := by
        have := Nat.testBit_two_pow (n := 0) (m := i - p - k)
        simpa [eq_comm] using this
      rw [e]
      simp only [decide_eq_decide]
      omega
  · simp [h1]; omega

theorem Flips.yes {w : World} {B : Nat} {l : List Nat} {p : Nat} {g cap : Nat} {k : Nat} {t : Bool} {wr : World} (h : Flips w B l p (.slice (some ⟨g, 0, none⟩) l.length cap) k t wr) (hB : w.heap.size ≤ B) (hg : B ≤ g) (hk : p + k < 8 * l.length) :
    ∃ x : Nat, x < 256 ∧ wr.cell? ⟨g, (p + k) / 8, none⟩ = some (.int .u8 (x : Int)) ∧ wr.frozen? ⟨g, (p + k) / 8, none⟩ = false ∧
      Flips w B l p (.slice (some ⟨g, 0, none⟩) l.length cap) (k + 1) true (wr.setCell ⟨g, (p + k) / 8, none⟩ (.int .u8 ((x ^^^ 2 ^ ((p + k) % 8) : Nat) : Int))) := by
  obtain ⟨cl, m, h1, h2, h3, h4, h5, h6, h7⟩ := h
  have hj : (p + k) / 8 < cl.length := by omega
  have hr : 2 ^ ((p + k) % 8) < 2 ^ 8 := Nat.pow_lt_pow_right (by omega) (by omega)
  have hx : cl.getD ((p + k) / 8) 0 ^^^ 2 ^ ((p + k) % 8) < 256 := Nat.xor_lt_two_pow (n := 8) (getD_lt h2 _) hr
  refine ⟨cl.getD ((p + k) / 8) 0, getD_lt h2 _, ?_, h6.frozenAt _, cl.set ((p + k) / 8) (cl.getD ((p + k) / 8) 0 ^^^ 2 ^ ((p + k) % 8)), m + 2 ^ k, by simpa using h1, ?_, by rw [Nat.pow_succ]; omega, ?_, ?_, ?_, ?_⟩
  · rw [h6.cellAt _ (by omega)]
    simp [cellsB, List.getD, hj]
  · intro x hx'
    rcases List.mem_or_eq_of_mem_set hx' with h | h
    · exact h2 x h
    · omega
  · have := Nat.two_pow_pos k
    simp
  · rw [valN_flip cl h2 _ (by omega), h5, Nat.xor_assoc, add_pow_xor m k p h3]
  · have := (h6.stored ((p + k) / 8) (.int .u8 ((cl.getD ((p + k) / 8) 0 ^^^ 2 ^ ((p + k) % 8) : Nat) : Int))).1
    rw [show cellsB (cl.set ((p + k) / 8) (cl.getD ((p + k) / 8) 0 ^^^ 2 ^ ((p + k) % 8))) = (cellsB cl).set ((p + k) / 8) (.int .u8 ((cl.getD ((p + k) / 8) 0 ^^^ 2 ^ ((p + k) % 8) : Nat) : Int)) by simp only [cellsB, List.map_set]]
    exact this
  · exact h7.setCell (p := ⟨g, (p + k) / 8, none⟩) (by simp; omega) _

theorem Flips.fin {w : World} {B : Nat} {l : List Nat} {p : Nat} {v : Value} {t : Bool} {wr : World} (h : Flips w B l p v 32 t wr) (hl : ∀ x ∈ l, x < 256) :
    ∃ cl, Bs wr v cl ∧ cl.length = l.length ∧ decide (sumN l ≠ sumN cl) = t ∧ Below w.heap.size w wr := by
  obtain ⟨cl, m, h1, h2, h3, h4, h5, h6, h7⟩ := h
  refine ⟨cl, Bs.of_owns h6 h2, h1, ?_, h7⟩
  rw [h4]
  simp only [decide_eq_decide]
  apply burst l cl p m hl h2 h1 h3 h5
  intro hm
  have hlt : valN cl ^^^ valN l < 2 ^ (8 * l.length) := Nat.xor_lt_two_pow (by have := valN_lt cl h2; rwa [h1] at this) (valN_lt l hl)
  rw [h5, Nat.xor_comm (valN l), Nat.xor_assoc, Nat.xor_self, Nat.xor_zero] at hlt
  rcases Nat.lt_or_ge p (8 * l.length) with h | h
  · exact h
  · have e1 : 2 ^ (8 * l.length) ≤ 2 ^ p := Nat.pow_le_pow_right (by omega) h
    have e2 : 1 * 2 ^ p ≤ m * 2 ^ p := Nat.mul_le_mul_right _ (by omega)
    omega

set_option maxRecDepth 100000 in
set_option maxHeartbeats 400000 in
theorem burst_walk (v : Value) (l : List Nat) (p bts : Nat) (w : World) (h : Bs w v l) (hlen : l.length ≤ 140737488351232) (hp : p < 65536) (hbts : bts < 2 ^ 32) :
    Calls Try.prog 8 #[v, .int .u16 p, .int .u32 bts] w fun e w' => e = .returned (.bool true) ∧ Below w.heap.size w w' := by
  go_enter Try.func8, Try.ntmps8
  go_wp2_with fail
  refine (live_any _).mono ?_
  rintro e w1 ⟨rfl, hb1⟩
  go_wp2_with fail
  refine (clone_any v l _ (h.mono hb1) (by omega)).mono ?_
  rintro e w2 ⟨v2, rfl, hown2, hb2⟩
  obtain ⟨ao, cap, rfl, hcap, hao⟩ := owns_form hown2
  have hB := hb1.size
  have HF0 : Hid (Flips w w1.heap.size l p (.slice ao l.length cap) 0 false w2) := ⟨l, 0, rfl, h.lt, by simp, by simp, by simp, hown2, hb1.trans (hb2.mono hB)⟩
  have Hao := hide hao
  clear hown2 hb1 hb2 hao
  go_wp2_with fail
  go_loopw [8, 15] (fun t i wr => ∃ (k : Nat) (tb : Bool), k ≤ 32 ∧ i = .int .i64 k ∧ t = .bool tb ∧ Flips w w1.heap.size l p (.slice ao l.length cap) k tb wr) (fun _ i _ => 32 - (intOf i).toNat)
  case atStart => exact ⟨0, false, by omega, rfl, rfl, HF0.out⟩
  case round =>
    obtain ⟨k, tb, hk, rfl, rfl, hF⟩ := hrel
    have HF := hide hF
    clear hF HF0
    by_cases hk32 : k < 32
    · by_cases hin : p + k < 8 * l.length
      · obtain ⟨g, rfl, hg⟩ := Hao.out (by omega)
        obtain ⟨x, hx, hc, hf, hF2⟩ := HF.out.yes hB hg hin
        have HF2 := hide hF2
        clear hF2 Hao h
        go_wp2_with fail
        · go_roundw
          case rel =>
            refine ⟨k + 1, true, by omega, by go_num, rfl, ?_⟩
            have hr : 2 ^ ((p + k) % 8) < 2 ^ 8 := Nat.pow_lt_pow_right (by omega) (by omega)
            have e1 : (2 : Int) ^ ((p + k) % 8) % 256 = ((2 ^ ((p + k) % 8) : Nat) : Int) := by
              rw [show (2 : Int) ^ ((p + k) % 8) = ((2 ^ ((p + k) % 8) : Nat) : Int) by simp]
              generalize 2 ^ ((p + k) % 8) = y at hr
              omega
            rw [e1, u8_xor_nat x _ hx hr]
            exact HF2.out
          case measure => simp [intOf]; omega
        · go_roundw
          case rel => exact ⟨k + 1, tb, by omega, by go_num, rfl, HF.out.no⟩
          case measure => simp [intOf]; omega
      · go_wp2_with fail
        all_goals
          go_roundw
          case rel => exact ⟨k + 1, tb, by omega, by go_num, rfl, HF.out.no⟩
          case measure => simp [intOf]; omega
    · obtain rfl : k = 32 := by omega
      obtain ⟨cl, hbs, hcl, hdec, hbel⟩ := HF.out.fin h.lt
      have Hd := hide hdec
      clear HF Hao hdec
      have h2 := h.below (hbel.mono (Nat.le_refl _)) (Nat.le_refl _)
      go_wp2_with fail
      refine (sum_any v l _ h2 (by omega)).mono ?_
      rintro e w3 ⟨rfl, rfl⟩
      go_wp2_with fail
      refine (sum_any _ cl _ hbs (by omega)).mono ?_
      rintro e w3 ⟨rfl, rfl⟩
      go_wp2
      go_ret
      refine ⟨?_, hbel⟩
      show Ending.returned (Value.bool (((sumN l : Int) != (sumN cl : Int)) == tb)) = _
      have e : ((sumN l : Int) != (sumN cl : Int)) = decide (sumN l ≠ sumN cl) := by
        by_cases hh : sumN l = sumN cl
        · simp [hh]
        · have : ¬ (sumN l : Int) = (sumN cl : Int) := by omega
          simp [hh, this]
      rw [e, Hd.out]
      simp

theorem burst_lifted (os : Os) (started : os.Started) (H : Type) (enc : TypeId × Value → H) :
    ReturnsInHanded {} Try.checked os 8 .any (Rows.wordBurstSpec.pre6 enc Try.prog Try.f8 Rows.wordBurstRow.domain false) (Rows.wordBurstSpec.post enc Try.prog Try.f8 false true false false) := by
  refine law_frame (C := Try.checked) rfl Try.own started (by kernel_rfl) Try.func8
    (ChangeSpec.witness6 (enc := enc) (C := Try.checked) false ⟨#[], #[.slice none 0 0, .int .u16 0, .int .u32 0], []⟩ 8 (by kernel_rfl) (by kernel_rfl) (by kernel_rfl) (by kernel_rfl))
    Try.laidOut ?_ 4 rfl Try.underlying4 ?_ ?_
  · rw [Try.params8]
    intro t ht
    simp at ht
    rcases ht with rfl | rfl | rfl <;> exact ⟨by kernel_rfl, of_decide_eq_true (by kernel_rfl)⟩
  · intro ds hn
    rw [Try.params8] at hn
    match ds, hn with
    | [d1, d2, d3], _ => rfl
  · intro W base args ds p hval0 hA hsz
    have hval : ∀ (j : Nat) t v, Try.f8.params[j]? = some t → args[j]? = some v → Value.okWide Try.prog W .any base t v := hval0
    rw [Try.params8] at hA hsz hval
    obtain ⟨v0, vs0, d0, ds0, p0, q0, hargs, rfl, rfl, h0, r0⟩ := trodAll_cons hA
    obtain ⟨v1, vs1, d1, ds1, p1, q1, rfl, rfl, rfl, h1, r1⟩ := trodAll_cons r0
    obtain ⟨v2, vs2, d2, ds2, p2, q2, rfl, rfl, rfl, h2, r2⟩ := trodAll_cons r1
    obtain ⟨rfl, rfl, rfl⟩ := trodAll_nil r2
    obtain rfl : args = #[v0, v1, v2] := by cases args; simp_all
    obtain ⟨l, hbs, hl⟩ := Bs.came Try.underlying22 Try.underlying5 (by kernel_rfl) (hval 0 22 v0 rfl rfl) h0
    have hlen := came_len hsz (j := 0) (t := 22) rfl rfl Try.underlying22 (by kernel_rfl) hl
    obtain ⟨a1, rfl, rfl, rfl, w1⟩ := open_int Try.underlying60 (hval 1 60 v1 rfl rfl) h1
    obtain ⟨a2, rfl, rfl, rfl, w2⟩ := open_int Try.underlying40 (hval 2 40 v2 rfl rfl) h2
    have hb1 := bounds_u16 w1
    have hb2 := bounds_u32 w2
    obtain ⟨n1, rfl⟩ := Int.eq_ofNat_of_zero_le hb1.1
    obtain ⟨n2, rfl⟩ := Int.eq_ofNat_of_zero_le hb2.1
    exact burst_walk v0 l n1 n2 W hbs hlen (by omega) (by omega)

theorem wordBurst_holds : Rows.WordBurstSaid :=
  OpenClaim.holds_of_wide 8 Try.f8 rfl rfl rfl rfl rfl rfl rfl ⟨rfl, rfl, rfl, rfl, rfl⟩ rfl rfl rfl rfl rfl (by kernel_rfl) Try.func8 (by kernel_rfl)
    (of_decide_eq_true (by kernel_rfl)) (by unfold Func.isWrapper; first | (rw [if_pos (by decide +kernel)]; kernel_rfl) | (rw [if_neg (by decide +kernel)]; exact ⟨rfl, rfl⟩))
    (fun os started H enc _ => burst_lifted os started H enc)
#print axioms wordBurst_holds
end Go.Proofs.Ytiloaehomdlokaa
