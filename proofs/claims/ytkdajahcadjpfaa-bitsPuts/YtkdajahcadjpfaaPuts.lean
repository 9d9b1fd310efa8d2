/- BitsPuts answers true for every row of bytes, every place and both bits: bits.Put, bits.Get and bits.Count answer as the document's own functions do; what is handed in is left as it is. No conditions. -/
import Derived.Test.YtkdajahcadjpfaaC6
import Derived.Test.YtkdajahcadjpfaaFrame
set_option linter.unusedSimpArgs false
set_option linter.unusedVariables false
namespace Go.Proofs.Ytkdajahcadjpfaa
open Go.RowKit Go.Attic Go.ChangeShapes Go.WideShapes

theorem fewB_one' (l : List Nat) : fewB [l] = decide (l.length ≤ 3000) := by simp [fewB]

/-- One byte of a row stored anew. -/
theorem owns_byte {w : World} {base : Nat} {n cap g : Nat} {l : List Nat} (h : w.ownsRow base 5 1 (.slice (some ⟨g, 0, none⟩) n cap) n (cellsB l)) (k x : Nat) :
    (w.setCell ⟨g, k, none⟩ (.int .u8 (x : Int))).ownsRow base 5 1 (.slice (some ⟨g, 0, none⟩) n cap) n (cellsB (l.set k x)) := by
  have := (h.stored k (.int .u8 (x : Int))).1
  rw [show cellsB (l.set k x) = (cellsB l).set k (.int .u8 (x : Int)) by simp only [cellsB, List.map_set]]
  exact this

set_option maxRecDepth 100000 in
set_option maxHeartbeats 1000000 in
theorem puts_walk (v : Value) (l : List Nat) (i : Int) (is : Bool) (w : World) (h : Bs w v l) (hlen : l.length ≤ 140737488351232) (hi : i ≤ 9223372036854775807) :
    Calls Try.prog 4 #[v, .int .i64 i, .bool is] w fun e w' => e = .returned (.bool true) ∧ Below w.heap.size w w' := by
  have hx := h.lt
  have hF : ∀ w1 : World, Below w.heap.size w w1 → Calls Try.prog 11 #[.slice (some ⟨w1.heap.size, 0, none⟩) 1 1] (w1.alloc (.cells #[v] 22)) fun e w' => e = .returned (.bool (decide (l.length ≤ 3000))) ∧ w1.alloc (.cells #[v] 22) = w' := by
    intro w1 hb
    have := few_any _ [l] _ (Bss.one 22 (h.mono hb)) (by simp)
    rwa [fewB_one'] at this
  have HF := hide hF
  clear hF
  obtain ⟨ao, cap, rfl⟩ : ∃ ao cap, v = .slice ao l.length cap := by obtain ⟨ao, cap, e, _⟩ := h; exact ⟨ao, cap, e⟩
  go_enter Try.func4, Try.ntmps4
  go_wp2_with fail
  refine (begun_any _).mono ?_
  rintro e w1 ⟨rfl, hb1⟩
  have hz1 := hb1.size
  go_wp2_with fail
  refine (HF.out w1 hb1).mono ?_
  rintro e w2 ⟨rfl, rfl⟩
  have hb2 : Below w.heap.size w (w1.alloc (.cells #[.slice ao l.length cap] 22)) := hb1.alloc hz1 _
  have Hb1 := hide hb1
  clear hb1 HF
  by_cases h3 : l.length ≤ 3000
  case neg =>
    have hd : decide (l.length ≤ 3000) = false := by simpa using h3
    rw [hd]
    go_wp2_with fail
    refine (begun_any _).mono ?_
    rintro e w3 ⟨rfl, hb3⟩
    go_wp2_with fail
    go_ret
    exact ⟨rfl, hb2.trans (hb3.mono hb2.size)⟩
  have hd : decide (l.length ≤ 3000) = true := by simpa using h3
  rw [hd]
  have h2 := h.mono hb2
  have hb2s := hb2.size
  have Hb2 := hide hb2
  clear hb2 Hb1
  go_wp2_with fail
  refine (clone_any _ l _ h2 (by omega)).mono ?_
  rintro e w3 ⟨vw, rfl, hown3, hb3⟩
  have hwas3 := Bs.of_owns hown3 hx
  have h3' := h2.mono hb3
  have Hb3 : Hid (Below w.heap.size w w3) := Hb2.out.trans (hb3.mono hb2s)
  clear hown3 hb3 h2 Hb2 hb2s h
  go_wp2_with fail
  refine (put_any _ l i is _ h3' (by omega)).mono ?_
  rintro e w4 ⟨vx, rfl, hown4, hb4⟩
  have hpx := putI_lt hx i is
  have hpl := putI_length l i is
  rw [hpl] at hown4
  have hbs4 := Bs.of_owns hown4 hpx
  have h4 := h3'.mono hb4
  go_wp2_with fail
  refine (rput_any _ l i is _ h4 (by omega) hi).mono ?_
  rintro e w5 ⟨vy, rfl, hown5, hb5⟩
  rw [hpl] at hown5
  have hbs5 := Bs.of_owns hown5 hpx
  have h5 := h4.mono hb5
  have hwas5 := (hwas3.mono hb4).mono hb5
  have hown5' := owns_below hown4 hb5 (Nat.le_refl _)
  have hz4 := hb4.size
  have Hb5 : Hid (Below w3.heap.size w3 w5) := hb4.trans (hb5.mono hz4)
  have hbs45 := hbs4.mono hb5
  clear hbs4 h4 hown4 hown5 hb4 hb5
  go_wp2_with fail
  refine (equal_any _ _ _ _ _ hbs45 hbs5).mono ?_
  rintro e w6 ⟨rfl, rfl⟩
  rw [show decide (putI l i is = putI l i is) = true by simp]
  go_wp2_with fail
  refine (get_any _ l i _ h5 (by omega)).mono ?_
  rintro e w6 ⟨rfl, rfl⟩
  go_wp2_with fail
  refine (rget_any _ l i _ h5 (by omega) hi).mono ?_
  rintro e w6 ⟨rfl, rfl⟩
  go_wp2_with fail
  refine (count_any _ l _ h5 (by omega)).mono ?_
  rintro e w6 ⟨rfl, rfl⟩
  go_wp2_with fail
  refine (rcount_any _ l _ h5 (by omega)).mono ?_
  rintro e w6 ⟨rfl, rfl⟩
  go_wp2_with fail
  refine (equal_any _ _ l l _ h5 hwas5).mono ?_
  rintro e w6 ⟨rfl, rfl⟩
  rw [show decide (l = l) = true by simp]
  obtain ⟨ao5, cap5, rfl, hcap5, hao5⟩ := owns_form hown5'
  have Hown5 : Hid (∃ cl : List Nat, cl.length = l.length ∧ (∀ x ∈ cl, x < 256) ∧ w5.ownsRow w3.heap.size 5 1 (.slice ao5 l.length cap5) l.length (cellsB cl)) := ⟨_, hpl, hpx, hown5'⟩
  have Hao5 := hide hao5
  clear hown5' hbs45 hbs5 hao5 hpl hpx h5 hwas5
  go_wp2_with fail
  go_loopw [56, 9] (fun j _ wr => ∃ k : Nat, k ≤ l.length ∧ j = .int .i64 k ∧ (∃ cl : List Nat, cl.length = l.length ∧ (∀ x ∈ cl, x < 256) ∧ wr.ownsRow w3.heap.size 5 1 (.slice ao5 l.length cap5) l.length (cellsB cl)) ∧ Below w3.heap.size w3 wr) (fun j _ _ => l.length - (intOf j).toNat)
  case atStart => exact ⟨0, Nat.zero_le _, rfl, Hown5.out, Hb5.out⟩
  case round =>
    obtain ⟨k, hk, rfl, ⟨cl, hcl, hclx, hown⟩, hb⟩ := hrel
    clear Hown5 Hb5
    by_cases hkn : k < l.length
    · obtain ⟨g, rfl, hg⟩ := Hao5.out (by omega)
      have hc := owns_cell hown hcl.symm k (by omega)
      have hf := hown.frozenAt k
      have hcx := getD_lt hclx k
      generalize cl.getD k 0 = c at hc hcx
      have hst := owns_byte hown k (c ^^^ 255)
      have Hst := hide hst
      have Hcl := hide hcl
      have Hb : Hid _ := hb.setCell (p := ⟨g, k, none⟩) hg (.int .u8 ((c ^^^ 255 : Nat) : Int))
      clear hst hown hcl hb
      go_wp2_with fail
      rw [show bits BinOp.xor IntKind.u8 (c : Int) 255 = ((c ^^^ 255 : Nat) : Int) from u8_xor_nat c 255 hcx (by omega)]
      go_roundw
      case rel =>
        refine ⟨k + 1, by omega, by go_num, ⟨cl.set k (c ^^^ 255), by rw [List.length_set]; exact Hcl.out, ?_, Hst.out⟩, Hb.out⟩
        intro x hx'
        rcases List.mem_or_eq_of_mem_set hx' with h | h
        · exact hclx x h
        · rw [h]; exact Nat.xor_lt_two_pow (n := 8) hcx (by omega)
      case measure => simp [intOf]; omega
    · have hw1 := hwas3.below hb (Nat.le_refl _)
      have hw2 := h3'.below hb (Nat.le_refl _)
      have Hbf : Hid (Below w.heap.size w wr) := Hb3.out.trans (hb.mono Hb3.out.size)
      clear hb hown
      go_wp2_with fail
      refine (equal_any _ _ l l _ hw2 hw1).mono ?_
      rintro e w6 ⟨rfl, rfl⟩
      go_wp2_with fail
      go_ret
      exact ⟨by simp, Hbf.out⟩

theorem bitsPuts_lifted (os : Os) (started : os.Started) (H : Type) (enc : TypeId × Value → H) :
    ReturnsInHanded {} Try.checked os 4 .any (Rows.bitsPutsSpec.pre6 enc Try.prog Try.f4 Rows.bitsPutsRow.domain false) (Rows.bitsPutsSpec.post enc Try.prog Try.f4 false true false false) := by
  refine law_frame (C := Try.checked) rfl Try.own started (by kernel_rfl) Try.func4
    (ChangeSpec.witness6 (enc := enc) (C := Try.checked) false ⟨#[], #[.slice none 0 0, .int .i64 0, .bool false], []⟩ 8 (by kernel_rfl) (by kernel_rfl) (by kernel_rfl) (by kernel_rfl))
    Try.laidOut ?_ 4 rfl Try.underlying4 ?_ ?_
  · rw [Try.params4]
    intro t ht
    simp at ht
    rcases ht with rfl | rfl | rfl <;> exact ⟨by kernel_rfl, of_decide_eq_true (by kernel_rfl)⟩
  · intro ds hn
    rw [Try.params4] at hn
    match ds, hn with
    | [d1, d2, d3], _ => rfl
  · intro W base args ds p hval0 hA hsz
    have hval : ∀ (j : Nat) t v, Try.f4.params[j]? = some t → args[j]? = some v → Value.okWide Try.prog W .any base t v := hval0
    rw [Try.params4] at hA hsz hval
    obtain ⟨v0, vs0, d0, ds0, p0, q0, hargs, rfl, rfl, h0, r0⟩ := trodAll_cons hA
    obtain ⟨v1, vs1, d1, ds1, p1, q1, rfl, rfl, rfl, h1, r1⟩ := trodAll_cons r0
    obtain ⟨v2, vs2, d2, ds2, p2, q2, rfl, rfl, rfl, h2, r2⟩ := trodAll_cons r1
    obtain ⟨rfl, rfl, rfl⟩ := trodAll_nil r2
    obtain rfl : args = #[v0, v1, v2] := by cases args; simp_all
    obtain ⟨l0, hbs0, hl0⟩ := Bs.came Try.underlying22 Try.underlying5 (by kernel_rfl) (hval 0 22 v0 rfl rfl) h0
    have hlen0 := came_len hsz (j := 0) (t := 22) rfl rfl Try.underlying22 (by kernel_rfl) hl0
    obtain ⟨a1, rfl, rfl, rfl, w1⟩ := open_int Try.underlying3 (hval 1 3 v1 rfl rfl) h1
    have hb1 := bounds_i64 w1
    obtain ⟨b2, rfl, rfl, rfl⟩ := open_bool Try.underlying4 (hval 2 4 v2 rfl rfl) h2
    exact puts_walk v0 l0 a1 b2 W hbs0 hlen0 (by omega)

theorem bitsPuts_holds : Rows.BitsPutsSaid :=
  OpenClaim.holds_of_wide 4 Try.f4 rfl rfl rfl rfl rfl rfl rfl ⟨rfl, rfl, rfl, rfl, rfl⟩ rfl rfl rfl rfl rfl (by kernel_rfl) Try.func4 (by kernel_rfl)
    (of_decide_eq_true (by kernel_rfl)) (by unfold Func.isWrapper; first | (rw [if_pos (by decide +kernel)]; kernel_rfl) | (rw [if_neg (by decide +kernel)]; exact ⟨rfl, rfl⟩))
    (fun os started H enc _ => bitsPuts_lifted os started H enc)
#print axioms bitsPuts_holds
end Go.Proofs.Ytkdajahcadjpfaa
