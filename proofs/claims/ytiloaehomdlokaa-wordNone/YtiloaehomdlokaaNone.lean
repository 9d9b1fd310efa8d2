/- WordNone answers true for every slice of bytes and every number: a reader that no call made answers ErrMade, 0 and nothing; what is handed in is not written to, and what is told is nobody's else. No conditions. -/
import Derived.Test.YtiloaehomdlokaaR3
import Derived.Test.YtiloaehomdlokaaSums
set_option linter.unusedSimpArgs false
set_option linter.unusedVariables false
namespace Go.Proofs.Ytiloaehomdlokaa
open Go.RowKit Go.Attic Go.ChangeShapes Go.WideShapes

/-- A row of bytes that is the call's own, whatever it holds. -/
def Some5 (w : World) (base : Nat) (v : Value) (n : Nat) : Prop := ∃ lx : List Nat, lx.length = n ∧ (∀ x ∈ lx, x < 256) ∧ w.ownsRow base 5 1 v n (cellsB lx)

theorem Some5.step {w : World} {base g n cap k : Nat} (h : Some5 w base (.slice (some ⟨g, 0, none⟩) n cap) n) (hk : k < n) :
    ∃ x : Nat, x < 256 ∧ w.cell? ⟨g, k, none⟩ = some (.int .u8 (x : Int)) ∧ w.frozen? ⟨g, k, none⟩ = false ∧ Some5 (w.setCell ⟨g, k, none⟩ (.int .u8 ((x ^^^ 255 : Nat) : Int))) base (.slice (some ⟨g, 0, none⟩) n cap) n := by
  obtain ⟨lx, h1, h2, h3⟩ := h
  have hx : lx.getD k 0 ^^^ 255 < 256 := Nat.xor_lt_two_pow (n := 8) (getD_lt h2 _) (by omega)
  refine ⟨lx.getD k 0, getD_lt h2 _, ?_, h3.frozenAt _, lx.set k (lx.getD k 0 ^^^ 255), by simpa using h1, ?_, ?_⟩
  · rw [h3.cellAt _ (by omega)]
    simp [cellsB, List.getD, show k < lx.length by omega]
  · intro x hx'
    rcases List.mem_or_eq_of_mem_set hx' with h | h
    · exact h2 x h
    · omega
  · have := (h3.stored k (.int .u8 ((lx.getD k 0 ^^^ 255 : Nat) : Int))).1
    rw [show cellsB (lx.set k (lx.getD k 0 ^^^ 255)) = (cellsB lx).set k (.int .u8 ((lx.getD k 0 ^^^ 255 : Nat) : Int)) by simp only [cellsB, List.map_set]]
    exact this

theorem Rd.keptO {w w' : World} {g : Nat} {d r : Option Nat} {l : List Nat} {x : Int} (h : Rd w g d l x) (hg : w.grownBy w' r) (h1 : r ≠ some g) (h2 : ∀ b, d = some b → r ≠ some b) : Rd w' g d l x := by
  cases r with
  | none =>
    have : w.grownBy w' (some w.heap.size) := ⟨hg.os, hg.tape, hg.output, hg.size, fun k hk _ => hg.block k hk (by simp)⟩
    have hlt := World.block_lt_of_cell? w _ h.c1
    simp at hlt
    refine h.mono ⟨hg.os, hg.tape, hg.output, hg.size, fun k hk => hg.block k hk (by simp)⟩
  | some k =>
    refine h.kept hg (fun e => h1 (by rw [e])) ?_
    intro e
    exact h2 k e rfl

theorem owns_keptO {w w' : World} {base : Nat} {v : Value} {n : Nat} {xs : List Value} {r : Option Nat} (h : w.ownsRow base 5 1 v n xs) (hg : w.grownBy w' r) (hne : ∀ k, v.ownBlock = some k → r ≠ some k) : w'.ownsRow base 5 1 v n xs := by
  refine h.kept hg ?_
  cases hv : v.ownBlock with
  | none => exact .inl rfl
  | some k => exact .inr (fun e => hne k hv e.symm)

theorem bytes_all (l : List Nat) : bytesS l 0 l.length = (l, [], 0) := by simp [bytesS]

set_option maxRecDepth 100000 in
set_option maxHeartbeats 1000000 in
theorem none_walk (v : Value) (l : List Nat) (n : Int) (w : World) (h : Bs w v l) (hlen : l.length ≤ 140737488351232) :
    Calls Try.prog 10 #[v, .int .i64 n] w fun e w' => e = .returned (.bool true) ∧ Below w.heap.size w w' := by
  obtain ⟨i0, hi, hz0, hz1, hz2⟩ := info_parts Try.info5
  have hbs := h
  obtain ⟨ao, cap, rfl, hcap, _⟩ := h
  go_enter Try.func10, Try.ntmps10
  go_wp2_with fail
  refine (live_any _).mono ?_
  rintro e w1 ⟨rfl, hb1⟩
  go_wp2_with fail
  obtain ⟨w2, hw2⟩ : ∃ w2, w2 = (w1.alloc (.cells #[.slice none 0 0, .int .i64 0, .bool false] 66)).alloc (.cells #[.pointer none, .pointer (some ⟨w1.heap.size, 0, none⟩)] 44) := ⟨_, rfl⟩
  have c0 : w2.cell? ⟨w1.heap.size + 1, 0, none⟩ = some (.pointer none) := by rw [hw2]; simp
  have c1 : w2.cell? ⟨w1.heap.size + 1, 1, none⟩ = some (.pointer (some ⟨w1.heap.size, 0, none⟩)) := by rw [hw2]; simp
  have c2 : w2.cell? ⟨w1.heap.size, 2, none⟩ = some (.bool false) := by rw [hw2]; simp
  have hb2 : Below w.heap.size w w2 := by
    rw [hw2]
    have := hb1.size
    exact (hb1.alloc this _).alloc (by simp; omega) _
  rw [← hw2]
  clear hw2 hb1
  go_loop [22] (fun i => ∃ k : Nat, k ≤ 2 ∧ i = .int .i64 k) (fun i => 2 - (intOf i).toNat)
  case atStart => exact ⟨0, by omega, rfl⟩
  case round =>
    obtain ⟨k, hk, rfl⟩ := hrel
    by_cases hk2 : k < 2
    · obtain ⟨u, hu, hno⟩ : ∃ u, w2.cell? ⟨w1.heap.size + 1, k, none⟩ = some u ∧ NoRd w2 u := by
        rcases Nat.lt_or_ge k 1 with h0 | h0
        · obtain rfl : k = 0 := by omega
          exact ⟨_, c0, .inl rfl⟩
        · obtain rfl : k = 1 := by omega
          exact ⟨_, c1, .inr ⟨_, rfl, c2⟩⟩
      clear c0 c1 c2 hbs hb2
      go_wp2_with fail
      refine (rdNum_no n hno).mono ?_
      rintro e w' ⟨rfl, rfl⟩
      go_wp2_with fail
      refine (rdBytes_no n hno).mono ?_
      rintro e w' ⟨rfl, rfl⟩
      go_wp2_with fail
      refine (rdUvar_no hno).mono ?_
      rintro e w' ⟨rfl, rfl⟩
      go_wp2_with fail
      refine (rest_no hno).mono ?_
      rintro e w' ⟨rfl, rfl⟩
      go_wp2_with fail
      refine (err_no hno).mono ?_
      rintro e w' ⟨rfl, rfl⟩
      go_wp2_with fail
      refine (end_no hno).mono ?_
      rintro e w' ⟨rfl, rfl⟩
      go_wp2_with fail
      go_round
      case rel => exact ⟨k + 1, by omega, by go_num⟩
      case measure => simp [intOf]; omega
    · obtain rfl : k = 2 := by omega
      clear c0 c1 c2
      have zz2 := hb2.size
      have hbs2 := hbs.below hb2 (Nat.le_refl _)
      go_wp2_with (first
        | (at_make; refine wpList_make_own _ rfl (.const (.int .i64 0)) (.tmp 60) 22 rfl w2.heap.size 5 i0 (.int .u8 0) 1 Try.underlying22 hi hz0 hz1 .i64 .i64 _ (l.length + 9) rfl rfl (by omega) (by rw [hz2]; omega) (by unfold maxLen; omega) (Nat.le_refl _) ?_; intro w3 ho3 hg3)
        | (at_builtin; refine wpList_append_bs _ rfl (.tmp 61) (.tmp 62) 22 rfl w2.heap.size 5 i0 (.int .u8 0) Try.underlying22 hi hz0 hz1 hz2 rfl _ 0 [] rfl ho3 _ l rfl (hbs2.mono ⟨hg3.os, hg3.tape, hg3.output, hg3.size, fun k hk => hg3.block k hk (by simp)⟩) (by omega) hg3.size ?_; intro v4 w4 ho4 hg4)
        | fail)
      have hb3 : Below w.heap.size w w3 := hb2.grown hg3 zz2 (by intro k hk; cases hk)
      have zz3 := hg3.size
      have hb4 : Below w.heap.size w w4 := hb3.grown hg4 (by omega) (by intro k hk; have e : some w2.heap.size = some k := hk; injection e with e; omega)
      have zz4 := hg4.size
      rw [Nat.zero_add, List.nil_append] at ho4
      have hs4 := Bs.of_owns ho4 hbs.lt
      have hlt4 := ho4.lt
      clear ho3 hg3 hg4 hbs2 hb2 hb3
      refine (clone_any _ l _ (hbs.below hb4 (Nat.le_refl _)) (by omega)).mono ?_
      rintro e w5 ⟨v5, rfl, ho5, hb5⟩
      have zz5 := hb5.size
      have hlt5 := ho5.lt
      obtain ⟨ao4, cap4, rfl, _, hao4⟩ := owns_form ho4
      obtain ⟨ao5, cap5, rfl, _, _⟩ := owns_form ho5
      go_wp2_with fail
      have hs45 := hs4.mono hb5
      refine (read_any _ l _ hs45 (by omega)).mono ?_
      rintro e w6 ⟨g, d, rfl, hR6, hb6, hg6, hg6', hd6⟩
      have zz6 := hb6.size
      go_wp2_with fail
      refine (seal_any _ l _ (hs45.mono hb6) (by omega)).mono ?_
      rintro e w7 ⟨v7, rfl, ho7, hb7⟩
      have zz7 := hb7.size
      have hlt7 := ho7.lt
      go_wp2_with fail
      have hB := rdBytes_any (l.length : Int) (hR6.mono hb7) (by omega)
      rw [bytes_all] at hB
      refine hB.mono ?_
      rintro e w8 ⟨v8, rfl, ho8, hR8, hg8⟩
      clear hB
      have zz8 := hg8.size
      have hlt8 := ho8.lt
      obtain ⟨ao8, cap8, rfl, _, hao8⟩ := owns_form ho8
      -- what is left of all of it, in the world behind the calls
      have ho4' := owns_keptO (owns_below (owns_below (owns_below ho4 hb5 (Nat.le_refl _)) hb6 (Nat.le_refl _)) hb7 (Nat.le_refl _)) hg8 (by intro k hk e; injection e with e; have := hlt4 k hk; omega)
      have ho5' := owns_keptO (owns_below (owns_below ho5 hb6 (Nat.le_refl _)) hb7 (Nat.le_refl _)) hg8 (by intro k hk e; injection e with e; have := hlt5 k hk; omega)
      have ho7' := owns_keptO ho7 hg8 (by intro k hk e; injection e with e; have := hlt7 k hk; omega)
      have hb8 : Below w.heap.size w w8 := ((hb4.trans (hb5.mono (by omega))).trans (hb6.mono (by omega))).trans (hb7.mono (by omega)) |>.grown hg8 (by omega) (by intro k hk; injection hk with hk; omega)
      have hS8 : Some5 w8 w7.heap.size (.slice ao8 l.length cap8) l.length := ⟨l, rfl, hbs.lt, ho8⟩
      have hS4 : Some5 w8 w2.heap.size (.slice ao4 l.length cap4) l.length := ⟨l, rfl, hbs.lt, ho4'⟩
      have Hao8 := hide hao8
      have Hao4 := hide hao4
      have HR8 := hide hR8
      clear hs4 hs45 ho4 ho5 ho7 ho8 hR6 hb5 hb6 hb7 hg8 hb4 hao8 hao4 ho4' hR8
      go_wp2_with fail
      go_loopw [76] (fun i wr => ∃ k : Nat, k ≤ l.length ∧ i = .int .i64 k ∧ Some5 wr w7.heap.size (.slice ao8 l.length cap8) l.length ∧ w8.grownBy wr (Value.slice ao8 l.length cap8).ownBlock) (fun i _ => l.length - (intOf i).toNat)
      case atStart => exact ⟨0, by omega, rfl, hS8, World.grownBy.refl _ _⟩
      case round =>
        obtain ⟨k, hk, rfl, hS, hG⟩ := hrel
        clear hS8
        by_cases hkl : k < l.length
        · obtain ⟨gg, rfl, _⟩ := Hao8.out (by omega)
          obtain ⟨x, hx, hc, hf, hS'⟩ := hS.step hkl
          have HS := hide hS'
          have HG : Hid (w8.grownBy (wr.setCell ⟨gg, k, none⟩ (.int .u8 ((x ^^^ 255 : Nat) : Int))) (some gg)) := grown_trans hG (grown_setCell wr gg k _)
          clear hS hS' hG
          go_wp2_with fail
          go_roundw
          case rel =>
            have e := u8_xor_nat x 255 hx (by omega)
            rw [show ((255 : Nat) : Int) = 255 from rfl] at e
            rw [e]
            exact ⟨k + 1, by omega, by go_num, HS.out, HG.out⟩
          case measure => simp [intOf]; omega
        · obtain rfl : k = l.length := by omega
          clear hkl hk hS
          generalize wr = w9 at *
          have ho5b := owns_keptO ho5' hG (by intro k1 hk1 e; have := hlt5 k1 hk1; have := hlt8 k1 e; omega)
          have ho7b := owns_keptO ho7' hG (by intro k1 hk1 e; have := hlt7 k1 hk1; have := hlt8 k1 e; omega)
          have hR9 := HR8.out.keptO hG (by intro e; have := hlt8 g e; omega) (by intro b hb e; have := hd6 b hb; have := hlt8 b e; omega)
          have hb9 := hb8.grown hG (by omega) (by intro k1 hk1; have := hlt8 k1 hk1; omega)
          have hS4 : Some5 w9 w2.heap.size (.slice ao4 l.length cap4) l.length := by
            obtain ⟨lx, e1, e2, e3⟩ := hS4
            exact ⟨lx, e1, e2, owns_keptO e3 hG (by intro k1 hk1 e; have := hlt4 k1 hk1; have := hlt8 k1 e; omega)⟩
          have zz9 := hG.size
          have HR9 := hide hR9
          clear ho5' ho7' HR8 hR9 hG hb8 Hao8
          go_wp2_with fail
          go_loopw [88] (fun i wr => ∃ k : Nat, k ≤ l.length ∧ i = .int .i64 k ∧ Some5 wr w2.heap.size (.slice ao4 l.length cap4) l.length ∧ w9.grownBy wr (Value.slice ao4 l.length cap4).ownBlock) (fun i _ => l.length - (intOf i).toNat)
          case atStart => exact ⟨0, by omega, rfl, hS4, World.grownBy.refl _ _⟩
          case round =>
            obtain ⟨k, hk, rfl, hS, hG⟩ := hrel
            clear hS4
            by_cases hkl : k < l.length
            · obtain ⟨gg, rfl, _⟩ := Hao4.out (by omega)
              obtain ⟨x, hx, hc, hf, hS'⟩ := hS.step hkl
              have HS := hide hS'
              have HG : Hid (w9.grownBy (wr.setCell ⟨gg, k, none⟩ (.int .u8 ((x ^^^ 255 : Nat) : Int))) (some gg)) := grown_trans hG (grown_setCell wr gg k _)
              clear hS hS' hG
              go_wp2_with fail
              go_roundw
              case rel =>
                have e := u8_xor_nat x 255 hx (by omega)
                rw [show ((255 : Nat) : Int) = 255 from rfl] at e
                rw [e]
                exact ⟨k + 1, by omega, by go_num, HS.out, HG.out⟩
              case measure => simp [intOf]; omega
            · obtain rfl : k = l.length := by omega
              clear hkl hk hS
              generalize wr = w10 at *
              have ho5c := owns_keptO ho5b hG (by intro k1 hk1 e; have := hlt5 k1 hk1; have := hlt4 k1 e; omega)
              have ho7c := owns_keptO ho7b hG (by intro k1 hk1 e; have := hlt7 k1 hk1; have := hlt4 k1 e; omega)
              have hR10 := HR9.out.keptO hG (by intro e; have := hlt4 g e; omega) (by intro b hb e; have := hd6 b hb; have := hlt4 b e; omega)
              have hb10 := hb9.grown hG (by omega) (by intro k1 hk1; have := hlt4 k1 hk1; omega)
              have hs5 := Bs.of_owns ho5c hbs.lt
              have hs7 := Bs.of_owns ho7c (sealN_lt hbs.lt)
              have hun := unseal_any _ _ _ hs7 (by rw [sealN_length]; omega)
              rw [unsE_seal, unsL_seal] at hun
              have Hun := hide hun
              clear ho5b ho7b ho5c ho7c HR9 hG hb9 Hao4 hun hs7
              go_wp2_with fail
              refine (Hun.out).mono ?_
              rintro e w11 ⟨v11, rfl, ho11, hb11⟩
              have hs11 := Bs.of_owns ho11 hbs.lt
              clear Hun ho11
              go_wp2_with fail
              refine (equal_any _ _ l l _ hs11 (hs5.mono hb11)).mono ?_
              rintro e w12 ⟨rfl, rfl⟩
              go_wp2_with fail
              refine (err_yes (hR10.mono hb11)).mono ?_
              rintro e w12 ⟨rfl, rfl⟩
              have Hb : Hid (Below w.heap.size w w11) := hb10.trans (hb11.mono hb10.size)
              clear hs11 hs5 hR10 hb11 hb10 hbs
              go_wp2
              go_ret
              exact ⟨by simp, Hb.out⟩

theorem wordNone_lifted (os : Os) (started : os.Started) (H : Type) (enc : TypeId × Value → H) :
    ReturnsInHanded {} Try.checked os 10 .any (Rows.wordNoneSpec.pre6 enc Try.prog Try.f10 Rows.wordNoneRow.domain false) (Rows.wordNoneSpec.post enc Try.prog Try.f10 false true false false) := by
  refine law_frame (C := Try.checked) rfl Try.own started (by kernel_rfl) Try.func10
    (ChangeSpec.witness6 (enc := enc) (C := Try.checked) false ⟨#[], #[.slice none 0 0, .int .i64 0], []⟩ 8 (by kernel_rfl) (by kernel_rfl) (by kernel_rfl) (by kernel_rfl))
    Try.laidOut ?_ 4 rfl Try.underlying4 ?_ ?_
  · rw [Try.params10]
    intro t ht
    simp at ht
    rcases ht with rfl | rfl <;> exact ⟨by kernel_rfl, of_decide_eq_true (by kernel_rfl)⟩
  · intro ds hn
    rw [Try.params10] at hn
    match ds, hn with
    | [d1, d2], _ => rfl
  · intro W base args ds p hval0 hA hsz
    have hval : ∀ (j : Nat) t v, Try.f10.params[j]? = some t → args[j]? = some v → Value.okWide Try.prog W .any base t v := hval0
    rw [Try.params10] at hA hsz hval
    obtain ⟨v0, vs0, d0, ds0, p0, q0, hargs, rfl, rfl, h0, r0⟩ := trodAll_cons hA
    obtain ⟨v1, vs1, d1, ds1, p1, q1, rfl, rfl, rfl, h1, r1⟩ := trodAll_cons r0
    obtain ⟨rfl, rfl, rfl⟩ := trodAll_nil r1
    obtain rfl : args = #[v0, v1] := by cases args; simp_all
    obtain ⟨l0, hbs0, hl0⟩ := Bs.came Try.underlying22 Try.underlying5 (by kernel_rfl) (hval 0 22 v0 rfl rfl) h0
    have hlen0 := came_len hsz (j := 0) (t := 22) rfl rfl Try.underlying22 (by kernel_rfl) hl0
    obtain ⟨a1, rfl, rfl, rfl, w1⟩ := open_int Try.underlying3 (hval 1 3 v1 rfl rfl) h1
    have hb1 := bounds_i64 w1
    exact none_walk v0 l0 a1 W hbs0 hlen0

theorem wordNone_holds : Rows.WordNoneSaid :=
  OpenClaim.holds_of_wide 10 Try.f10 rfl rfl rfl rfl rfl rfl rfl ⟨rfl, rfl, rfl, rfl, rfl⟩ rfl rfl rfl rfl rfl (by kernel_rfl) Try.func10 (by kernel_rfl)
    (of_decide_eq_true (by kernel_rfl)) (by unfold Func.isWrapper; first | (rw [if_pos (by decide +kernel)]; kernel_rfl) | (rw [if_neg (by decide +kernel)]; exact ⟨rfl, rfl⟩))
    (fun os started H enc _ => wordNone_lifted os started H enc)
#print axioms wordNone_holds
end Go.Proofs.Ytiloaehomdlokaa
