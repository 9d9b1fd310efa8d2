/- RecordReads: of any bytes at any place, Take and Lsn answer as the document says, and the bytes stay as they were when what is taken is written to (P6.2, P6.3). -/
import Derived.Test.YtcfmadgehpmboaaLoop
set_option linter.unusedSimpArgs false
set_option linter.unusedVariables false
namespace Go.Proofs.Ytcfmadgehpmboaa
open Go.RowKit Go.Attic Go.ChangeShapes Go.WideShapes Go.ChangeAt

set_option maxRecDepth 100000 in
set_option maxHeartbeats 1000000 in
theorem reads_long (q : Int) (vl : Value) (L : List Nat) (w : World) (hL : Bs w vl L) (kL : L.length ≤ 140737488355328) (h1 : 5000 < L.length) :
    Calls Try.prog 4 #[vl, .int .i64 q] w fun r w' => r = .returned (.bool true) ∧ Below w.heap.size w w' := by
  obtain ⟨ab, cb, rfl, -⟩ := id hL
  go_enter Try.func4, Try.ntmps4
  go_wp2_with fail
  refine (begun_any _).mono ?_
  rintro r w1 ⟨rfl, B1⟩
  have hl1 := hL.mono B1
  go_wp2_with fail
  refine (begun_any _).mono ?_
  rintro r w2 ⟨rfl, hb2⟩
  go_wp2_with fail
  go_ret
  exact ⟨rfl, B1.trans (hb2.mono B1.size)⟩

set_option maxRecDepth 100000 in
set_option maxHeartbeats 1000000 in
theorem reads_walk (q : Int) (vl : Value) (L : List Nat) (w : World) (hL : Bs w vl L) (kL : L.length ≤ 140737488355328) (h1 : L.length ≤ 5000) (k b o m er n en : Int) (l : List Nat) (hlx : ∀ y ∈ l, y < 256) (hl48 : l.length ≤ 1000)
    (c18 : ∀ v w, Bs w v L → Calls Try.prog 18 #[v, .int .i64 q] w (TakeE w k b o l m er)) (c19 : ∀ v w, Bs w v L → Calls Try.prog 19 #[v, .int .i64 q] w (RTakeE w k b o l m er))
    (c20 : ∀ v w, Bs w v L → Calls Try.prog 20 #[v] w fun e w' => e = .returned (.tuple #[.int .i64 n, .int .i64 en]) ∧ Below w.heap.size w w') (c21 : ∀ v w, Bs w v L → Calls Try.prog 21 #[v] w fun e w' => e = .returned (.tuple #[.int .i64 n, .int .i64 en]) ∧ Below w.heap.size w w') :
    Calls Try.prog 4 #[vl, .int .i64 q] w fun r w' => r = .returned (.bool true) ∧ Below w.heap.size w w' := by
  have e1 : (er != er) = false := by simp
  have e2 : (n != n) = false := by simp
  have e3 : (en != en) = false := by simp
  obtain ⟨ab, cb, rfl, -⟩ := id hL
  go_enter Try.func4, Try.ntmps4
  go_wp2_with fail
  refine (begun_any _).mono ?_
  rintro r w1 ⟨rfl, B1⟩
  have hl1 := hL.mono B1
  go_wp2_with fail
  refine (clone_any _ L _ hl1 kL).mono ?_
  rintro r w2 ⟨v2, rfl, ho2, hb2⟩
  have hs2 := Bs.of_owns ho2 hL.lt
  obtain ⟨a2, p2, rfl, -, -⟩ := owns_form ho2
  have B2 := B1.trans (hb2.mono B1.size)
  have hz2 := B2.size
  have hl2 := hl1.mono hb2
  clear ho2 hb2 B1 hl1
  go_wp2_with fail
  refine (c18 _ _ hl2).mono ?_
  rintro r w3 ⟨v3, rfl, ho3, hb3⟩
  have hO3 := ho3
  obtain ⟨a3, p3, rfl, -, hg3⟩ := owns_form ho3
  have hs3 := Bs.of_owns ho3 hlx
  have hT3 := RecAt.new w3 k b o (.slice a3 l.length p3) m
  have hD3 := hs3.alloc (.cells #[.int .i64 k, .int .i64 b, .int .i64 o, .slice a3 l.length p3, .int .i64 m] 24)
  have hO3a := ho3.alloc (.cells #[.int .i64 k, .int .i64 b, .int .i64 o, .slice a3 l.length p3, .int .i64 m] 24)
  have hne3 : ∀ j, (Value.slice a3 l.length p3).ownBlock = some j → w2.heap.size ≤ j ∧ j < w3.heap.size := fun j hj => ⟨owns_lt ho3 j hj, owns_lt' ho3 j hj⟩
  have B3 := (B2.trans (hb3.mono B2.size)).alloc (B2.trans (hb3.mono B2.size)).size (.cells #[.int .i64 k, .int .i64 b, .int .i64 o, .slice a3 l.length p3, .int .i64 m] 24)
  have hl3 := (hl2.mono hb3).alloc (.cells #[.int .i64 k, .int .i64 b, .int .i64 o, .slice a3 l.length p3, .int .i64 m] 24)
  have hw3 := (hs2.mono hb3).alloc (.cells #[.int .i64 k, .int .i64 b, .int .i64 o, .slice a3 l.length p3, .int .i64 m] 24)
  clear ho3 hO3 hs3 hb3 B2 hl2 c18
  go_wp2_with fail
  refine (c19 _ _ hl3).mono ?_
  rintro r w4 ⟨v4, rfl, hs4, hb4⟩
  obtain ⟨a4, p4, rfl, -⟩ := id hs4
  have hU4 := RecAt.new w4 k b o (.slice a4 l.length p4) m
  have hE4 := hs4.alloc (.cells #[.int .i64 k, .int .i64 b, .int .i64 o, .slice a4 l.length p4, .int .i64 m] 24)
  have hT4 := (hT3.mono hb4).alloc (.cells #[.int .i64 k, .int .i64 b, .int .i64 o, .slice a4 l.length p4, .int .i64 m] 24)
  have hD4 := (hD3.mono hb4).alloc (.cells #[.int .i64 k, .int .i64 b, .int .i64 o, .slice a4 l.length p4, .int .i64 m] 24)
  have hO4 := (owns_below hO3a hb4 (Nat.le_refl _)).alloc (.cells #[.int .i64 k, .int .i64 b, .int .i64 o, .slice a4 l.length p4, .int .i64 m] 24)
  have B4 := (B3.trans (hb4.mono B3.size)).alloc (B3.trans (hb4.mono B3.size)).size (.cells #[.int .i64 k, .int .i64 b, .int .i64 o, .slice a4 l.length p4, .int .i64 m] 24)
  have hl4 := (hl3.mono hb4).alloc (.cells #[.int .i64 k, .int .i64 b, .int .i64 o, .slice a4 l.length p4, .int .i64 m] 24)
  have hw4 := (hw3.mono hb4).alloc (.cells #[.int .i64 k, .int .i64 b, .int .i64 o, .slice a4 l.length p4, .int .i64 m] 24)
  clear hs4 hb4 B3 hl3 hw3 hT3 hD3 hO3a c19
  go_wp2_with fail
  refine (c20 _ _ hl4).mono ?_
  rintro r w5 ⟨rfl, hb5⟩
  have hU5 := hU4.mono hb5
  have hE5 := hE4.mono hb5
  have hT5 := hT4.mono hb5
  have hD5 := hD4.mono hb5
  have hO5 := owns_below hO4 hb5 (Nat.le_refl _)
  have B5 := B4.trans (hb5.mono B4.size)
  have hl5 := hl4.mono hb5
  have hw5 := hw4.mono hb5
  clear hb5 B4 hl4 hw4 hT4 hD4 hO4 hU4 hE4 c20
  go_wp2_with fail
  refine (c21 _ _ hl5).mono ?_
  rintro r w6 ⟨rfl, hb6⟩
  have hU6 := hU5.mono hb6
  have hE6 := hE5.mono hb6
  have hT6 := hT5.mono hb6
  have hD6 := hD5.mono hb6
  have hO6 := owns_below hO5 hb6 (Nat.le_refl _)
  have B6 := B5.trans (hb6.mono B5.size)
  have hl6 := hl5.mono hb6
  have hw6 := hw5.mono hb6
  clear hb6 B5 hl5 hw5 hT5 hD5 hO5 hU5 hE5 c21
  obtain ⟨c0, c1, c2, c3, c4, -, -, -, -, -, -⟩ := id hT6
  obtain ⟨d0, d1, d2, d3, d4, -, -, -, -, -, -⟩ := id hU6
  go_wp2_with fail
  refine (rsame_any k b o m k b o m _ _ l l _ hD6 hE6).mono ?_
  rintro r w7 ⟨rfl, hb7⟩
  rw [show sameB k b o m l k b o m l = true from decide_eq_true ⟨rfl, rfl, rfl, rfl, rfl⟩]
  have hT7 := hT6.mono hb7
  have hO7 := owns_below hO6 hb7 (Nat.le_refl _)
  have B7 := B6.trans (hb7.mono B6.size)
  have hl7 := hl6.mono hb7
  have hw7 := hw6.mono hb7
  clear hb7 B6 hl6 hw6 hT6 hD6 hO6 hU6 hE6 c0 c1 c2 c3 c4 d0 d1 d2 d3 d4
  have g3 := hT7.c3
  go_wp2_with fail
  have hX : w7.ownsRow w2.heap.size 5 1 (.slice a3 l.length p3) l.length (cellsB l) ∧ U8s (cellsB l) := ⟨hO7, U8s.of_cells l⟩
  clear g3 hO7
  have Hl7 := hide hl7
  have Hw7 := hide hw7
  have Hs2 := hide hs2
  have HL := hide hL
  clear hl7 hw7 hs2 hL
  simp only [show decide ((5000 : Int) < (L.length : Int)) = false by simp; omega]
  go_loopw [69] (fun i wr => ∃ (j : Nat) (xs : List Value), j ≤ l.length ∧ i = .int .i64 j ∧ wr.ownsRow w2.heap.size 5 1 (.slice a3 l.length p3) l.length xs ∧ U8s xs ∧ Keeps (fun x => (Value.slice a3 l.length p3).ownBlock = some x) w7 wr) (fun i _ => l.length - (intOf i).toNat)
  case atStart => exact ⟨0, cellsB l, Nat.zero_le _, rfl, hX.1, hX.2, Keeps.refl _ _⟩
  case round =>
    clear hX
    obtain ⟨j, xs, hj, rfl, ho, hu, hk⟩ := hrel
    have hT := hT7.keeps hk (fun hs => by have h9 := (hne3 _ hs).2; omega)
    by_cases hjl : j < l.length
    · obtain ⟨g, rfl, hg⟩ := hg3 (by omega)
      have hxl : xs.length = l.length := by have := ho.1; simpa using this
      obtain ⟨y, hy⟩ := hu j (by omega)
      have hc : wr.cell? ⟨g, j, none⟩ = some (.int .u8 y) := by rw [ho.cellAt j (by omega)]; exact hy
      have hf := ho.frozenAt j
      have Hst := hide (ho.stored j (.int .u8 (bits .xor .u8 y 255))).1
      have Hk := hide (hk.set (g := g) (o := j) rfl (.int .u8 (bits .xor .u8 y 255)))
      have Hu := hide (hu.set j (bits .xor .u8 y 255))
      have t3 := hT.c3
      clear ho hk hu hT hT7 hy hxl
      go_wp2_with fail
      go_roundw
      case rel => exact ⟨j + 1, _, by omega, by go_num, Hst.out, Hu.out, Hk.out⟩
      case measure => simp [intOf]; omega
    · obtain rfl : j = l.length := by omega
      have hb := Bs.kept HL.out Hl7.out hk (fun x hx => by have h9 := (hne3 x hx).1; omega)
      have hw := Bs.kept Hs2.out Hw7.out hk (fun x hx => (hne3 x hx).1)
      have B8 := B7.trans (hk.below (B := w.heap.size) (fun x hx => by have h9 := (hne3 x hx).1; omega) B7.size)
      clear ho hu hk hT hT7
      go_wp2_with fail
      refine (equal_any _ _ L L _ hb hw).mono ?_
      rintro r w8 ⟨rfl, rfl⟩
      rw [show decide (L = L) = true from decide_eq_true rfl]
      go_wp2_with fail
      go_ret
      exact ⟨rfl, B8⟩

theorem reads_any (q : Int) (vl : Value) (L : List Nat) (w : World) (hL : Bs w vl L) (kL : L.length ≤ 140737488355328) :
    Calls Try.prog 4 #[vl, .int .i64 q] w fun r w' => r = .returned (.bool true) ∧ Below w.heap.size w w' := by
  by_cases h1 : L.length ≤ 5000
  · obtain ⟨k, b, o, m, l, er, hT, c18, c19⟩ := take_both L q hL.lt kL
    obtain ⟨n, en, -, c20, c21⟩ := lsn_both L hL.lt kL
    have hl : (∀ y ∈ l, y < 256) ∧ l.length ≤ 1000 := by
      rcases hT with ⟨_, p', k', b', o', m', _, _, _, _, _, h⟩ | ⟨_, rfl, _⟩
      · have r := okR_range h.1
        exact ⟨h.2.2.1, by omega⟩
      · exact ⟨by simp, by simp⟩
    exact reads_walk q vl L w hL kL h1 k b o m er n en l hl.1 hl.2 c18 c19 c20 c21
  · exact reads_long q vl L w hL kL (by omega)

theorem recordReads_lifted (os : Os) (started : os.Started) (H : Type) (enc : TypeId × Value → H) :
    ReturnsInHanded {} Try.checked os 4 .any (Rows.recordReadsSpec.pre6 enc Try.prog Try.f4 Rows.recordReadsRow.domain false) (Rows.recordReadsSpec.post enc Try.prog Try.f4 false true false false) := by
  refine law_frame (C := Try.checked) rfl Try.own started (by kernel_rfl) Try.func4
    (ChangeSpec.witness6 (enc := enc) (C := Try.checked) false ⟨#[], #[.slice none 0 0, .int .i64 0], []⟩ 8 (by kernel_rfl) (by kernel_rfl) (by kernel_rfl) (by kernel_rfl))
    Try.laidOut ?_ 4 rfl Try.underlying4 ?_ ?_
  · rw [Try.params4]
    intro t ht
    simp at ht
    rcases ht with rfl | rfl <;> exact ⟨by kernel_rfl, of_decide_eq_true (by kernel_rfl)⟩
  · intro ds hn
    rw [Try.params4] at hn
    match ds, hn with
    | [d1, d2], _ => rfl
  · intro W base args ds p hval0 hA hsz
    have hval : ∀ (j : Nat) t v, Try.f4.params[j]? = some t → args[j]? = some v → Value.okWide Try.prog W .any base t v := hval0
    rw [Try.params4] at hA hsz hval
    obtain ⟨v0, vs0, d0, ds0, p0, q0, hargs, rfl, rfl, h0, r0⟩ := trodAll_cons hA
    obtain ⟨v1, vs1, d1, ds1, p1, q1, rfl, rfl, rfl, h1, r1⟩ := trodAll_cons r0
    obtain ⟨rfl, rfl, rfl⟩ := trodAll_nil r1
    obtain rfl : args = #[v0, v1] := by cases args; simp_all
    obtain ⟨l0, hbs0, hl0⟩ := Bs.came Try.underlying22 Try.underlying5 (by kernel_rfl) (hval 0 22 v0 rfl rfl) h0
    have hlen0 := came_len hsz (j := 0) (t := 22) rfl rfl Try.underlying22 (by kernel_rfl) hl0
    obtain ⟨a1, rfl, rfl, rfl, w1⟩ := open_int Try.underlying2 (hval 1 2 v1 rfl rfl) h1
    have hb1 := bounds_i64 w1
    exact reads_any a1 v0 l0 W hbs0 (by omega)

theorem recordReads_holds : Rows.RecordReadsSaid :=
  OpenClaim.holds_of_wide 4 Try.f4 rfl rfl rfl rfl rfl rfl rfl ⟨rfl, rfl, rfl, rfl, rfl⟩ rfl rfl rfl rfl rfl (by kernel_rfl) Try.func4 (by kernel_rfl)
    (of_decide_eq_true (by kernel_rfl)) (by unfold Func.isWrapper; first | (rw [if_pos (by decide +kernel)]; kernel_rfl) | (rw [if_neg (by decide +kernel)]; exact ⟨rfl, rfl⟩))
    (fun os started H enc _ => recordReads_lifted os started H enc)
#print axioms recordReads_holds
end Go.Proofs.Ytcfmadgehpmboaa
