/- The law ReplayCuts: by which patches any page becomes any other one is what the document says, and what is handed in is left as it is, whatever the block and the two rows of bytes. -/
import Derived.Test.YtgdlbfoihpdlhaaK9
import Derived.Test.YtgdlbfoihpdlhaaK8
import Derived.Test.YtgdlbfoihpdlhaaL2
import Derived.Test.YtgdlbfoihpdlhaaL5
import Derived.Test.YtgdlbfoihpdlhaaCameL
set_option linter.unusedSimpArgs false
set_option linter.unusedVariables false
namespace Go.Proofs.Ytgdlbfoihpdlhaa
open Go.RowKit Go.Attic Go.ChangeShapes Go.WideShapes

theorem rcut_any {w : World} {va vb : Value} {block : Int} {A B : List Nat} (hA : Bs w va A) (hB : Bs w vb B) : Calls Try.prog 23 #[.int .i64 block, va, vb] w (NewRcE w (cutR block A B).1 (cutR block A B).2) := by
  obtain ⟨aa, ac, rfl, -⟩ := id hA
  obtain ⟨ba, bc, rfl, -⟩ := id hB
  by_cases h : (0 ≤ block ∧ block < 2048) ∧ A.length = 256 ∧ B.length = 256
  · rw [cutR_yes h.1 h.2.1 h.2.2]
    rw [h.2.1] at hA ⊢
    rw [h.2.2] at hB ⊢
    exact rcut_yes h.1 hA hB
  · rw [cutR_no h]
    exact rcut_no h
theorem cutR_len (block : Int) (A B : List Nat) : (cutR block A B).1.length ≤ 6 := by
  unfold cutR
  split
  · exact cutU_len block A B 6
  · simp

theorem owns_max {w : World} {base : Nat} {e : TypeId} {size : Nat} {v : Value} {n : Nat} {xs : List Value} (h : w.ownsRow base e size v n xs) : n ≤ 9223372036854775807 := by
  rcases h.2 with ⟨_, rfl⟩ | ⟨g, cap, cur, _, _, _, h1, h2, _⟩
  · omega
  · unfold maxLen at h2; omega

/-- The blocks of the records' bytes. -/
def Dat (vs : List Value) (k : Nat) : Prop := ∃ i, ∃ h : i < vs.length, (vs[i]).ownBlock = some k
/-- What stands while their bytes are turned. -/
structure Tn (w0 : World) (B : Nat) (rs : List Rc) (vs : List Value) (w : World) : Prop where
  kp : Keeps (Dat vs) w0 w
  row : ∀ i (hi : i < rs.length) (hv : i < vs.length), ∃ xs, w.ownsRow B 5 1 vs[i] (rs[i]).l.length xs ∧ U8s xs
theorem Tn.start {w : World} {B : Nat} {rs : List Rc} {vs : List Value} (h : Ow w B rs vs) : Tn w B rs vs w :=
  ⟨Keeps.refl _ _, fun i hi hv => ⟨_, (h.own i hi hv).2, U8s.of_cells _⟩⟩
theorem Tn.set {w0 w : World} {B : Nat} {rs : List Rc} {vs : List Value} (ho : Ow w0 B rs vs) (h : Tn w0 B rs vs w) (i : Nat) (hi : i < rs.length) (hv : i < vs.length) {g n cap : Nat} (he : vs[i] = .slice (some ⟨g, 0, none⟩) n cap) (k : Nat) (y : Int) :
    Tn w0 B rs vs (w.setCell ⟨g, k, none⟩ (.int .u8 y)) := by
  have hg : (vs[i]).ownBlock = some g := by rw [he]; rfl
  refine ⟨h.kp.set ⟨i, hv, hg⟩ _, fun j hj hvj => ?_⟩
  obtain ⟨xs, h1, h2⟩ := h.row j hj hvj
  by_cases e : i = j
  · subst e
    have hn : n = (rs[i]).l.length := by
      obtain ⟨ao, cp, e2, _⟩ := owns_form h1
      rw [he] at e2
      injection e2
    rw [he, ← hn] at h1 ⊢
    exact ⟨_, (h1.stored k (.int .u8 y)).1, h2.set k y⟩
  · refine ⟨xs, ownsRow_setCell_other h1 (fun e2 => ?_) _, h2⟩
    exact ho.far i j hv hvj e (hg.trans e2.symm)

set_option maxRecDepth 100000 in
set_option maxHeartbeats 2000000 in
theorem cuts_long {w : World} {va vb : Value} {A B : List Nat} (block : Int) (hA : Bs w va A) (hB : Bs w vb B) (h : (5000 : Int) < (A.length : Int) ∨ (5000 : Int) < (B.length : Int)) :
    Calls Try.prog 5 #[.int .i64 block, va, vb] w fun e w' => e = .returned (.bool true) ∧ Below w.heap.size w w' := by
  obtain ⟨aa, ac, rfl, -⟩ := id hA
  obtain ⟨ba, bc, rfl, -⟩ := id hB
  clear hA hB
  by_cases h1 : (5000 : Int) < (A.length : Int)
  · clear h
    go_enter Try.func5, Try.ntmps5
    go_wp2_with fail
    refine (begun_any _).mono ?_
    rintro e w1 ⟨rfl, hb1⟩
    go_wp2_with fail
    refine (begun_any _).mono ?_
    rintro e w3 ⟨rfl, hb3⟩
    go_wp2_with fail
    go_ret
    exact ⟨rfl, hb1.trans (hb3.mono hb1.size)⟩
  · have h2 := h.resolve_left h1
    clear h
    go_enter Try.func5, Try.ntmps5
    go_wp2_with fail
    refine (begun_any _).mono ?_
    rintro e w1 ⟨rfl, hb1⟩
    go_wp2_with fail
    refine (begun_any _).mono ?_
    rintro e w3 ⟨rfl, hb3⟩
    go_wp2_with fail
    go_ret
    exact ⟨rfl, hb1.trans (hb3.mono hb1.size)⟩

set_option maxRecDepth 100000 in
set_option maxHeartbeats 2000000 in
theorem cuts_walk {w : World} {va vb : Value} {A B : List Nat} (block : Int) (hA : Bs w va A) (hB : Bs w vb B) (h1 : ¬ (5000 : Int) < (A.length : Int)) (h2 : ¬ (5000 : Int) < (B.length : Int)) :
    Calls Try.prog 5 #[.int .i64 block, va, vb] w fun e w' => e = .returned (.bool true) ∧ Below w.heap.size w w' := by
  obtain ⟨G, hG⟩ : ∃ G, cutR block A B = G := ⟨_, rfl⟩
  have hg1 := cutR_len block A B
  rw [hG] at hg1
  have hd1 : decide ((5000 : Int) < (A.length : Int)) = false := decide_eq_false h1
  have hd2 : decide ((5000 : Int) < (B.length : Int)) = false := decide_eq_false h2
  have hblt := hB.lt
  obtain ⟨aa, ac, rfl, -⟩ := id hA
  obtain ⟨ba, bc, rfl, -⟩ := id hB
  go_enter Try.func5, Try.ntmps5
  go_wp2_with fail
  refine (begun_any _).mono ?_
  rintro e w2 ⟨rfl, hb2⟩
  have hz2 := hb2.size
  go_wp2_with fail
  refine (clone_any _ B _ (hB.mono hb2) (by omega)).mono ?_
  rintro e w3 ⟨v3, rfl, ho3, hb3⟩
  have hs3 := Bs.of_owns ho3 hblt
  obtain ⟨a3, c3, rfl⟩ := owns_slice ho3
  have hB3 := hb2.trans (hb3.mono hz2)
  have hz3 := hB3.size
  clear ho3
  go_wp2_with fail
  have hr := cut_any (block := block) (hA.mono hB3) (hB.mono hB3)
  rw [hG] at hr
  refine hr.mono ?_
  rintro e w4 ⟨v4, p4, vs4, rfl, hrw4, how4, hb4⟩
  obtain ⟨a4, c4, rfl⟩ := owns_slice hrw4.row
  have hB4 := hB3.trans (hb4.mono hz3)
  have hz4 := hB4.size
  clear hr
  go_wp2_with fail
  have hr := rcut_any (block := block) (hA.mono hB4) (hB.mono hB4)
  rw [hG] at hr
  refine hr.mono ?_
  rintro e w5 ⟨v5, p5, vs5, rfl, hrw5, hb5⟩
  have hrw45 := hrw4.mono hb5
  obtain ⟨a5, c5, rfl⟩ := owns_slice hrw5.row
  have hB5 := hB4.trans (hb5.mono hz4)
  have hz5 := hB5.size
  clear hr
  go_wp2_with fail
  refine (sameAll_yes _ _ _ _ _ _ hrw45.rs hrw5.rs (by omega)).mono ?_
  rintro e w6 ⟨rfl, hb6⟩
  have hB6 := hB5.trans (hb6.mono hz5)
  have hz6 := hB6.size
  have hrw6 := hrw45.mono hb6
  have how6 := (how4.mono hb5).mono hb6
  have hsw := ((hs3.mono hb4).mono hb5).mono hb6
  have hpw := hB.mono hB6
  have Hsw := hide hsw
  have Hpw := hide hpw
  have HB := hide hB
  have Hs3 := hide hs3
  have HG := hide hG
  have Hrw := hide hrw6
  have How := hide how6
  have Hge := hide (fun k (hk : Dat vs4 k) => (by
    obtain ⟨i, hv, e⟩ := hk
    have hi : i < G.1.length := by have := how4.len; omega
    exact owns_lt (how4.own i hi hv).2 k e : w3.heap.size ≤ k))
  clear hsw hpw hB hs3 hG hrw6 how6 hrw45 hrw4 how4 hrw5 hA hblt
  generalize hn : G.1.length = n at *
  have Hn := hide hn
  clear hn
  go_wp2_with fail
  try simp only [hd1, hd2]
  go_loopw [54] (fun iv wr => ∃ i : Nat, i ≤ n ∧ iv = .int .i64 (i : Int) ∧ Tn w6 w3.heap.size G.1 vs4 wr) (fun iv _ => n - (intOf iv).toNat)
  case atStart => exact ⟨0, Nat.zero_le _, rfl, Tn.start How.out⟩
  case round =>
    obtain ⟨i, hi, rfl, hT⟩ := hrel
    by_cases hin : i < n
    · have hi' : i < G.1.length := by have := Hn.out; omega
      have hv' : i < vs4.length := by have := How.out.len; omega
      obtain ⟨hl0, ho0⟩ := How.out.own i hi' hv'
      obtain ⟨g, cg, hvg, hgb, hgl⟩ := owns_block ho0 hl0
      have hrs := Hrw.out.row
      obtain ⟨ao', cp', e', hcp, hg'⟩ := owns_form hrs
      obtain ⟨pb, rfl, -⟩ := hg' (by omega)
      injection e' with e1 _ e2
      subst e1 e2
      have hpd : ∀ k, Dat vs4 k → k ≠ pb := by
        rintro k ⟨j, hj, e⟩ rfl
        have hj' : j < G.1.length := by have := How.out.len; omega
        exact ((Hrw.out.bs j hj' hj).2 (How.out.own j hj' hj).1 k e).2 (Hrw.out.own.symm)
      have x3 : w6.cell? ⟨pb, i * 5 + 3, none⟩ = some (vs4[i]'hv') := by
        have := hrs.cells (g := pb) rfl _ _ ((cellsR_at Hrw.out.len i hi' 3 (by omega)).trans rfl)
        rwa [Addr.add_lit, Nat.zero_add] at this
      rw [hvg] at x3
      have y3 := hT.kp.cell x3 (fun h => hpd _ h rfl)
      have Hx3 := hide x3
      have HT := hide hT
      clear x3 hT hrs
      have hmx := owns_max ho0
      have Hvg := hide hvg
      have Hl0 := hide hl0
      clear hvg hl0 ho0 hg'
      obtain ⟨m, hm⟩ : ∃ m, (G.1[i]).l.length = m := ⟨_, rfl⟩
      have hrowi : ∀ wq, Tn w6 w3.heap.size G.1 vs4 wq → ∃ xs, wq.ownsRow w3.heap.size 5 1 (.slice (some ⟨g, 0, none⟩) m cg) m xs ∧ U8s xs := by
        intro wq hq
        obtain ⟨xs, q1, q2⟩ := hq.row i hi' hv'
        rw [Hvg.out, hm] at q1
        exact ⟨xs, q1, q2⟩
      rw [hm] at y3 Hx3 hmx
      have Hm := hide hm
      have Hrowi := hide hrowi
      clear hm hrowi
      go_wp2_with fail
      go_loopw [63] (fun kv wq => ∃ k : Nat, k ≤ m ∧ kv = .int .i64 (k : Int) ∧ Tn w6 w3.heap.size G.1 vs4 wq) (fun kv _ => m - (intOf kv).toNat)
      case atStart => exact ⟨0, Nat.zero_le _, rfl, HT.out⟩
      case round =>
        obtain ⟨k, hk, rfl, hT⟩ := hrel
        clear y3
        have y3 := hT.kp.cell Hx3.out (fun h => hpd _ h rfl)
        by_cases hkm : k < m
        · obtain ⟨xs, q1, q2⟩ := Hrowi.out _ hT
          have hxl : xs.length = m := by have := q1.1; simpa using this
          obtain ⟨y, hy⟩ := q2 k (by omega)
          have hc : wr.cell? ⟨g, k, none⟩ = some (.int .u8 y) := by rw [q1.cellAt k (by omega)]; exact hy
          have hf := q1.frozenAt k
          have Hset := hide (Tn.set How.out hT i hi' hv' Hvg.out k (bits .xor .u8 y 255))
          clear q1 q2 hT hy hxl
          go_wp2_with fail
          go_roundw
          case rel => exact ⟨k + 1, by omega, by go_num, Hset.out⟩
          case measure => simp [intOf]; omega
        · obtain rfl : k = m := by omega
          have HT := hide hT
          clear hT
          go_wp2_with fail
          go_roundw
          case rel => exact ⟨i + 1, by omega, by go_num, HT.out⟩
          case measure => simp [intOf]; omega
    · obtain rfl : i = n := by omega
      have hb := Bs.kept HB.out Hpw.out hT.kp (fun x hx => by have h9 := Hge.out x hx; omega)
      have hw := Bs.kept Hs3.out Hsw.out hT.kp (fun x hx => Hge.out x hx)
      have B8 := hB6.trans (hT.kp.below (B := w.heap.size) (fun x hx => by have h9 := Hge.out x hx; omega) hB6.size)
      clear hT
      go_wp2_with fail
      refine (equal_any _ _ B B _ hb hw).mono ?_
      rintro r w8 ⟨rfl, rfl⟩
      rw [show decide (B = B) = true from decide_eq_true rfl]
      go_wp2_with fail
      go_ret
      exact ⟨rfl, B8⟩

theorem cuts_any {w : World} {va vb : Value} {A B : List Nat} (block : Int) (hA : Bs w va A) (hB : Bs w vb B) :
    Calls Try.prog 5 #[.int .i64 block, va, vb] w fun e w' => e = .returned (.bool true) ∧ Below w.heap.size w w' := by
  by_cases h1 : (5000 : Int) < (A.length : Int)
  · exact cuts_long block hA hB (.inl h1)
  · by_cases h2 : (5000 : Int) < (B.length : Int)
    · exact cuts_long block hA hB (.inr h2)
    · exact cuts_walk block hA hB h1 h2

theorem replayCuts_lifted (os : Os) (started : os.Started) (H : Type) (enc : TypeId × Value → H) :
    ReturnsInHanded {} Try.checked os 5 .any (Rows.replayCutsSpec.pre6 enc Try.prog Try.f5 Rows.replayCutsRow.domain false) (Rows.replayCutsSpec.post enc Try.prog Try.f5 false true false false) := by
  refine law_frame (C := Try.checked) rfl Try.own started (by kernel_rfl) Try.func5
    (ChangeSpec.witness6 (enc := enc) (C := Try.checked) false ⟨#[], #[.int .i64 0, .slice none 0 0, .slice none 0 0], []⟩ 8 (by kernel_rfl) (by kernel_rfl) (by kernel_rfl) (by kernel_rfl))
    Try.laidOut ?_ 4 rfl Try.underlying4 ?_ ?_
  · rw [Try.params5]
    intro t ht
    simp at ht
    rcases ht with rfl | rfl <;> exact ⟨by kernel_rfl, of_decide_eq_true (by kernel_rfl)⟩
  · intro ds hn
    rw [Try.params5] at hn
    match ds, hn with
    | [d1, d2, d3], _ => rfl
  · intro W base args ds p hval0 hA hsz
    have hval : ∀ (j : Nat) t v, Try.f5.params[j]? = some t → args[j]? = some v → Value.okWide Try.prog W .any base t v := hval0
    rw [Try.params5] at hA hsz hval
    obtain ⟨v0, vs0, d0, ds0, p0, q0, hargs, rfl, rfl, h0, r0⟩ := trodAll_cons hA
    obtain ⟨v1, vs1, d1, ds1, p1, q1, rfl, rfl, rfl, h1, r1⟩ := trodAll_cons r0
    obtain ⟨v2, vs2, d2, ds2, p2, q2, rfl, rfl, rfl, h2, r2⟩ := trodAll_cons r1
    obtain ⟨rfl, rfl, rfl⟩ := trodAll_nil r2
    obtain rfl : args = #[v0, v1, v2] := by cases args; simp_all
    obtain ⟨a0, rfl, rfl, rfl, w0⟩ := open_int Try.underlying3 (hval 0 3 v0 rfl rfl) h0
    have hb0 := bounds_i64 w0
    obtain ⟨l1, hbs1, hl1⟩ := Bs.came Try.underlying37 Try.underlying5 (by kernel_rfl) (hval 1 37 v1 rfl rfl) h1
    have hlen1 := came_len hsz (j := 1) (t := 37) rfl rfl Try.underlying37 (by kernel_rfl) hl1
    obtain ⟨l2, hbs2, hl2⟩ := Bs.came Try.underlying37 Try.underlying5 (by kernel_rfl) (hval 2 37 v2 rfl rfl) h2
    have hlen2 := came_len hsz (j := 2) (t := 37) rfl rfl Try.underlying37 (by kernel_rfl) hl2
    exact cuts_any a0 hbs1 hbs2

theorem replayCuts_holds : Rows.ReplayCutsSaid :=
  OpenClaim.holds_of_wide 5 Try.f5 rfl rfl rfl rfl rfl rfl rfl ⟨rfl, rfl, rfl, rfl, rfl⟩ rfl rfl rfl rfl rfl (by kernel_rfl) Try.func5 (by kernel_rfl)
    (of_decide_eq_true (by kernel_rfl)) (by unfold Func.isWrapper; first | (rw [if_pos (by decide +kernel)]; kernel_rfl) | (rw [if_neg (by decide +kernel)]; exact ⟨rfl, rfl⟩))
    (fun os started H enc _ => replayCuts_lifted os started H enc)
#print axioms replayCuts_holds
end Go.Proofs.Ytgdlbfoihpdlhaa
