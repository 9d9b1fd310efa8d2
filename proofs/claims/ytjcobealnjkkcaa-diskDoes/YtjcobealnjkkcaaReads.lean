/- Proved: the statement of DiskReads, for every script: a block reads as what was written there last, also ahead of a flush, and a flush changes no answer. No condition. -/
import Derived.Test.YtjcobealnjkkcaaG2
set_option linter.unusedSimpArgs false
set_option linter.unusedVariables false
namespace Go.Proofs.Ytjcobealnjkkcaa
open Go.RowKit Go.Attic Go.ChangeShapes Go.WideShapes

/-- Four slices in block wn, of which the first K hold the bytes L; none of them lies in O. -/
structure Want (w : World) (wn : Nat) (L : Nat → List Nat) (K : Nat) (O : Nat → Prop) : Prop where
  has : ∀ i, i < 4 → ∃ v, w.cell? ⟨wn, i, none⟩ = some v ∧ w.frozen? ⟨wn, i, none⟩ = false ∧ (i < K → Bs w v (L i) ∧ (L i).length = 256 ∧ ∀ b, v.ownBlock = some b → ¬ O b ∧ b ≠ wn)
  no : ¬ O wn

theorem Want.lt {w : World} {wn K : Nat} {L : Nat → List Nat} {O : Nat → Prop} (h : Want w wn L K O) : wn < w.heap.size := by
  obtain ⟨v, c, _⟩ := h.has 0 (by omega)
  have := World.block_lt_of_cell? w _ c
  simpa using this

theorem Want.keeps {w w' : World} {wn K : Nat} {L : Nat → List Nat} {O S : Nat → Prop} (h : Want w wn L K O) (hk : Keeps S w w') (hS : ∀ k, S k → O k) : Want w' wn L K O := by
  have hl := h.lt
  have hn : ¬ S wn := fun hs => h.no (hS _ hs)
  refine ⟨fun i hi => ?_, h.no⟩
  obtain ⟨v, c, f, hb⟩ := h.has i hi
  exact ⟨v, hk.cell c hn, by rw [hk.frozen (a := ⟨wn, i, none⟩) hl hn]; exact f, fun hK => ⟨hk.bs (hb hK).1 (fun b hb' hs => ((hb hK).2.2 b hb').1 (hS _ hs)), (hb hK).2⟩⟩

theorem bs_lt {w : World} {v : Value} {l : List Nat} (h : Bs w v l) (hl : 0 < l.length) : ∀ b, v.ownBlock = some b → b < w.heap.size := by
  obtain ⟨ao, cap, rfl, _, _, _, hc⟩ := h
  obtain ⟨b, off, rfl, hcell⟩ := hc hl
  intro b' e
  have := World.block_lt_of_cell? w _ (hcell 0 hl)
  simp [Value.ownBlock] at e
  simp at this
  omega

theorem Want.other {w : World} {wn K : Nat} {L : Nat → List Nat} {O O' : Nat → Prop} (h : Want w wn L K O) (hO : ∀ k, O' k → O k ∨ w.heap.size ≤ k) : Want w wn L K O' := by
  have hl := h.lt
  refine ⟨fun i hi => ?_, fun hs => ?_⟩
  · obtain ⟨v, c, f, hb⟩ := h.has i hi
    refine ⟨v, c, f, fun hK => ⟨(hb hK).1, (hb hK).2.1, fun b hb' => ⟨fun hs => ?_, ((hb hK).2.2 b hb').2⟩⟩⟩
    rcases hO b hs with hs | hs
    · exact ((hb hK).2.2 b hb').1 hs
    · have := bs_lt (hb hK).1 (by rw [(hb hK).2.1]; omega) b hb'; omega
  · rcases hO wn hs with hs | hs
    · exact h.no hs
    · omega

theorem Want.set {w : World} {wn K K' i : Nat} {L : Nat → List Nat} {O : Nat → Prop} {v : Value} {l : List Nat} (h : Want w wn L K O) (hi : i < 4) (hv : Bs w v l) (hl : l.length = 256) (hb : ∀ b, v.ownBlock = some b → ¬ O b ∧ b ≠ wn) (hK : ∀ j, j < K' → j = i ∨ j < K) :
    Want (w.setCell ⟨wn, i, none⟩ v) wn (fun j => if j = i then l else L j) K' O := by
  have hk := keeps_set w wn i v
  refine ⟨fun j hj => ?_, h.no⟩
  obtain ⟨u, c, f, hu⟩ := h.has j hj
  by_cases hji : j = i
  · subst hji
    exact ⟨v, cell_set_same c, by simpa using f, fun _ => by rw [if_pos rfl]; exact ⟨hk.bs hv (fun b hb' e => (hb b hb').2 e), hl, hb⟩⟩
  · refine ⟨u, cell_set_other c (by omega), by simpa using f, fun hj' => ?_⟩
    rcases hK j hj' with e | e
    · exact (hji e).elim
    · rw [if_neg hji]
      obtain ⟨x1, x2, x3⟩ := hu e
      exact ⟨hk.bs x1 (fun b hb' e => (x3 b hb').2 e), x2, x3⟩

theorem Want.eq {w : World} {wn K : Nat} {L L' : Nat → List Nat} {O : Nat → Prop} (h : Want w wn L K O) (hL : ∀ i, i < 4 → i < K → L i = L' i) : Want w wn L' K O :=
  ⟨fun i hi => by obtain ⟨v, c, f, hb⟩ := h.has i hi; exact ⟨v, c, f, fun hK => by rw [← hL i hi hK]; exact hb hK⟩, h.no⟩

theorem Want.turn {w w' : World} {wn K g m : Nat} {L : Nat → List Nat} {F F' : Nat → Prop} (h : Want w wn L K (Own g m F)) (hk : Keeps (Own g m F) w w') (hf : ∀ k, F' k → F k ∨ w.heap.size ≤ k) : Want w' wn L K (Own g m F') := by
  have hO : ∀ k, Own g m F' k → Own g m F k ∨ w.heap.size ≤ k := by
    rintro j (e | e | e)
    · exact .inl (.inl e)
    · exact .inl (.inr (.inl e))
    · exact (hf j e).imp (fun e => .inr (.inr e)) id
  have hl := h.lt
  have hn := h.no
  refine ⟨fun i hi => ?_, fun hs => ?_⟩
  · obtain ⟨v, c, f, hb⟩ := h.has i hi
    refine ⟨v, hk.cell c hn, by rw [hk.frozen (a := ⟨wn, i, none⟩) hl hn]; exact f, fun hK => ⟨hk.bs (hb hK).1 (fun b hb' => ((hb hK).2.2 b hb').1), (hb hK).2.1, fun b hb' => ⟨fun hs => ?_, ((hb hK).2.2 b hb').2⟩⟩⟩
    rcases hO b hs with hs | hs
    · exact ((hb hK).2.2 b hb').1 hs
    · have := bs_lt (hb hK).1 (by rw [(hb hK).2.1]; omega) b hb'; omega
  · rcases hO wn hs with hs | hs
    · exact hn hs
    · omega

theorem own_turn {g m B N : Nat} {F F' : Nat → Prop} (hO : ∀ k, Own g m F k → B ≤ k) (hB : B ≤ N) (hf : ∀ k, F' k → F k ∨ N ≤ k) : ∀ k, Own g m F' k → B ≤ k := by
  rintro k (e | e | e)
  · exact hO k (.inl e)
  · exact hO k (.inr (.inl e))
  · rcases hf k e with e | e
    · exact hO k (.inr (.inr e))
    · omega

set_option maxRecDepth 100000 in
set_option maxHeartbeats 4000000 in
theorem reads_walk (v : Value) (l : List OpX) (w : World) (h : Ops w v l) (hlen : l.length ≤ 140737488355328) :
    Calls Try.prog 7 #[v] w fun e w' => e = .returned (.bool true) ∧ Below w.heap.size w w' := by
  obtain ⟨i0, hi, hz0, hz1, hz2⟩ := info_parts Try.info5
  obtain ⟨ao, cap, rfl, hcap, hat⟩ := h
  obtain ⟨q, hq⟩ : ∃ q, min l.length 120 = q := ⟨_, rfl⟩
  have hq1 : q ≤ l.length := by omega
  have hq2 : q ≤ 120 := by omega
  have Hq := hide hq
  have Hat := hide hat
  clear hq hat
  go_enter Try.func7, Try.ntmps7
  go_wp2_with fail
  refine (played_any (.slice none 0 0) [] w (Ops.nil w) (by simp)).mono ?_
  rintro e w1 ⟨g, m, rfl, p1, F1, hD1, hb1, hO1⟩
  go_wp2_with fail
  refine (live_any w1).mono ?_
  rintro e w2 ⟨rfl, hb2⟩
  have hD2 := hD1.mono hb2
  have hlt2 := hD2.ownLt
  have hz1' := hb1.size
  have hz2' := hb2.size
  go_wp2_with fail
  have e0 : playS [] = newS 4 := by simp [playS, playK]
  rw [e0] at hD2
  obtain ⟨w3, hw3⟩ : ∃ w3, w2.alloc (.cells #[.slice none 0 0, .slice none 0 0, .slice none 0 0, .slice none 0 0] 57) = w3 := ⟨_, rfl⟩
  have hz3 : w3.heap.size = w2.heap.size + 1 := by rw [← hw3]; simp
  have hW3 : Want w3 w2.heap.size (fun _ => List.replicate 256 0) 0 (Own g m F1) := by
    refine ⟨fun i hi => ⟨.slice none 0 0, ?_, by rw [← hw3]; simp, by omega⟩, fun hs => by have := hlt2 _ hs; omega⟩
    rw [← hw3]
    match i, hi with
    | 0, _ => simp
    | 1, _ => simp
    | 2, _ => simp
    | 3, _ => simp
  have hD3 := hD2.mono (w' := w3) (by rw [← hw3]; exact (Below.refl _ _).alloc (Nat.le_refl _) _)
  have hb3 : Below w.heap.size w w3 := by rw [← hw3]; exact (hb1.trans (hb2.mono hz1')).alloc (by omega) _
  try rw [hw3]
  have Hw3 := hide hw3
  clear hw3 hD2 hD1
  go_loopw [18] (fun i wr => ∃ k : Nat, k ≤ 4 ∧ i = .int .i64 k ∧ Want wr w2.heap.size (fun _ => List.replicate 256 0) k (Own g m F1) ∧ Dk wr g m p1 F1 4 (newS 4) ∧ Below w.heap.size w wr) (fun i _ => 4 - (intOf i).toNat)
  case atStart => exact ⟨0, by omega, rfl, hW3, hD3, hb3⟩
  case round =>
    obtain ⟨k, hk, rfl, hW, hD, hb⟩ := hrel
    clear hW3 hD3 hb3
    by_cases hk4 : k < 4
    · obtain ⟨u, cu, fu, _⟩ := hW.has k hk4
      have hwl := hW.lt
      have hzr := hb.size
      go_wp2_with (at_make; refine wpList_make_full _ rfl (.const (.int .i64 256)) (.const (.int .i64 256)) 31 rfl 0 5 i0 (.int .u8 0) 1 Try.underlying31 hi hz0 hz1 .i64 .i64 256 256 256 rfl rfl rfl rfl (by rw [hz2]; omega) (by unfold maxLen; omega) (Nat.zero_le _) ?_; intro w4 hown hgrow; have cu4 := hgrow.cell cu (by simp); have fu4 := (show w4.frozen? ⟨w2.heap.size, k, none⟩ = false by rw [World.frozen?_of_block (w := wr) (a := ⟨w2.heap.size, k, none⟩) (hgrow.block _ hwl (by simp))]; exact fu))
      rw [made_zeros] at hown
      have hbg : Below wr.heap.size wr w4 := (Below.refl _ _).grown hgrow (Nat.le_refl _) (by intro k hk; cases hk)
      have hD4 := hD.mono hbg
      have hlt := hD.ownLt
      have hW4 := (hW.keeps (Keeps.of_below (S := fun _ => False) hbg) (fun _ h => h.elim)).set (K' := k + 1) (v := .slice (some ⟨wr.heap.size, 0, none⟩) 256 256) (l := List.replicate 256 0) hk4 (Bs.of_owns hown (fun x hx => by rw [List.eq_of_mem_replicate hx]; omega)) List.length_replicate
        (fun b hb' => by
          simp [Value.ownBlock] at hb'
          subst hb'
          exact ⟨fun hs => by have := hlt _ hs; omega, by omega⟩) (fun j hj => by omega)
      have hW5 := hW4.eq (L' := fun _ => List.replicate 256 0) (fun i _ _ => by split <;> rfl)
      have hD5 := hD4.keeps (keeps_set w4 w2.heap.size k (.slice (some ⟨wr.heap.size, 0, none⟩) 256 256)) (fun e => hW.no (.inl (by have e' : g = w2.heap.size := e; exact e'.symm))) (fun e => hW.no (.inr (.inl (by have e' : m = w2.heap.size := e; exact e'.symm)))) (fun j hj e => hW.no (.inr (.inr (by have e' : j = w2.heap.size := e; exact e' ▸ hj))))
      have hb5 := (hb.trans (hbg.mono hzr)).setCell (p := ⟨w2.heap.size, k, none⟩) (by simp; omega) (.slice (some ⟨wr.heap.size, 0, none⟩) 256 256)
      have HW5 := hide hW5
      have HD5 := hide hD5
      clear hW5 hW4 hD5 hD4 hown hgrow hW hD
      go_wp2_with fail
      go_roundw
      case rel => exact ⟨k + 1, by omega, by go_num, HW5.out, HD5.out, hb5⟩
      case measure => simp [intOf]; omega
    · obtain rfl : k = 4 := by omega
      have hW6 : Want wr w2.heap.size (fun i => readL (playK l 0) i) 4 (Own g m F1) := hW.eq (fun i hi _ => by rw [playK_zero, newS_read 4 i hi])
      rw [← playK_zero l] at hD
      have HW6 := hide hW6
      have HD6 := hide hD
      clear hW6 hW hD
      go_wp2_with fail
      case' inl => rw [show (max (120 : Int) 0) = ((q : Nat) : Int) by have := Hq.out; omega, show (120 : Nat) = q by have := Hq.out; omega]
      case' inr => rw [show l.length = q by have := Hq.out; omega]
      all_goals
        go_loopw [31] (fun i wr2 => ∃ k : Nat, k ≤ q ∧ i = .int .i64 k ∧ ∃ p F, Dk wr2 g m p F 4 (playK l k) ∧ Want wr2 w2.heap.size (fun i => readL (playK l k) i) 4 (Own g m F) ∧ Below w.heap.size w wr2 ∧ (∀ k, Own g m F k → w.heap.size ≤ k)) (fun i _ => q - (intOf i).toNat)
        case atStart => exact ⟨0, by omega, rfl, p1, F1, HD6.out, HW6.out, hb, hO1⟩
        case round =>
          obtain ⟨k, hk, rfl, p, F, hD, hW, hb', hO⟩ := hrel
          clear HD6 HW6 hb hO1
          by_cases hkq : k < q
          · have hkl : k < l.length := by omega
            obtain ⟨ob, off, rfl, hop⟩ := Hat.out (by omega)
            obtain ⟨vp, hA⟩ := hop k hkl
            have hA1 := hA.mono (w' := wr) hb'
            have hsu := playK_succ l k hkl
            have hcalm := playK_calm l k (by omega)
            have hcalm' := playK_calm l (k + 1) (by omega)
            have hpl : (playK l k).pend.length < 1000000 := by have := hcalm.pend; omega
            have hops : (playK l k).ops ≤ 1000000 := by have := hcalm.ops; omega
            have hpl' : (playK l (k + 1)).pend.length ≤ 1000000 := by have := hcalm'.pend; omega
            obtain ⟨s, hs⟩ : ∃ s, playK l k = s := ⟨_, rfl⟩
            rw [hs] at hD hsu hpl hops hcalm hW
            obtain ⟨s', hs'⟩ : ∃ s', playK l (k + 1) = s' := ⟨_, rfl⟩
            rw [hs'] at hsu hcalm' hpl'
            have Hs' := hide hs'
            generalize l[k] = x at *
            obtain ⟨xd, xb, xf, xl, xn, xp⟩ := x
            have a0 := hA1.c0
            have a1 := hA1.c1
            have a2 := hA1.c2
            have a3 := hA1.c3
            have a4 := hA1.c4
            have a5 := hA1.c5
            have hfill := hA1.fill
            have hbs := hA1.bs
            dsimp only at a0 a1 a2 a3 a4 a5 hfill hbs
            obtain ⟨vao, vcap, rfl, _⟩ := hbs
            have hwl := hb'.size
            have Hsu := hide hsu
            have HD := hide hD
            have HO := hide hO
            have Hb := hide hb'
            have HW := hide hW
            clear hsu hD hO hb' hA hA1 hop hs hs' hW
            obtain ⟨wb, hwb⟩ : ∃ wb, wr.alloc (.cells #[.int .i64 xd, .int .i64 xb, .int .u8 (xf : Int), .int .i64 xl, .int .i64 xn, .slice vao xp.length vcap] 33) = wb := ⟨_, rfl⟩
            have kb0 : Below wr.heap.size wr wb := by rw [← hwb]; exact (Below.refl _ _).alloc (Nat.le_refl _) _
            have hzb : wr.heap.size < wb.heap.size := by rw [← hwb]; simp
            have S0 : wb.cell? ⟨wr.heap.size, 0, none⟩ = some (.int .i64 xd) ∧ wb.cell? ⟨wr.heap.size, 1, none⟩ = some (.int .i64 xb) ∧ wb.cell? ⟨wr.heap.size, 2, none⟩ = some (.int .u8 (xf : Int)) ∧ wb.cell? ⟨wr.heap.size, 3, none⟩ = some (.int .i64 xl) ∧ wb.cell? ⟨wr.heap.size, 4, none⟩ = some (.int .i64 xn) ∧ wb.cell? ⟨wr.heap.size, 5, none⟩ = some (.slice vao xp.length vcap) := by
              rw [← hwb]; simp
            have hDb := HD.out.mono kb0
            have hWb := HW.out.keeps (Keeps.of_below (S := fun _ => False) kb0) (fun _ h => h.elim)
            have hlt := HD.out.ownLt
            have HDb := hide hDb
            have HWb := hide hWb
            have Hlt := hide hlt
            have Hcalm := hide hcalm
            clear hDb hlt hWb hcalm
            by_cases hd0 : xd = 0
            · subst hd0
              have hst : stepS s ⟨0, xb, xf, xl, xn, xp⟩ = (writeS s 4 xb (opBlock xf xl)).1 := by simp [stepS]
              rw [hst] at Hsu
              clear hst
              have hDd := HDb.out.mono ((Below.refl _ _).drew)
              have Sd : wb.drew.cell? ⟨wr.heap.size, 0, none⟩ = some (.int .i64 0) ∧ wb.drew.cell? ⟨wr.heap.size, 1, none⟩ = some (.int .i64 xb) ∧ wb.drew.cell? ⟨wr.heap.size, 2, none⟩ = some (.int .u8 (xf : Int)) ∧ wb.drew.cell? ⟨wr.heap.size, 3, none⟩ = some (.int .i64 xl) ∧ wb.drew.cell? ⟨wr.heap.size, 4, none⟩ = some (.int .i64 xn) ∧ wb.drew.cell? ⟨wr.heap.size, 5, none⟩ = some (.slice vao xp.length vcap) := S0
              have HDd := hide hDd
              clear hDd
              go_wp2_with fail
              go_region_held3 (fun w' => w'.cell? ⟨wr.heap.size, 0, none⟩ = some (.int .i64 0) ∧ w'.cell? ⟨wr.heap.size, 1, none⟩ = some (.int .i64 xb) ∧ w'.cell? ⟨wr.heap.size, 2, none⟩ = some (.int .u8 (xf : Int)) ∧ w'.cell? ⟨wr.heap.size, 3, none⟩ = some (.int .i64 xl) ∧ w'.cell? ⟨wr.heap.size, 4, none⟩ = some (.int .i64 xn) ∧ w'.cell? ⟨wr.heap.size, 5, none⟩ = some (.slice vao xp.length vcap))
                (first | exact Sd | exact S2 | exact S3)
                (first
                  | (go_at_call 29; refine (block_any 0 xb xf xl xn _ _ hfill ⟨_, _, _, rfl⟩).mono ?_; rintro e w4 ⟨v4, rfl, ho4, hb4⟩
                     have q2 := Keeps.of_below (S := fun _ => False) hb4
                     have S2 : w4.cell? ⟨wr.heap.size, 0, none⟩ = some (.int .i64 0) ∧ w4.cell? ⟨wr.heap.size, 1, none⟩ = some (.int .i64 xb) ∧ w4.cell? ⟨wr.heap.size, 2, none⟩ = some (.int .u8 (xf : Int)) ∧ w4.cell? ⟨wr.heap.size, 3, none⟩ = some (.int .i64 xl) ∧ w4.cell? ⟨wr.heap.size, 4, none⟩ = some (.int .i64 xn) ∧ w4.cell? ⟨wr.heap.size, 5, none⟩ = some (.slice vao xp.length vcap) := ⟨q2.cell Sd.1 id, q2.cell Sd.2.1 id, q2.cell Sd.2.2.1 id, q2.cell Sd.2.2.2.1 id, q2.cell Sd.2.2.2.2.1 id, q2.cell Sd.2.2.2.2.2 id⟩
                     skip)
                  | (go_at_call 15; refine (write_yes (HDd.out.mono hb4) xb _ (opBlock xf xl) (Bs.of_owns ho4 (opBlock_lt _ _)) (by have := opBlock_length xf xl; omega) hpl hops).mono ?_; rintro e w5 ⟨rfl, hT5⟩
                     obtain ⟨p5, F5, hD5, k5, hf5⟩ := hT5
                     have hn5 : ¬ Own g m F wr.heap.size := (fun h' => by have := Hlt.out _ h'; omega)
                     have S3 : w5.cell? ⟨wr.heap.size, 0, none⟩ = some (.int .i64 0) ∧ w5.cell? ⟨wr.heap.size, 1, none⟩ = some (.int .i64 xb) ∧ w5.cell? ⟨wr.heap.size, 2, none⟩ = some (.int .u8 (xf : Int)) ∧ w5.cell? ⟨wr.heap.size, 3, none⟩ = some (.int .i64 xl) ∧ w5.cell? ⟨wr.heap.size, 4, none⟩ = some (.int .i64 xn) ∧ w5.cell? ⟨wr.heap.size, 5, none⟩ = some (.slice vao xp.length vcap) := ⟨k5.cell S2.1 hn5, k5.cell S2.2.1 hn5, k5.cell S2.2.2.1 hn5, k5.cell S2.2.2.2.1 hn5, k5.cell S2.2.2.2.2.1 hn5, k5.cell S2.2.2.2.2.2 hn5⟩
                     skip))
              have z4 := hb4.size
              simp at z4
              have hW5 := (HWb.out.keeps (Keeps.of_below (S := fun _ => False) (show Below wb.heap.size wb w4 from ⟨hb4.os, hb4.tape, hb4.output, hb4.size, hb4.block⟩)) (fun _ h => h.elim)).turn k5 hf5
              have hO5 := own_turn HO.out (show w.heap.size ≤ w4.heap.size by omega) hf5
              have hb5 : Below w.heap.size w w5 := ((Hb.out.trans (kb0.mono hwl)).drew.trans (hb4.mono (by simp; omega))).trans (k5.below HO.out (by omega))
              rw [← Hsu.out] at hD5
              have HD5 := hide hD5
              have HW5 := hide hW5
              have z5 := k5.size
              clear hD5 hW5 S2 Sd S0 ho4
              by_cases hok : (writeS s 4 xb (opBlock xf xl)).2 = 0
              · obtain ⟨hin, hb256, hnew⟩ := writeS_ok Hcalm.out xb _ hok
                obtain ⟨bn, rfl, hbn⟩ : ∃ bn : Nat, xb = (bn : Int) ∧ bn < 4 := by
                  simp [inS] at hin
                  exact ⟨xb.toNat, by omega, by omega⟩
                rw [hok]
                have Hnew := hide hnew
                have Hb256 := hide hb256
                clear hok hin hnew hb256
                obtain ⟨u, cu, fu, _⟩ := HW5.out.has bn hbn
                have hwl5 := HW5.out.lt
                go_wp2_with fail
                have S5 : w5.drew.cell? ⟨wr.heap.size, 0, none⟩ = some (.int .i64 0) ∧ w5.drew.cell? ⟨wr.heap.size, 1, none⟩ = some (.int .i64 (bn : Int)) ∧ w5.drew.cell? ⟨wr.heap.size, 2, none⟩ = some (.int .u8 (xf : Int)) ∧ w5.drew.cell? ⟨wr.heap.size, 3, none⟩ = some (.int .i64 xl) ∧ w5.drew.cell? ⟨wr.heap.size, 4, none⟩ = some (.int .i64 xn) ∧ w5.drew.cell? ⟨wr.heap.size, 5, none⟩ = some (.slice vao xp.length vcap) := S3
                have hwn : wr.heap.size ≠ w2.heap.size := by have := HW.out.lt; omega
                have hbi : (bn : Int) < 4 := by omega
                have hbi0 : (0 : Int) ≤ (bn : Int) := by omega
                go_region_held3 (fun w' => w'.cell? ⟨wr.heap.size, 0, none⟩ = some (.int .i64 0) ∧ w'.cell? ⟨wr.heap.size, 1, none⟩ = some (.int .i64 (bn : Int)) ∧ w'.cell? ⟨wr.heap.size, 2, none⟩ = some (.int .u8 (xf : Int)) ∧ w'.cell? ⟨wr.heap.size, 3, none⟩ = some (.int .i64 xl) ∧ w'.cell? ⟨wr.heap.size, 4, none⟩ = some (.int .i64 xn) ∧ w'.cell? ⟨wr.heap.size, 5, none⟩ = some (.slice vao xp.length vcap))
                  (first | exact S5 | exact S6 | exact S7)
                  (first
                    | (go_at_call 29; refine (block_any 0 (bn : Int) xf xl xn _ _ hfill ⟨_, _, _, rfl⟩).mono ?_; rintro e w6 ⟨v6, rfl, ho6, hb6⟩
                       obtain ⟨ao6, cap6, rfl⟩ := owns_slice ho6
                       have q6 := Keeps.of_below (S := fun _ => False) hb6
                       have S6 : w6.cell? ⟨wr.heap.size, 0, none⟩ = some (.int .i64 0) ∧ w6.cell? ⟨wr.heap.size, 1, none⟩ = some (.int .i64 (bn : Int)) ∧ w6.cell? ⟨wr.heap.size, 2, none⟩ = some (.int .u8 (xf : Int)) ∧ w6.cell? ⟨wr.heap.size, 3, none⟩ = some (.int .i64 xl) ∧ w6.cell? ⟨wr.heap.size, 4, none⟩ = some (.int .i64 xn) ∧ w6.cell? ⟨wr.heap.size, 5, none⟩ = some (.slice vao xp.length vcap) := ⟨q6.cell S5.1 id, q6.cell S5.2.1 id, q6.cell S5.2.2.1 id, q6.cell S5.2.2.2.1 id, q6.cell S5.2.2.2.2.1 id, q6.cell S5.2.2.2.2.2 id⟩
                       have cu6 := q6.cell (show w5.drew.cell? ⟨w2.heap.size, bn, none⟩ = some u from cu) id
                       have fu6 : w6.frozen? ⟨w2.heap.size, bn, none⟩ = false := (by rw [q6.frozen (a := ⟨w2.heap.size, bn, none⟩) hwl5 id]; exact fu)
                       have q7 := keeps_set w6 w2.heap.size bn (.slice ao6 (opBlock xf xl).length cap6)
                       have S7 : (w6.setCell ⟨w2.heap.size, bn, none⟩ (.slice ao6 (opBlock xf xl).length cap6)).cell? ⟨wr.heap.size, 0, none⟩ = some (.int .i64 0) ∧ (w6.setCell ⟨w2.heap.size, bn, none⟩ (.slice ao6 (opBlock xf xl).length cap6)).cell? ⟨wr.heap.size, 1, none⟩ = some (.int .i64 (bn : Int)) ∧ (w6.setCell ⟨w2.heap.size, bn, none⟩ (.slice ao6 (opBlock xf xl).length cap6)).cell? ⟨wr.heap.size, 2, none⟩ = some (.int .u8 (xf : Int)) ∧ (w6.setCell ⟨w2.heap.size, bn, none⟩ (.slice ao6 (opBlock xf xl).length cap6)).cell? ⟨wr.heap.size, 3, none⟩ = some (.int .i64 xl) ∧ (w6.setCell ⟨w2.heap.size, bn, none⟩ (.slice ao6 (opBlock xf xl).length cap6)).cell? ⟨wr.heap.size, 4, none⟩ = some (.int .i64 xn) ∧ (w6.setCell ⟨w2.heap.size, bn, none⟩ (.slice ao6 (opBlock xf xl).length cap6)).cell? ⟨wr.heap.size, 5, none⟩ = some (.slice vao xp.length vcap) := ⟨q7.cell S6.1 hwn, q7.cell S6.2.1 hwn, q7.cell S6.2.2.1 hwn, q7.cell S6.2.2.2.1 hwn, q7.cell S6.2.2.2.2.1 hwn, q7.cell S6.2.2.2.2.2 hwn⟩
                       skip))
                have hb6' : Below w5.heap.size w5 w6 := ⟨hb6.os, hb6.tape, hb6.output, hb6.size, hb6.block⟩
                have hlt6 := ho6.lt
                have hltO := HD5.out.ownLt
                have hs6 := Bs.of_owns ho6 (opBlock_lt _ _)
                have hW7 := ((HW5.out.keeps (Keeps.of_below (S := fun _ => False) hb6') (fun _ h => h.elim)).set (K' := 4) hbn hs6 Hb256.out (fun b hb => ⟨fun hs => by have h1 : w5.heap.size ≤ b := (hlt6 b hb).1; have h2 := hltO b hs; omega, by have h1 : w5.heap.size ≤ b := (hlt6 b hb).1; omega⟩) (fun j hj => .inr hj)).eq (L' := fun i => readL s' i) (fun i hi _ => by
                  rw [Hsu.out, Hnew.out]
                  rw [readL_push]
                  simp only [Int.toNat_natCast]
                  by_cases e : i = bn
                  · rw [if_pos e, if_pos e.symm]
                  · rw [if_neg e, if_neg (fun h => e h.symm)])
                have hD7' := (HD5.out.mono hb6').keeps (keeps_set w6 w2.heap.size bn (.slice ao6 (opBlock xf xl).length cap6)) (fun e => HW5.out.no (.inl (by have e' : g = w2.heap.size := e; exact e'.symm))) (fun e => HW5.out.no (.inr (.inl (by have e' : m = w2.heap.size := e; exact e'.symm)))) (fun j hj e => HW5.out.no (.inr (.inr (by have e' : j = w2.heap.size := e; exact e' ▸ hj))))
                have hb7' : Below w.heap.size w (w6.setCell ⟨w2.heap.size, bn, none⟩ (.slice ao6 (opBlock xf xl).length cap6)) := (hb5.trans (hb6'.mono (by have := hb5.size; omega))).setCell (p := ⟨w2.heap.size, bn, none⟩) (by simp; omega) _
                obtain ⟨w7, hw7⟩ : ∃ w7, w6.setCell ⟨w2.heap.size, bn, none⟩ (.slice ao6 (opBlock xf xl).length cap6) = w7 := ⟨_, rfl⟩
                rw [hw7] at hW7 hD7' hb7'
                have HD3 : Hid (Dk w7 g m p5 F5 4 s') := hD7'
                have HW3 : Hid (Want w7 w2.heap.size (fun i => readL s' i) 4 (Own g m F5)) := hW7
                have hO3 := hO5
                have hb3 := hb7'
                clear hW7 hD7' hb7' S5 S6 S7 S3 cu6 fu6 q6 q7 ho6 hs6 hb6 cu fu
                go_wp2_with fail
                try rw [hw7]
                clear hw7
                go_loopw [64] (fun i wr3 => ∃ j : Nat, j ≤ 4 ∧ i = .int .i64 j ∧ Below w7.heap.size w7 wr3) (fun i _ => 4 - (intOf i).toNat)
                case atStart => exact ⟨0, by omega, rfl, Below.refl _ _⟩
                case round =>
                  obtain ⟨j, hj, rfl, hbr⟩ := hrel
                  have hD7 := HD3.out.mono hbr
                  have hW7 := HW3.out.keeps (Keeps.of_below (S := fun _ => False) hbr) (fun _ h => h.elim)
                  have hb7 : Below w.heap.size w _ := hb3.trans (hbr.mono hb3.size)
                  by_cases hj4 : j < 4
                  · obtain ⟨u, cu, fu, hbu0⟩ := hW7.has j hj4
                    obtain ⟨hbu, hlu, _⟩ := hbu0 hj4
                    clear hbu0
                    have hrd := read_yes hD7 (j : Int) hpl'
                    rw [readS_calm hcalm' j hj4] at hrd
                    dsimp only at hrd hbu hlu
                    have Hlu := hide hlu
                    clear hlu
                    generalize readL s' j = rl at *
                    have Hrd := hide hrd
                    clear hD7 hW7 hrd
                    go_wp2_with fail
                    refine (Hrd.out).mono ?_
                    rintro e w5 ⟨v5, rfl, ho5, hb5⟩
                    have cu5 := (Keeps.of_below (S := fun _ => False) hb5).cell cu id
                    have hbu5 := hbu.mono hb5
                    have hs5 := Bs.of_owns ho5 hbu.lt
                    obtain ⟨uao, ucap, rfl, _⟩ := hbu
                    obtain ⟨ao5, cap5, rfl⟩ := owns_slice ho5
                    clear ho5 cu
                    go_wp2_with fail
                    refine (equal_any _ _ _ _ _ hs5 hbu5).mono ?_
                    rintro e w' ⟨rfl, rfl⟩
                    rw [decide_eq_true rfl]
                    clear hs5 hbu5 cu5
                    go_wp2_with fail
                    go_roundw
                    case rel => exact ⟨j + 1, by omega, by go_num, hbr.trans (hb5.mono hbr.size)⟩
                    case measure => simp [intOf]; omega
                  · obtain rfl : j = 4 := by omega
                    go_wp2_with fail
                    go_roundw
                    case rel => exact ⟨k + 1, by omega, by go_num, _, _, by rw [Hs'.out]; exact hD7, by rw [Hs'.out]; exact hW7, hb7, hO3⟩
                    case measure => simp [intOf]; omega
              · have hne : ((writeS s 4 xb (opBlock xf xl)).2 == 0) = false := by simp [hok]
                have hsame := writeS_no Hcalm.out xb _ hok
                rw [hsame] at Hsu
                have HD3 : Hid (Dk w5 g m p5 F5 4 s') := HD5.out
                have HW3 : Hid (Want w5 w2.heap.size (fun i => readL s' i) 4 (Own g m F5)) := by have := HW5.out; rw [← Hsu.out] at this; exact this
                have hO3 := hO5
                have hb3 := hb5
                clear hok hsame
                generalize (writeS s 4 xb (opBlock xf xl)).2 = ew at *
                go_wp2_with fail
                clear S3
                try simp only [hne]
                go_loopw [64] (fun i wr3 => ∃ j : Nat, j ≤ 4 ∧ i = .int .i64 j ∧ Below w5.heap.size w5 wr3) (fun i _ => 4 - (intOf i).toNat)
                case atStart => exact ⟨0, by omega, rfl, Below.refl _ _⟩
                case round =>
                  obtain ⟨j, hj, rfl, hbr⟩ := hrel
                  have hD7 := HD3.out.mono hbr
                  have hW7 := HW3.out.keeps (Keeps.of_below (S := fun _ => False) hbr) (fun _ h => h.elim)
                  have hb7 : Below w.heap.size w _ := hb3.trans (hbr.mono hb3.size)
                  by_cases hj4 : j < 4
                  · obtain ⟨u, cu, fu, hbu0⟩ := hW7.has j hj4
                    obtain ⟨hbu, hlu, _⟩ := hbu0 hj4
                    clear hbu0
                    have hrd := read_yes hD7 (j : Int) hpl'
                    rw [readS_calm hcalm' j hj4] at hrd
                    dsimp only at hrd hbu hlu
                    have Hlu := hide hlu
                    clear hlu
                    generalize readL s' j = rl at *
                    have Hrd := hide hrd
                    clear hD7 hW7 hrd
                    go_wp2_with fail
                    refine (Hrd.out).mono ?_
                    rintro e w5 ⟨v5, rfl, ho5, hb5⟩
                    have cu5 := (Keeps.of_below (S := fun _ => False) hb5).cell cu id
                    have hbu5 := hbu.mono hb5
                    have hs5 := Bs.of_owns ho5 hbu.lt
                    obtain ⟨uao, ucap, rfl, _⟩ := hbu
                    obtain ⟨ao5, cap5, rfl⟩ := owns_slice ho5
                    clear ho5 cu
                    go_wp2_with fail
                    refine (equal_any _ _ _ _ _ hs5 hbu5).mono ?_
                    rintro e w' ⟨rfl, rfl⟩
                    rw [decide_eq_true rfl]
                    clear hs5 hbu5 cu5
                    go_wp2_with fail
                    go_roundw
                    case rel => exact ⟨j + 1, by omega, by go_num, hbr.trans (hb5.mono hbr.size)⟩
                    case measure => simp [intOf]; omega
                  · obtain rfl : j = 4 := by omega
                    go_wp2_with fail
                    go_roundw
                    case rel => exact ⟨k + 1, by omega, by go_num, _, _, by rw [Hs'.out]; exact hD7, by rw [Hs'.out]; exact hW7, hb7, hO3⟩
                    case measure => simp [intOf]; omega
            · by_cases hd1 : xd = 1
              · subst hd1
                have hst : stepS s ⟨1, xb, xf, xl, xn, xp⟩ = (flushS s).1 := by simp [stepS]
                rw [hst] at Hsu
                clear hst hd0
                go_wp2_with fail
                refine (flush_yes HDb.out (by omega) hops).mono ?_
                rintro e w3 ⟨rfl, hT3⟩
                rw [flushS_ok Hcalm.out]
                obtain ⟨p3, F3, hD3', k3, hf3⟩ := hT3
                rw [← Hsu.out] at hD3'
                have hW3' := (HWb.out.turn k3 hf3).eq (L' := fun i => readL s' i) (fun i hi _ => by rw [Hsu.out]; exact (flushS_read HD.out.ok Hcalm.out i hi).symm)
                have hO3 := own_turn HO.out (show w.heap.size ≤ wb.heap.size by omega) hf3
                have hb3 : Below w.heap.size w w3 := (Hb.out.trans (kb0.mono hwl)).trans (k3.below HO.out (by omega))
                have HD3 := hide hD3'
                have HW3 := hide hW3'
                clear hD3' hW3' k3 hf3 S0
                go_wp2_with fail
                go_loopw [64] (fun i wr3 => ∃ j : Nat, j ≤ 4 ∧ i = .int .i64 j ∧ Below w3.heap.size w3 wr3) (fun i _ => 4 - (intOf i).toNat)
                case atStart => exact ⟨0, by omega, rfl, Below.refl _ _⟩
                case round =>
                  obtain ⟨j, hj, rfl, hbr⟩ := hrel
                  have hD7 := HD3.out.mono hbr
                  have hW7 := HW3.out.keeps (Keeps.of_below (S := fun _ => False) hbr) (fun _ h => h.elim)
                  have hb7 : Below w.heap.size w _ := hb3.trans (hbr.mono hb3.size)
                  by_cases hj4 : j < 4
                  · obtain ⟨u, cu, fu, hbu0⟩ := hW7.has j hj4
                    obtain ⟨hbu, hlu, _⟩ := hbu0 hj4
                    clear hbu0
                    have hrd := read_yes hD7 (j : Int) hpl'
                    rw [readS_calm hcalm' j hj4] at hrd
                    dsimp only at hrd hbu hlu
                    have Hlu := hide hlu
                    clear hlu
                    generalize readL s' j = rl at *
                    have Hrd := hide hrd
                    clear hD7 hW7 hrd
                    go_wp2_with fail
                    refine (Hrd.out).mono ?_
                    rintro e w5 ⟨v5, rfl, ho5, hb5⟩
                    have cu5 := (Keeps.of_below (S := fun _ => False) hb5).cell cu id
                    have hbu5 := hbu.mono hb5
                    have hs5 := Bs.of_owns ho5 hbu.lt
                    obtain ⟨uao, ucap, rfl, _⟩ := hbu
                    obtain ⟨ao5, cap5, rfl⟩ := owns_slice ho5
                    clear ho5 cu
                    go_wp2_with fail
                    refine (equal_any _ _ _ _ _ hs5 hbu5).mono ?_
                    rintro e w' ⟨rfl, rfl⟩
                    rw [decide_eq_true rfl]
                    clear hs5 hbu5 cu5
                    go_wp2_with fail
                    go_roundw
                    case rel => exact ⟨j + 1, by omega, by go_num, hbr.trans (hb5.mono hbr.size)⟩
                    case measure => simp [intOf]; omega
                  · obtain rfl : j = 4 := by omega
                    go_wp2_with fail
                    go_roundw
                    case rel => exact ⟨k + 1, by omega, by go_num, _, _, by rw [Hs'.out]; exact hD7, by rw [Hs'.out]; exact hW7, hb7, hO3⟩
                    case measure => simp [intOf]; omega
              · have e0 : (xd == 0) = false := by simp [hd0]
                have e1 : (xd == 1) = false := by simp [hd1]
                have hst : stepS s ⟨xd, xb, xf, xl, xn, xp⟩ = s := by simp [stepS, hd0, hd1]
                rw [hst] at Hsu
                clear hd0 hd1 hst
                have p3 := p
                have hO3 := HO.out
                have hb3 : Below w.heap.size w wb := Hb.out.trans (kb0.mono hwl)
                have HD3 : Hid (Dk wb g m p F 4 s') := by have := HDb.out; rw [← Hsu.out] at this; exact this
                have HW3 : Hid (Want wb w2.heap.size (fun i => readL s' i) 4 (Own g m F)) := by have := HWb.out; rw [← Hsu.out] at this; exact this
                go_wp2_with fail
                clear S0
                go_loopw [64] (fun i wr3 => ∃ j : Nat, j ≤ 4 ∧ i = .int .i64 j ∧ Below wb.heap.size wb wr3) (fun i _ => 4 - (intOf i).toNat)
                case atStart => exact ⟨0, by omega, rfl, Below.refl _ _⟩
                case round =>
                  obtain ⟨j, hj, rfl, hbr⟩ := hrel
                  have hD7 := HD3.out.mono hbr
                  have hW7 := HW3.out.keeps (Keeps.of_below (S := fun _ => False) hbr) (fun _ h => h.elim)
                  have hb7 : Below w.heap.size w _ := hb3.trans (hbr.mono hb3.size)
                  by_cases hj4 : j < 4
                  · obtain ⟨u, cu, fu, hbu0⟩ := hW7.has j hj4
                    obtain ⟨hbu, hlu, _⟩ := hbu0 hj4
                    clear hbu0
                    have hrd := read_yes hD7 (j : Int) hpl'
                    rw [readS_calm hcalm' j hj4] at hrd
                    dsimp only at hrd hbu hlu
                    have Hlu := hide hlu
                    clear hlu
                    generalize readL s' j = rl at *
                    have Hrd := hide hrd
                    clear hD7 hW7 hrd
                    go_wp2_with fail
                    refine (Hrd.out).mono ?_
                    rintro e w5 ⟨v5, rfl, ho5, hb5⟩
                    have cu5 := (Keeps.of_below (S := fun _ => False) hb5).cell cu id
                    have hbu5 := hbu.mono hb5
                    have hs5 := Bs.of_owns ho5 hbu.lt
                    obtain ⟨uao, ucap, rfl, _⟩ := hbu
                    obtain ⟨ao5, cap5, rfl⟩ := owns_slice ho5
                    clear ho5 cu
                    go_wp2_with fail
                    refine (equal_any _ _ _ _ _ hs5 hbu5).mono ?_
                    rintro e w' ⟨rfl, rfl⟩
                    rw [decide_eq_true rfl]
                    clear hs5 hbu5 cu5
                    go_wp2_with fail
                    go_roundw
                    case rel => exact ⟨j + 1, by omega, by go_num, hbr.trans (hb5.mono hbr.size)⟩
                    case measure => simp [intOf]; omega
                  · obtain rfl : j = 4 := by omega
                    go_wp2_with fail
                    go_roundw
                    case rel => exact ⟨k + 1, by omega, by go_num, _, _, by rw [Hs'.out]; exact hD7, by rw [Hs'.out]; exact hW7, hb7, hO3⟩
                    case measure => simp [intOf]; omega
          · obtain rfl : k = q := by omega
            go_wp2_with fail
            go_ret
            exact ⟨by simp, hb'⟩

theorem diskReads_lifted (os : Os) (started : os.Started) (H : Type) (enc : TypeId × Value → H) :
    ReturnsInHanded {} Try.checked os 7 .any (Rows.diskReadsSpec.pre6 enc Try.prog Try.f7 Rows.diskReadsRow.domain false) (Rows.diskReadsSpec.post enc Try.prog Try.f7 false true false false) := by
  refine law_frame (C := Try.checked) rfl Try.own started (by kernel_rfl) Try.func7
    (ChangeSpec.witness6 (enc := enc) (C := Try.checked) false ⟨#[], #[.slice none 0 0], []⟩ 8 (by kernel_rfl) (by kernel_rfl) (by kernel_rfl) (by kernel_rfl))
    Try.laidOut ?_ 4 rfl Try.underlying4 ?_ ?_
  · rw [Try.params7]
    intro t ht
    simp at ht
    rcases ht with rfl <;> exact ⟨by kernel_rfl, of_decide_eq_true (by kernel_rfl)⟩
  · intro ds hn
    rw [Try.params7] at hn
    match ds, hn with
    | [d1], _ => rfl
  · intro W base args ds p hval0 hA hsz
    have hval : ∀ (j : Nat) t v, Try.f7.params[j]? = some t → args[j]? = some v → Value.okWide Try.prog W .any base t v := hval0
    rw [Try.params7] at hA hsz hval
    obtain ⟨v0, vs0, d0, ds0, p0, q0, hargs, rfl, rfl, h0, r0⟩ := trodAll_cons hA
    obtain ⟨rfl, rfl, rfl⟩ := trodAll_nil r0
    obtain rfl : args = #[v0] := by cases args; simp_all
    obtain ⟨l0, hop0, hol0⟩ := Ops.came (hval 0 22 v0 rfl rfl) h0 hsz (j := 0) rfl rfl
    exact reads_walk _ l0 W hop0 hol0

theorem diskReads_holds : Rows.DiskReadsSaid :=
  OpenClaim.holds_of_wide 7 Try.f7 rfl rfl rfl rfl rfl rfl rfl ⟨rfl, rfl, rfl, rfl, rfl⟩ rfl rfl rfl rfl rfl (by kernel_rfl) Try.func7 (by kernel_rfl)
    (of_decide_eq_true (by kernel_rfl)) (by unfold Func.isWrapper; first | (rw [if_pos (by decide +kernel)]; kernel_rfl) | (rw [if_neg (by decide +kernel)]; exact ⟨rfl, rfl⟩))
    (fun os started H enc _ => diskReads_lifted os started H enc)
#print axioms diskReads_holds

end Go.Proofs.Ytjcobealnjkkcaa
