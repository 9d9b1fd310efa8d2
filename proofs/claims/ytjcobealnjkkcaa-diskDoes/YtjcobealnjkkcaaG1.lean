/- Contract: played. -/
import Derived.Test.YtjcobealnjkkcaaF3
set_option linter.unusedSimpArgs false
set_option linter.unusedVariables false
namespace Go.Proofs.Ytjcobealnjkkcaa
open Go.RowKit Go.Attic

/-- A disk behind an operation of those that let the power be. -/
def stepS (s : St) (o : OpX) : St := if o.d = 0 then (writeS s 4 o.b (opBlock o.fill o.len)).1 else if o.d = 1 then (flushS s).1 else s
def playK (l : List OpX) (k : Nat) : St := (l.take k).foldl stepS (newS 4)
def playS (l : List OpX) : St := playK l 120

theorem playK_zero (l : List OpX) : playK l 0 = newS 4 := by simp [playK]
theorem playK_succ (l : List OpX) (k : Nat) (hk : k < l.length) : playK l (k + 1) = stepS (playK l k) l[k] := by
  simp only [playK]
  rw [List.take_add_one, List.foldl_append, List.getElem?_eq_getElem hk]
  rfl
theorem playK_end (l : List OpX) (k : Nat) (hk : k = min l.length 120) : playK l k = playS l := by
  simp only [playS, playK]
  congr 1
  rw [hk]
  by_cases h : l.length ≤ 120
  · rw [Nat.min_eq_left h, List.take_of_length_le (Nat.le_refl _), List.take_of_length_le h]
  · rw [Nat.min_eq_right (by omega)]

/-- The power is there, nothing is armed, and little is pending. -/
structure Calm (s : St) (k : Nat) : Prop where
  on : s.on = true
  left : s.left = 0
  pend : s.pend.length ≤ k
  ops : s.ops ≤ k

theorem Calm.write {s : St} {k : Nat} (h : Calm s k) (n : Nat) (i : Int) (b : List Nat) : Calm (writeS s n i b).1 (k + 1) := by
  have h1 := h.on
  have h2 := h.left
  have h3 := h.pend
  have h4 := h.ops
  simp only [writeS]
  split
  · exact ⟨h1, h2, Nat.le_succ_of_le h3, Nat.le_succ_of_le h4⟩
  · split
    · exact ⟨h1, h2, Nat.le_succ_of_le h3, Nat.le_succ_of_le h4⟩
    · split
      · exact ⟨h1, h2, Nat.le_succ_of_le h3, Nat.le_succ_of_le h4⟩
      · have e : operS { s with pend := s.pend ++ [(i.toNat, b)] } = ({ s with pend := s.pend ++ [(i.toNat, b)], ops := s.ops + 1 }, 0) := by simp [operS, h2]
        rw [e]
        exact ⟨h1, h2, by simp; omega, by simp; omega⟩

theorem Calm.flush {s : St} {k : Nat} (h : Calm s k) : Calm (flushS s).1 (k + 1) := by
  have h1 := h.on
  have h2 := h.left
  have h3 := h.pend
  have h4 := h.ops
  simp only [flushS, operS, h1, h2]
  exact ⟨by simp [h1], by simp [h2], by simp, by simp; omega⟩

theorem Calm.step {s : St} {k : Nat} (h : Calm s k) (o : OpX) : Calm (stepS s o) (k + 1) := by
  simp only [stepS]
  split
  · exact h.write _ _ _
  · split
    · exact h.flush
    · exact ⟨h.on, h.left, by have := h.pend; omega, by have := h.ops; omega⟩

theorem playK_calm (l : List OpX) (k : Nat) (hk : k ≤ l.length) : Calm (playK l k) k := by
  induction k with
  | zero => rw [playK_zero]; exact ⟨rfl, rfl, Nat.le_refl _, Nat.le_refl _⟩
  | succ k ih => rw [playK_succ l k (by omega)]; exact (ih (by omega)).step _

theorem Turn.own {w w' : World} {g m n B : Nat} {F : Nat → Prop} {s : St} (h : Turn w g m F n s w') (hO : ∀ k, Own g m F k → B ≤ k) (hB : B ≤ w.heap.size) :
    ∃ p' F', Dk w' g m p' F' n s ∧ Keeps (Own g m F) w w' ∧ (∀ k, Own g m F' k → B ≤ k) ∧ Below B w w' := by
  obtain ⟨⟨p', F', h1, h2, h3⟩⟩ := (show Nonempty (∃ p' F', Dk w' g m p' F' n s ∧ Keeps (Own g m F) w w' ∧ ∀ k, F' k → F k ∨ w.heap.size ≤ k) from ⟨h⟩)
  refine ⟨p', F', h1, h2, ?_, h2.below hO hB⟩
  rintro k (e | e | e)
  · exact hO k (.inl e)
  · exact hO k (.inr (.inl e))
  · rcases h3 k e with e | e
    · exact hO k (.inr (.inr e))
    · omega

theorem Dk.ownLt {w : World} {g m : Nat} {p : Option Nat} {F : Nat → Prop} {n : Nat} {s : St} (h : Dk w g m p F n s) : ∀ k, Own g m F k → k < w.heap.size := by
  rintro k (e | e | e)
  · subst e; exact h.gl
  · subst e; exact h.ml
  · exact h.Fl k e

/-- A disk that was made and used since B0. -/
def Mine (B0 : World) (g m n : Nat) (s : St) (w : World) : Prop := ∃ p F, Dk w g m p F n s ∧ Below B0.heap.size B0 w ∧ ∀ k, Own g m F k → B0.heap.size ≤ k

theorem min_le_l (a b : Nat) : min a b ≤ a := by omega

set_option maxRecDepth 100000 in
set_option maxHeartbeats 2000000 in
theorem played_any (v : Value) (l : List OpX) (w : World) (h : Ops w v l) (hlen : l.length ≤ 140737488355328) :
    Calls Try.prog 24 #[v] w fun e w' => ∃ g m, e = .returned (.pointer (some ⟨g, 0, none⟩)) ∧ Mine w g m 4 (playS l) w' := by
  obtain ⟨ao, cap, rfl, hcap, hat⟩ := h
  obtain ⟨q, hq⟩ : ∃ q, min l.length 120 = q := ⟨_, rfl⟩
  have hq1 : q ≤ l.length := by omega
  have hq2 : q ≤ 120 := by omega
  have Hq := hide hq
  have Hat := hide hat
  clear hq hat
  go_enter Try.func24, Try.ntmps24
  go_wp2_with fail
  refine (new_yes 4 w (by omega) (by omega)).mono ?_
  rintro e w1 ⟨g, m, rfl, hD1, hb1, hg1, hm1⟩
  have hO1 : ∀ k, Own g m (fun _ => False) k → w.heap.size ≤ k := by
    rintro k (e | e | e)
    · omega
    · omega
    · exact e.elim
  go_wp2_with fail
  case' inl => rw [show (max (120 : Int) 0) = ((q : Nat) : Int) by have := Hq.out; omega, show (120 : Nat) = q by have := Hq.out; omega]
  case' inr => rw [show l.length = q by have := Hq.out; omega]
  all_goals
    go_loopw [23] (fun i wr => ∃ k : Nat, k ≤ q ∧ i = .int .i64 k ∧ Mine w g m 4 (playK l k) wr) (fun i _ => q - (intOf i).toNat)
    case atStart => exact ⟨0, by omega, rfl, none, _, by rw [playK_zero]; exact hD1, hb1, hO1⟩
    case round =>
      obtain ⟨k, hk, rfl, p, F, hD, hb, hO⟩ := hrel
      clear hD1 hb1 hO1
      by_cases hkq : k < q
      · have hkl : k < l.length := by omega
        obtain ⟨ob, off, rfl, hop⟩ := Hat.out (by omega)
        obtain ⟨vp, hA⟩ := hop k hkl
        have hA1 := hA.mono (w' := wr) hb
        have hsu := playK_succ l k hkl
        have hcalm := playK_calm l k (by omega)
        have hpl : (playK l k).pend.length < 1000000 := by have := hcalm.pend; omega
        have hops : (playK l k).ops ≤ 1000000 := by have := hcalm.ops; omega
        obtain ⟨s, hs⟩ : ∃ s, playK l k = s := ⟨_, rfl⟩
        rw [hs] at hD hsu hpl hops
        generalize l[k] = x at *
        obtain ⟨xd, xb, xf, xl, xn, xp⟩ := x
        have a0 := hA1.c0
        have a1 := hA1.c1
        have a2 := hA1.c2
        have a3 := hA1.c3
        have a4 := hA1.c4
        have a5 := hA1.c5
        have hfill := hA1.fill
        have hbs := hA1.bs
        dsimp only at a0 a1 a2 a3 a4 a5 hfill hbs
        obtain ⟨vao, vcap, rfl, _⟩ := hbs
        have hwl := hb.size
        have Hsu := hide hsu
        have HD := hide hD
        have HO := hide hO
        have Hb := hide hb
        clear hsu hD hO hb hA hA1 hop hcalm hs
        obtain ⟨wb, hwb⟩ : ∃ wb, wr.alloc (.cells #[.int .i64 xd, .int .i64 xb, .int .u8 (xf : Int), .int .i64 xl, .int .i64 xn, .slice vao xp.length vcap] 33) = wb := ⟨_, rfl⟩
        have kb0 : Below wr.heap.size wr wb := by rw [← hwb]; exact (Below.refl _ _).alloc (Nat.le_refl _) _
        have hzb : wr.heap.size < wb.heap.size := by rw [← hwb]; simp
        have S0 : wb.cell? ⟨wr.heap.size, 0, none⟩ = some (.int .i64 xd) ∧ wb.cell? ⟨wr.heap.size, 1, none⟩ = some (.int .i64 xb) ∧ wb.cell? ⟨wr.heap.size, 2, none⟩ = some (.int .u8 (xf : Int)) ∧ wb.cell? ⟨wr.heap.size, 3, none⟩ = some (.int .i64 xl) ∧ wb.cell? ⟨wr.heap.size, 4, none⟩ = some (.int .i64 xn) ∧ wb.cell? ⟨wr.heap.size, 5, none⟩ = some (.slice vao xp.length vcap) := by
          rw [← hwb]; simp
        have hDb := HD.out.mono kb0
        have hlt := HD.out.ownLt
        have HDb := hide hDb
        have Hlt := hide hlt
        clear hDb hlt
        by_cases hd0 : xd = 0
        · subst hd0
          have hst : stepS s ⟨0, xb, xf, xl, xn, xp⟩ = (writeS s 4 xb (opBlock xf xl)).1 := by simp [stepS]
          rw [hst] at Hsu
          clear hst
          have hDd := HDb.out.mono ((Below.refl _ _).drew)
          have Sd : wb.drew.cell? ⟨wr.heap.size, 0, none⟩ = some (.int .i64 0) ∧ wb.drew.cell? ⟨wr.heap.size, 1, none⟩ = some (.int .i64 xb) ∧ wb.drew.cell? ⟨wr.heap.size, 2, none⟩ = some (.int .u8 (xf : Int)) ∧ wb.drew.cell? ⟨wr.heap.size, 3, none⟩ = some (.int .i64 xl) ∧ wb.drew.cell? ⟨wr.heap.size, 4, none⟩ = some (.int .i64 xn) ∧ wb.drew.cell? ⟨wr.heap.size, 5, none⟩ = some (.slice vao xp.length vcap) := S0
          have HDd := hide hDd
          clear hDd
          go_wp2_with fail
          go_region_held3 (fun w' => w'.cell? ⟨wr.heap.size, 0, none⟩ = some (.int .i64 0) ∧ w'.cell? ⟨wr.heap.size, 1, none⟩ = some (.int .i64 xb) ∧ w'.cell? ⟨wr.heap.size, 2, none⟩ = some (.int .u8 (xf : Int)) ∧ w'.cell? ⟨wr.heap.size, 3, none⟩ = some (.int .i64 xl) ∧ w'.cell? ⟨wr.heap.size, 4, none⟩ = some (.int .i64 xn) ∧ w'.cell? ⟨wr.heap.size, 5, none⟩ = some (.slice vao xp.length vcap))
            (first | exact Sd | exact S2 | exact S3)
            (first
              | (go_at_call 29; refine (block_any 0 xb xf xl xn _ _ hfill ⟨_, _, _, rfl⟩).mono ?_; rintro e w2 ⟨v2, rfl, ho2, hb2⟩
                 have q2 := Keeps.of_below (S := fun _ => False) hb2
                 have S2 : w2.cell? ⟨wr.heap.size, 0, none⟩ = some (.int .i64 0) ∧ w2.cell? ⟨wr.heap.size, 1, none⟩ = some (.int .i64 xb) ∧ w2.cell? ⟨wr.heap.size, 2, none⟩ = some (.int .u8 (xf : Int)) ∧ w2.cell? ⟨wr.heap.size, 3, none⟩ = some (.int .i64 xl) ∧ w2.cell? ⟨wr.heap.size, 4, none⟩ = some (.int .i64 xn) ∧ w2.cell? ⟨wr.heap.size, 5, none⟩ = some (.slice vao xp.length vcap) := ⟨q2.cell Sd.1 id, q2.cell Sd.2.1 id, q2.cell Sd.2.2.1 id, q2.cell Sd.2.2.2.1 id, q2.cell Sd.2.2.2.2.1 id, q2.cell Sd.2.2.2.2.2 id⟩
                 skip)
              | (go_at_call 15; refine (write_yes (HDd.out.mono hb2) xb _ (opBlock xf xl) (Bs.of_owns ho2 (opBlock_lt _ _)) (by have := opBlock_length xf xl; omega) hpl hops).mono ?_; rintro e w3 ⟨rfl, hT3⟩
                 obtain ⟨p3, F3, hD3, k3, hO3, hb3⟩ := hT3.own HO.out (by have := hb2.size; simp at this; omega)
                 have hn3 : ¬ Own g m F wr.heap.size := (fun h' => by have := Hlt.out _ h'; omega)
                 have S3 : w3.cell? ⟨wr.heap.size, 0, none⟩ = some (.int .i64 0) ∧ w3.cell? ⟨wr.heap.size, 1, none⟩ = some (.int .i64 xb) ∧ w3.cell? ⟨wr.heap.size, 2, none⟩ = some (.int .u8 (xf : Int)) ∧ w3.cell? ⟨wr.heap.size, 3, none⟩ = some (.int .i64 xl) ∧ w3.cell? ⟨wr.heap.size, 4, none⟩ = some (.int .i64 xn) ∧ w3.cell? ⟨wr.heap.size, 5, none⟩ = some (.slice vao xp.length vcap) := ⟨k3.cell S2.1 hn3, k3.cell S2.2.1 hn3, k3.cell S2.2.2.1 hn3, k3.cell S2.2.2.2.1 hn3, k3.cell S2.2.2.2.2.1 hn3, k3.cell S2.2.2.2.2.2 hn3⟩
                 skip))
          have HD3 := hide hD3
          have hbf : Below w.heap.size w w3 := ((Hb.out.trans (kb0.mono hwl)).drew.trans (hb2.mono (by simp; omega))).trans hb3
          clear hD3 hT3 S3 S2 Sd S0 ho2
          go_wp2_with fail
          go_roundw
          case rel => exact ⟨k + 1, by omega, by go_num, p3, F3, by rw [Hsu.out]; exact HD3.out, hbf, hO3⟩
          case measure => simp [intOf]; omega
        · by_cases hd1 : xd = 1
          · subst hd1
            have hst : stepS s ⟨1, xb, xf, xl, xn, xp⟩ = (flushS s).1 := by simp [stepS]
            rw [hst] at Hsu
            clear hst
            go_wp2_with fail
            refine (flush_yes HDb.out (by omega) hops).mono ?_
            rintro e w3 ⟨rfl, hT3⟩
            obtain ⟨p3, F3, hD3, k3, hO3, hb3⟩ := hT3.own HO.out (by omega)
            have HD3 := hide hD3
            clear hD3 hT3
            go_wp2_with fail
            go_roundw
            case rel => exact ⟨k + 1, by omega, by go_num, p3, F3, by rw [Hsu.out]; exact HD3.out, (Hb.out.trans (kb0.mono hwl)).trans hb3, hO3⟩
            case measure => simp [intOf]; omega
          · have e0 : (xd == 0) = false := by simp [hd0]
            have e1 : (xd == 1) = false := by simp [hd1]
            have hst : stepS s ⟨xd, xb, xf, xl, xn, xp⟩ = s := by simp [stepS, hd0, hd1]
            rw [hst] at Hsu
            clear hd0 hd1 hst
            go_wp2_with fail
            go_roundw
            case rel => exact ⟨k + 1, by omega, by go_num, p, F, by rw [Hsu.out]; exact HDb.out, Hb.out.trans (kb0.mono hwl), HO.out⟩
            case measure => simp [intOf]; omega
      · obtain rfl : k = q := by omega
        rw [playK_end l k Hq.out.symm] at hD
        go_wp2_with fail
        go_ret
        exact ⟨g, m, rfl, p, F, hD, hb, hO⟩

end Go.Proofs.Ytjcobealnjkkcaa
