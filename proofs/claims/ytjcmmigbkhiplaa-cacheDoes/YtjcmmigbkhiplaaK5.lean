/- The cache and its disk side by side (CD); contract: comeIn of a cache. -/
import Derived.Test.YtjcmmigbkhiplaaK4
set_option linter.unusedSimpArgs false
set_option linter.unusedVariables false
namespace Go.Proofs.Ytjcmmigbkhiplaa
open Go.RowKit Go.Attic

/-- The cache in block c and the disk in block g: their blocks are apart, and lie in S. -/
structure CDx (w : World) (c g : Nat) (S : Nat → Prop) (room n : Nat) (s : St) (m q : Nat) (B : List Bu) (F : Nat → Prop) (gm : Nat) (p : Option Nat) (Fd : Nat → Prop) : Prop where
  ca : Ca w c m g room q B F
  asc : Asc B q
  dk : Dk w g gm p Fd n s
  ap : ∀ k, (k = c ∨ F k) → ¬ Own g gm Fd k
  inS : ∀ k, (k = c ∨ F k) ∨ Own g gm Fd k → S k
  lt : ∀ k, S k → k < w.heap.size
  few : B.length ≤ room
  r2 : room ≤ 256

section
variable {w w' : World} {c g : Nat} {S : Nat → Prop} {room n : Nat} {s : St} {m q : Nat} {B : List Bu} {F : Nat → Prop} {gm : Nat} {p : Option Nat} {Fd : Nat → Prop}

theorem CDx.mono (h : CDx w c g S room n s m q B F gm p Fd) (hb : Below w.heap.size w w') : CDx w' c g S room n s m q B F gm p Fd :=
  ⟨h.ca.mono hb, h.asc, h.dk.mono hb, h.ap, h.inS, fun k hk => Nat.lt_of_lt_of_le (h.lt k hk) hb.size, h.few, h.r2⟩
theorem CDx.keeps {T : Nat → Prop} (h : CDx w c g S room n s m q B F gm p Fd) (hk : Keeps T w w') (hT : ∀ k, S k → ¬ T k) : CDx w' c g S room n s m q B F gm p Fd :=
  ⟨h.ca.keeps hk (hT _ (h.inS _ (.inl (.inl rfl)))) (fun k hF => hT _ (h.inS _ (.inl (.inr hF)))), h.asc,
    h.dk.keeps hk (hT _ (h.inS _ (.inr (.inl rfl)))) (hT _ (h.inS _ (.inr (.inr (.inl rfl))))) (fun k hF => hT _ (h.inS _ (.inr (.inr (.inr hF))))), h.ap, h.inS, fun k hk' => Nat.lt_of_lt_of_le (h.lt k hk') hk.size, h.few, h.r2⟩
theorem CDx.nb (h : CDx w c g S room n s m q B F gm p Fd) : B.length ≤ 256 := Nat.le_trans h.few h.r2

/-- The cache turned, the disk did not. -/
theorem CDx.turned {q' : Nat} {B' : List Bu} {F' : Nat → Prop} (h : CDx w c g S room n s m q B F gm p Fd) (hC : Ca w' c m g room q' B' F') (hA : Asc B' q') (hk : Keeps (fun k => k = c ∨ F k) w w') (hF : ∀ k, F' k → F k ∨ w.heap.size ≤ k) (hl : B'.length ≤ room) :
    ∃ S', CDx w' c g S' room n s m q' B' F' gm p Fd ∧ ∀ k, S' k → S k ∨ w.heap.size ≤ k := by
  have hd : ∀ k, Own g gm Fd k → ¬ (k = c ∨ F k) := fun k ho hc => h.ap k hc ho
  have hdl : ∀ k, Own g gm Fd k → k < w.heap.size := fun k ho => h.lt k (h.inS k (.inr ho))
  refine ⟨fun k => (k = c ∨ F' k) ∨ Own g gm Fd k, ⟨hC, hA, h.dk.keeps hk (hd _ (.inl rfl)) (hd _ (.inr (.inl rfl))) (fun k hf => hd _ (.inr (.inr hf))), ?_, fun k hk => hk, ?_, hl, h.r2⟩, ?_⟩
  · rintro k (e | e) ho
    · exact hd k ho (.inl e)
    · rcases hF k e with h1 | h1
      · exact hd k ho (.inr h1)
      · have := hdl k ho; omega
  · rintro k ((e | e) | e)
    · rw [e]; exact hC.cl
    · exact hC.Fl k e
    · exact Nat.lt_of_lt_of_le (hdl k e) hk.size
  · rintro k ((e | e) | e)
    · exact .inl (h.inS k (.inl (.inl e)))
    · exact (hF k e).imp (fun h1 => h.inS k (.inl (.inr h1))) id
    · exact .inl (h.inS k (.inr e))

theorem BufAt.asked {w : World} {x : Bu} (h : BufAt w x) (v : Nat) : BufAt (w.setCell ⟨x.p, 2, none⟩ (.int .i64 (v : Int))) { x with a := v } := by
  have hk : Keeps (fun k => k = x.p) w (w.setCell ⟨x.p, 2, none⟩ (.int .i64 (v : Int))) := Keeps.setCell (S := fun k => k = x.p) w rfl _
  by_cases hpr : x.p = x.r
  · exfalso
    have h1 := h.c0
    have h2 := h.row
    rw [hpr] at h1
    have hc := h2.cells (g := x.r) rfl 0 (.int .u8 (x.l.getD 0 0 : Nat)) (by have := h.len; simp [cellsB, List.getD]; cases hl : x.l with | nil => rw [hl] at this; simp at this | cons y r => simp)
    simp only [Addr.add_lit, Nat.zero_add] at hc
    rw [h1] at hc
    cases hc
  · exact ⟨cell_set_other h.c0 (by omega), cell_set_other h.c1 (by omega), cell_set_same h.c2, by simpa using h.f1, by simpa using h.f2, hk.owns h.row (fun b hb => by cases hb; exact fun e => hpr e.symm), h.len, h.lt, h.i⟩

/-- The newest one is asked for. -/
theorem Ca.touch {B0 : List Bu} {x : Bu} (h : Ca w c m g room q (B0 ++ [x]) F) (v : Nat) : Ca ((w.setCell ⟨c, 3, none⟩ (.int .i64 (v : Int))).setCell ⟨x.p, 2, none⟩ (.int .i64 (v : Int))) c m g room v (B0 ++ [{ x with a := v }]) F := by
  have h1 := h.ask v
  exact h1.upd rfl rfl rfl (Keeps.setCell (S := fun k => k = x.p ∨ k = x.r) _ (.inl rfl) _) ((h1.bu x (by simp)).asked v)
theorem map_en_filter (B : List Bu) (i : Nat) : (B.map Bu.en).filter (fun y => y.i != i) = (B.filter fun y => y.i != i).map Bu.en := en_filter B _

/-- What comeIn leaves where the block comes in. -/
def Came1 (w : World) (c g : Nat) (S : Nat → Prop) (room n : Nat) (s : St) (m q : Nat) (F : Nat → Prop) (gm : Nat) (p : Option Nat) (Fd : Nat → Prop) (A : List En) (y : En) (e : Ending) (w' : World) : Prop :=
  ∃ (B0 : List Bu) (x : Bu) (F' S' : Nat → Prop), e = .returned (.tuple #[.pointer (some ⟨x.p, 0, none⟩), .int .i64 0]) ∧ CDx w' c g S' room n s m (q + 1) (B0 ++ [x]) F' gm p Fd ∧ B0.map Bu.en = A ∧ x.en = y ∧ Keeps (fun k => k = c ∨ F k) w w' ∧ (∀ k, S' k → S k ∨ w.heap.size ≤ k) ∧ ∀ k, F' k → F k ∨ w.heap.size ≤ k

/-- The end of comeIn: the newest one is asked for. -/
theorem CDx.came {w1 : World} {B0 : List Bu} {x : Bu} {F1 : Nat → Prop} {l : List Nat} (h : CDx w c g S room n s m q B F gm p Fd) (h1 : Ca w1 c m g room q (B0 ++ [x]) F1) (hA : Asc B0 q) (hl : B0.length + 1 ≤ room) (hk : Keeps (fun k => F k) w w1) (hF : ∀ k, F1 k → F k ∨ w.heap.size ≤ k) :
    Came1 w c g S room n s m q F gm p Fd (B0.map Bu.en) x.en (.returned (.tuple #[.pointer (some ⟨x.p, 0, none⟩), .int .i64 0])) ((w1.setCell ⟨c, 3, none⟩ (.int .i64 ((q + 1 : Nat) : Int))).setCell ⟨x.p, 2, none⟩ (.int .i64 ((q + 1 : Nat) : Int))) := by
  have h2 := h1.touch (q + 1)
  have hin := (h1.inF x (by simp)).1
  have hk2 : Keeps (fun k => k = c ∨ F k) w ((w1.setCell ⟨c, 3, none⟩ (.int .i64 ((q + 1 : Nat) : Int))).setCell ⟨x.p, 2, none⟩ (.int .i64 ((q + 1 : Nat) : Int))) := by
    refine ((hk.mono (fun k hk => .inr hk)).trans (Keeps.setCell (S := fun k => k = c ∨ F k) w1 (.inl rfl) _)).trans' (Keeps.setCell (S := fun k => k = x.p) _ rfl _) ?_
    intro k e
    have e' : k = x.p := e
    rw [e']
    exact (hF _ hin).imp (fun h => .inr h) id
  obtain ⟨S', h3, h4⟩ := h.turned h2 (hA.snoc _ rfl) hk2 hF (by simpa using hl)
  exact ⟨B0, { x with a := q + 1 }, F1, S', rfl, h3, rfl, rfl, hk2, h4, hF⟩

set_option maxRecDepth 100000 in
set_option maxHeartbeats 1000000 in
theorem comein_err (i : Nat) (h : CDx w c g S room n s m q B F gm p Fd) (hq : q ≤ 1000000) (hpl : s.pend.length ≤ 1000000) (hi : i < n) (A : List En) (y : En) (er : Int) (hr : comeL room s (B.map Bu.en) i = (A, y, er)) (hne : er ≠ 0) :
    Calls Try.prog 36 #[.pointer (some ⟨c, 0, none⟩), .int .i64 (i : Int)] w fun e w' => e = .returned (.tuple #[.pointer none, .int .i64 er]) ∧ Below w.heap.size w w' := by
  have hn2 := h.dk.ok.n2
  have hf : (∀ x ∈ B, x.i ≠ i) ∧ Calls Try.prog 53 #[.pointer (some ⟨c, 0, none⟩), .int .i64 (i : Int)] w fun e w' => e = .returned (.tuple #[.pointer none, .int .i64 er]) ∧ Below w.heap.size w w' := by
    unfold comeL at hr
    rw [en_find] at hr
    rcases find_i (B := B) i with ⟨x, hx, hxi, hfd⟩ | ⟨hno, hfd⟩
    · have hfd' : B.find? (fun x => x.en.i == i) = some x := hfd
      rw [hfd'] at hr
      simp at hr
      exact absurd hr.2.2.symm hne
    · have hfd' : B.find? (fun x => x.en.i == i) = none := hfd
      rw [hfd'] at hr
      simp only [Option.map_none, List.length_map] at hr
      refine ⟨hno, ?_⟩
      by_cases hfull : room ≤ B.length
      · rw [if_pos hfull, en_find] at hr
        cases ho : B.find? (fun x => !x.d) with
        | none =>
          have ho' : B.find? (fun x => !x.en.d) = none := ho
          rw [ho'] at hr
          simp at hr
          rw [← hr.2.2]
          exact fetch_full _ h.ca h.asc hq h.nb hfull ho
        | some o =>
          have ho' : B.find? (fun x => !x.en.d) = some o := ho
          rw [ho'] at hr
          simp only [Option.map_some] at hr
          cases hon : s.on with
          | true => rw [if_neg (by simp [hon])] at hr; simp at hr; exact absurd hr.2.2.symm hne
          | false =>
            rw [if_pos hon] at hr
            simp at hr
            rw [← hr.2.2]
            exact fetch_off i h.ca h.asc h.dk hq hpl hon (some o) ho true (by simp [hfull]) rfl
      · rw [if_neg hfull] at hr
        cases hon : s.on with
        | true => rw [if_neg (by simp [hon])] at hr; simp at hr; exact absurd hr.2.2.symm hne
        | false =>
          rw [if_pos hon] at hr
          simp at hr
          rw [← hr.2.2]
          exact fetch_off i h.ca h.asc h.dk hq hpl hon _ rfl false (by simp [hfull]) rfl
  obtain ⟨hno, hc⟩ := hf
  have c2 := h.ca.c2
  have hlk := h.ca.mp.miss (i : Int) (by omega) (fun x hx e => by obtain ⟨y, hy, rfl⟩ := key_mem hx; exact hno y hy (by have e2 : (y.i : Int) = (i : Int) := e; omega))
  have hnb : (er != 0) = true := by simp [hne]
  have Hc := hide hc
  clear h hc hno hr
  go_enter Try.func36, Try.ntmps36
  go_wp2_with fail
  refine Hc.out.mono ?_
  rintro e w' ⟨rfl, hb⟩
  go_wp2_with fail
  go_ret2
  exact ⟨rfl, hb⟩

set_option maxRecDepth 100000 in
set_option maxHeartbeats 1000000 in
theorem comein_found (i : Nat) (h : CDx w c g S room n s m q B F gm p Fd) (hq : q ≤ 1000000) (hi : i < n) (x1 : Bu) (hx : x1 ∈ B) (hxi : x1.i = i) :
    Calls Try.prog 36 #[.pointer (some ⟨c, 0, none⟩), .int .i64 (i : Int)] w (Came1 w c g S room n s m q F gm p Fd ((B.filter fun y => y.i != i).map Bu.en) x1.en) := by
  have c2 := h.ca.c2
  have hlk := h.ca.mp.look ((x1.i : Int), x1.p) (List.mem_map.2 ⟨x1, hx, rfl⟩)
  simp only [hxi] at hlk
  have hp := pull_perm h.ca.nodup hx
  rw [hxi] at hp
  have hlen := hp.length_eq
  have C1 := h.ca.perm hp
  have hasc := h.asc.filter (fun y => y.i != i)
  have hfew := h.few
  have t3 := C1.c3
  have tf := C1.f3
  have tb := C1.bu x1 (by simp)
  have tp := tb.c2
  have tf2 := tb.f2
  have hne : x1.p ≠ c := fun e => C1.Fc (e ▸ (C1.inF x1 (by simp)).1)
  have HC1 := hide C1
  clear C1 tb
  have H := hide h
  have Hasc := hide hasc
  clear h hasc hp
  go_enter Try.func36, Try.ntmps36
  go_wp2_with fail
  go_ret2
  exact CDx.came (l := []) H.out HC1.out Hasc.out (by simp at hlen; omega) (Keeps.refl _ _) (fun k hk => .inl hk)

set_option maxRecDepth 100000 in
set_option maxHeartbeats 1000000 in
theorem comein_new (i : Nat) (h : CDx w c g S room n s m q B F gm p Fd) (hq : q ≤ 1000000) (hi : i < n) (hno : ∀ x ∈ B, x.i ≠ i) (B0 : List Bu) (hasc : Asc B0 q) (hlen : B0.length + 1 ≤ room) (l : List Nat)
    (hf : Calls Try.prog 53 #[.pointer (some ⟨c, 0, none⟩), .int .i64 (i : Int)] w (Fetched w c m g room q B0 F i l)) :
    Calls Try.prog 36 #[.pointer (some ⟨c, 0, none⟩), .int .i64 (i : Int)] w (Came1 w c g S room n s m q F gm p Fd (B0.map Bu.en) ⟨i, l, false⟩) := by
  have hn2 := h.dk.ok.n2
  have c2 := h.ca.c2
  have hlk := h.ca.mp.miss (i : Int) (by omega) (fun x hx e => by obtain ⟨y, hy, rfl⟩ := key_mem hx; exact hno y hy (by have e2 : (y.i : Int) = (i : Int) := e; omega))
  have H := hide h
  have Hasc := hide hasc
  have Hf := hide hf
  clear h hasc hf hno
  go_enter Try.func36, Try.ntmps36
  go_wp2_with fail
  refine Hf.out.mono ?_
  rintro e w1 ⟨x1, F1, rfl, hxi, hxl, hxd, C1, hk1, hF1⟩
  have hxe : x1.en = ⟨i, l, false⟩ := by simp [Bu.en, hxi, hxl, hxd]
  have Hxe := hide hxe
  clear hxe hxi hxl hxd
  have t3 := C1.c3
  have tf := C1.f3
  have tb := C1.bu x1 (by simp)
  have tp := tb.c2
  have tf2 := tb.f2
  have hne : x1.p ≠ c := fun e => C1.Fc (e ▸ (C1.inF x1 (by simp)).1)
  have HC1 := hide C1
  clear C1 tb
  go_wp2_with fail
  go_ret2
  have hfin := CDx.came (l := []) H.out HC1.out Hasc.out hlen (hk1.mono (fun k e => by have e' : k = m := e; rw [e']; exact H.out.ca.Fm)) hF1
  rw [Hxe.out] at hfin
  exact hfin

theorem comein_ok (i : Nat) (h : CDx w c g S room n s m q B F gm p Fd) (hq : q ≤ 1000000) (hpl : s.pend.length ≤ 1000000) (hi : i < n) (h2 : 1 ≤ room) (A : List En) (y : En) (hr : comeL room s (B.map Bu.en) i = (A, y, 0)) :
    Calls Try.prog 36 #[.pointer (some ⟨c, 0, none⟩), .int .i64 (i : Int)] w (Came1 w c g S room n s m q F gm p Fd A y) := by
  unfold comeL at hr
  rw [en_find] at hr
  rcases find_i (B := B) i with ⟨x, hx, hxi, hfd⟩ | ⟨hno, hfd⟩
  · have hfd' : B.find? (fun x => x.en.i == i) = some x := hfd
    rw [hfd'] at hr
    simp only [Option.map_some, Prod.mk.injEq, and_true] at hr
    rw [← hr.1, ← hr.2, map_en_filter]
    exact comein_found i h hq hi x hx hxi
  · have hfd' : B.find? (fun x => x.en.i == i) = none := hfd
    rw [hfd'] at hr
    simp only [Option.map_none, List.length_map] at hr
    by_cases hfull : room ≤ B.length
    · rw [if_pos hfull, en_find] at hr
      cases ho : B.find? (fun x => !x.d) with
      | none =>
        have ho' : B.find? (fun x => !x.en.d) = none := ho
        rw [ho'] at hr
        simp at hr
      | some o =>
        have ho' : B.find? (fun x => !x.en.d) = some o := ho
        rw [ho'] at hr
        simp only [Option.map_some] at hr
        cases hon : s.on with
        | false => rw [if_pos hon] at hr; simp at hr
        | true =>
          rw [if_neg (by simp [hon])] at hr
          simp only [Prod.mk.injEq, and_true] at hr
          rw [← hr.1, ← hr.2, map_en_filter]
          have hom := List.mem_of_find?_eq_some ho
          have hlp := (pull_perm h.ca.nodup hom).length_eq
          have hfew := h.few
          exact comein_new i h hq hi hno _ (h.asc.filter _) (by simp at hlp; show (B.filter fun y => y.i != o.i).length + 1 ≤ room; omega) _ (fetch_goes i h.ca h.asc h.dk hq h.nb hpl hon hi hno hfull o ho)
    · rw [if_neg hfull] at hr
      cases hon : s.on with
      | false => rw [if_pos hon] at hr; simp at hr
      | true =>
        rw [if_neg (by simp [hon])] at hr
        simp only [Prod.mk.injEq, and_true] at hr
        rw [← hr.1, ← hr.2]
        exact comein_new i h hq hi hno B h.asc (by omega) _ (fetch_some i h.ca h.asc h.dk hq h.nb hpl hon hi hno hfull)

end

end Go.Proofs.Ytjcmmigbkhiplaa
