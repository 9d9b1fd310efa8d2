/- Two disks side by side, the program's and the document's. -/
import Derived.Test.YtjcobealnjkkcaaS0
set_option linter.unusedSimpArgs false
set_option linter.unusedVariables false
namespace Go.Proofs.Ytjcobealnjkkcaa
open Go.RowKit Go.Attic

/-- Both disks stand, in the states sd and sr, apart from each other, made since W; since Z nothing has turned but in S0. -/
structure Two (Z : World) (S0 : Nat → Prop) (W w : World) (n : Nat) (sd sr : St) (g m gr : Nat) (p q pr : Option Nat) (F Fr : Nat → Prop) : Prop where
  d : Dk w g m p F n sd
  r : Dr w gr q pr Fr n sr
  dW : ∀ k, Own g m F k → W.heap.size ≤ k
  rW : ∀ k, OwnR gr Fr k → W.heap.size ≤ k
  ap : ∀ k, Own g m F k → ¬ OwnR gr Fr k
  bel : Below W.heap.size W w
  zW : W.heap.size ≤ Z.heap.size
  kz : Keeps S0 Z w
  dz : ∀ k, Own g m F k → S0 k ∨ Z.heap.size ≤ k
  rz : ∀ k, OwnR gr Fr k → S0 k ∨ Z.heap.size ≤ k

theorem Two.keeps {Z : World} {S0 : Nat → Prop} {W w w' : World} {n : Nat} {sd sr : St} {g m gr : Nat} {p q pr : Option Nat} {F Fr S : Nat → Prop} (h : Two Z S0 W w n sd sr g m gr p q pr F Fr) (hk : Keeps S w w') (h1 : ∀ k, S k → ¬ Own g m F k) (h2 : ∀ k, S k → ¬ OwnR gr Fr k) (h3 : ∀ k, S k → Z.heap.size ≤ k) : Two Z S0 W w' n sd sr g m gr p q pr F Fr :=
  ⟨h.d.keeps hk (fun e => h1 _ e (.inl rfl)) (fun e => h1 _ e (.inr (.inl rfl))) (fun k hk e => h1 _ e (.inr (.inr hk))), h.r.keeps hk (fun e => h2 _ e (.inl rfl)) (fun k hk e => h2 _ e (.inr hk)), h.dW, h.rW, h.ap, h.bel.trans (hk.below (fun k e => Nat.le_trans h.zW (h3 k e)) h.bel.size), h.zW, h.kz.trans' hk (fun k e => .inr (h3 k e)), h.dz, h.rz⟩

theorem Two.mono {Z : World} {S0 : Nat → Prop} {W w w' : World} {n : Nat} {sd sr : St} {g m gr : Nat} {p q pr : Option Nat} {F Fr : Nat → Prop} (h : Two Z S0 W w n sd sr g m gr p q pr F Fr) (hb : Below w.heap.size w w') : Two Z S0 W w' n sd sr g m gr p q pr F Fr :=
  h.keeps (Keeps.of_below (S := fun _ => False) hb) (fun _ e => e.elim) (fun _ e => e.elim) (fun _ e => e.elim)

/-- The program's disk turns. -/
theorem Two.turn {Z : World} {S0 : Nat → Prop} {W w w' : World} {n : Nat} {sd sr sd' : St} {g m gr : Nat} {p q pr : Option Nat} {F Fr : Nat → Prop} (h : Two Z S0 W w n sd sr g m gr p q pr F Fr) (ht : Turn w g m F n sd' w') : Keeps (Own g m F) w w' ∧ ∃ p' F', Two Z S0 W w' n sd' sr g m gr p' q pr F' Fr := by
  obtain ⟨p', F', d', k, f⟩ := ht
  have hrl := h.r.ownLt
  refine ⟨k, p', F', d', h.r.keeps k (fun e => h.ap _ e (.inl rfl)) (fun j hj e => h.ap _ e (.inr hj)), ?_, h.rW, ?_, h.bel.trans (k.below h.dW h.bel.size), h.zW, h.kz.trans' k h.dz, ?_, h.rz⟩
  · rintro j (e | e | e)
    · exact h.dW j (.inl e)
    · exact h.dW j (.inr (.inl e))
    · rcases f j e with e | e
      · exact h.dW j (.inr (.inr e))
      · have := h.bel.size; omega
  · rintro j (e | e | e) hr
    · exact h.ap j (.inl e) hr
    · exact h.ap j (.inr (.inl e)) hr
    · rcases f j e with e | e
      · exact h.ap j (.inr (.inr e)) hr
      · have := hrl j hr; omega
  · rintro j (e | e | e)
    · exact h.dz j (.inl e)
    · exact h.dz j (.inr (.inl e))
    · rcases f j e with e | e
      · exact h.dz j (.inr (.inr e))
      · have := h.kz.size; exact .inr (by omega)

/-- The document's disk turns. -/
theorem Two.turnR {Z : World} {S0 : Nat → Prop} {W w w' : World} {n : Nat} {sd sr sr' : St} {g m gr : Nat} {p q pr : Option Nat} {F Fr : Nat → Prop} (h : Two Z S0 W w n sd sr g m gr p q pr F Fr) (ht : TurnR w gr Fr n sr' w') : Keeps (OwnR gr Fr) w w' ∧ ∃ q' pr' Fr', Two Z S0 W w' n sd sr' g m gr p q' pr' F Fr' := by
  obtain ⟨q', pr', Fr', r', k, f⟩ := ht
  have hdl := h.d.ownLt
  refine ⟨k, q', pr', Fr', h.d.keeps k (fun e => h.ap _ (.inl rfl) e) (fun e => h.ap _ (.inr (.inl rfl)) e) (fun j hj e => h.ap _ (.inr (.inr hj)) e), r', h.dW, ?_, ?_, h.bel.trans (k.below h.rW h.bel.size), h.zW, h.kz.trans' k h.rz, h.dz, ?_⟩
  · rintro j (e | e)
    · exact h.rW j (.inl e)
    · rcases f j e with e | e
      · exact h.rW j (.inr e)
      · have := h.bel.size; omega
  · rintro j hd (e | e)
    · exact h.ap j hd (.inl e)
    · rcases f j e with e | e
      · exact h.ap j hd (.inr e)
      · have := hdl j hd; omega
  · rintro j (e | e)
    · exact h.rz j (.inl e)
    · rcases f j e with e | e
      · exact h.rz j (.inr e)
      · have := h.kz.size; exact .inr (by omega)

/-- What an operation of a script makes of a disk. -/
def doesS (s : St) (n : Nat) (x : OpX) : St :=
  if x.d = 0 then (writeS s n x.b (opBlock x.fill x.len)).1 else if x.d = 1 then (flushS s).1 else if x.d = 2 then (armS s x.n x.picks).1 else if x.d = 3 then (crashS s x.picks).1 else if x.d = 4 then (restartS s).1 else s

/-- Both, in one state. -/
def Both (Z : World) (S0 : Nat → Prop) (W : World) (n : Nat) (s : St) (g m gr : Nat) (w : World) : Prop := ∃ p q pr F Fr, Two Z S0 W w n s s g m gr p q pr F Fr

theorem lastW_mem {ps : List (Nat × List Nat)} {i : Nat} {b : List Nat} (h : lastW ps i = some b) : ∃ x ∈ ps, x.2 = b := by
  induction ps with
  | nil => simp [lastW] at h
  | cons x ps ih =>
    simp only [lastW] at h
    cases hl : lastW ps i with
    | some l =>
      rw [hl] at h ih
      obtain ⟨y, hy, e⟩ := ih h
      exact ⟨y, by simp [hy], e⟩
    | none =>
      rw [hl] at h
      by_cases hx : x.1 = i
      · exact ⟨x, by simp, by simpa [hx] using h⟩
      · simp [hx] at h

theorem readS_lt {s : St} {n : Nat} (hok : s.Ok n) (i : Int) : ∀ x ∈ (readS s n i).1, x < 256 := by
  intro x hx
  simp only [readS] at hx
  split at hx
  · simp at hx
  · split at hx
    · simp at hx
    · simp only [readL] at hx
      cases hl : lastW s.pend i.toNat with
      | none => rw [hl] at hx; exact blockL_lt hok.lt _ x hx
      | some b =>
        rw [hl] at hx
        obtain ⟨y, hy, e⟩ := lastW_mem hl
        exact (hok.pend y hy).2.2 x (by rw [e]; exact hx)

theorem bsW_lt {w : World} {v : Value} {l : List Nat} (h : Bs w v l) (hl : 0 < l.length) : ∀ b, v.ownBlock = some b → b < w.heap.size := by
  obtain ⟨ao, cap, rfl, _, _, _, hc⟩ := h
  obtain ⟨b, off, rfl, hcell⟩ := hc hl
  intro b' e
  have := World.block_lt_of_cell? w _ (hcell 0 hl)
  simp [Value.ownBlock] at e
  simp at this
  omega

theorem ret_self (a : Int) : (a == a) = true := by simp

set_option maxRecDepth 100000 in
set_option maxHeartbeats 4000000 in
theorem does1 {Z : World} {S0 : Nat → Prop} {W w : World} {n : Nat} {s : St} {g m gr : Nat} (h : Both Z S0 W n s g m gr w) (x : OpX) (vp : Value) (hvp : Bs W vp x.picks) (hfill : x.fill < 256) (hn : x.n ≤ 9223372036854775807) (hpk : x.picks.length ≤ 140737488355328) (hpl : s.pend.length < 1000000) (hops : s.ops ≤ 1000000) (h1 : x.d = 1) :
    Calls Try.prog 12 #[.pointer (some ⟨g, 0, none⟩), .pointer (some ⟨gr, 0, none⟩), .agg #[.int .i64 x.d, .int .i64 x.b, .int .u8 (x.fill : Int), .int .i64 x.len, .int .i64 x.n, vp]] w fun e w' => e = .returned (.bool true) ∧ Both Z S0 W n (doesS s n x) g m gr w' := by
  obtain ⟨p, q, pr, F, Fr, hT⟩ := h
  obtain ⟨xd, xb, xf, xl, xn, xp⟩ := x
  dsimp only at *
  obtain ⟨vao, vcap, rfl, _⟩ := id hvp
  obtain ⟨wb, hwb⟩ : ∃ wb, w.alloc (.cells #[.int .i64 xd, .int .i64 xb, .int .u8 (xf : Int), .int .i64 xl, .int .i64 xn, .slice vao xp.length vcap] 33) = wb := ⟨_, rfl⟩
  have kb0 : Below w.heap.size w wb := by rw [← hwb]; exact (Below.refl _ _).alloc (Nat.le_refl _) _
  have hzb : w.heap.size < wb.heap.size := by rw [← hwb]; simp
  have s0 : wb.cell? ⟨w.heap.size, 0, none⟩ = some (.int .i64 xd) := by rw [← hwb]; simp
  have s1 : wb.cell? ⟨w.heap.size, 1, none⟩ = some (.int .i64 xb) := by rw [← hwb]; simp
  have s2 : wb.cell? ⟨w.heap.size, 2, none⟩ = some (.int .u8 (xf : Int)) := by rw [← hwb]; simp
  have s3 : wb.cell? ⟨w.heap.size, 3, none⟩ = some (.int .i64 xl) := by rw [← hwb]; simp
  have s4 : wb.cell? ⟨w.heap.size, 4, none⟩ = some (.int .i64 xn) := by rw [← hwb]; simp
  have s5 : wb.cell? ⟨w.heap.size, 5, none⟩ = some (.slice vao xp.length vcap) := by rw [← hwb]; simp
  have hnd : ¬ Own g m F w.heap.size := fun e => by have := hT.d.ownLt _ e; omega
  have hnr : ¬ OwnR gr Fr w.heap.size := fun e => by have := hT.r.ownLt _ e; omega
  have hTb := hT.mono kb0
  have hvb : ∀ w', Below W.heap.size W w' → Bs w' (.slice vao xp.length vcap) xp := fun w' hb => hvp.mono hb
  have HT := hide hTb
  have Hvb := hide hvb
  have hzW := hT.bel.size
  have hzZ := hT.kz.size
  have Hdg : Hid (0 < xp.length → ∀ b, (Value.slice vao xp.length vcap).ownBlock = some b → b ≠ g) := hide (fun h0 b hb e => by have := bsW_lt hvp h0 b hb; have := hT.dW g (.inl rfl); omega)
  have Hdm : Hid (0 < xp.length → ∀ b, (Value.slice vao xp.length vcap).ownBlock = some b → b ≠ m) := hide (fun h0 b hb e => by have := bsW_lt hvp h0 b hb; have := hT.dW m (.inr (.inl rfl)); omega)
  have Hrg : Hid (0 < xp.length → ∀ b, (Value.slice vao xp.length vcap).ownBlock = some b → b ≠ gr) := hide (fun h0 b hb e => by have := bsW_lt hvp h0 b hb; have := hT.rW gr (.inl rfl); omega)
  have Hrq : Hid (0 < xp.length → ∀ b, (Value.slice vao xp.length vcap).ownBlock = some b → q ≠ some b) := hide (fun h0 b hb e => by have := bsW_lt hvp h0 b hb; have := hT.rW b (.inr (hT.r.qF b e).1); omega)
  clear hT hTb hvb
  subst h1
  have e : doesS s n ⟨1, xb, xf, xl, xn, xp⟩ = (flushS s).1 := by simp [doesS]
  rw [e]; clear e
  go_enter Try.func12, Try.ntmps12
  go_wp2_with fail
  refine (flush_yes HT.out.d (by omega) hops).mono ?_
  rintro e w1 ⟨rfl, ht1⟩
  obtain ⟨_, p1, F1, hT1⟩ := HT.out.turn ht1
  go_wp2_with fail
  refine (rflush_yes hT1.r (by omega) hops).mono ?_
  rintro e w2 ⟨rfl, ht2⟩
  obtain ⟨_, q2, pr2, Fr2, hT2⟩ := hT1.turnR ht2
  have hself := ret_self (flushS s).2
  have HB : Hid (Both Z S0 W n (flushS s).1 g m gr w2) := ⟨_, _, _, _, _, hT2⟩
  clear hT1 hT2 ht1 ht2
  go_wp2
  go_ret
  exact ⟨by simp, HB.out⟩

set_option maxRecDepth 100000 in
set_option maxHeartbeats 4000000 in
theorem does4 {Z : World} {S0 : Nat → Prop} {W w : World} {n : Nat} {s : St} {g m gr : Nat} (h : Both Z S0 W n s g m gr w) (x : OpX) (vp : Value) (hvp : Bs W vp x.picks) (hfill : x.fill < 256) (hn : x.n ≤ 9223372036854775807) (hpk : x.picks.length ≤ 140737488355328) (hpl : s.pend.length < 1000000) (hops : s.ops ≤ 1000000) (h4 : x.d = 4) :
    Calls Try.prog 12 #[.pointer (some ⟨g, 0, none⟩), .pointer (some ⟨gr, 0, none⟩), .agg #[.int .i64 x.d, .int .i64 x.b, .int .u8 (x.fill : Int), .int .i64 x.len, .int .i64 x.n, vp]] w fun e w' => e = .returned (.bool true) ∧ Both Z S0 W n (doesS s n x) g m gr w' := by
  obtain ⟨p, q, pr, F, Fr, hT⟩ := h
  obtain ⟨xd, xb, xf, xl, xn, xp⟩ := x
  dsimp only at *
  obtain ⟨vao, vcap, rfl, _⟩ := id hvp
  obtain ⟨wb, hwb⟩ : ∃ wb, w.alloc (.cells #[.int .i64 xd, .int .i64 xb, .int .u8 (xf : Int), .int .i64 xl, .int .i64 xn, .slice vao xp.length vcap] 33) = wb := ⟨_, rfl⟩
  have kb0 : Below w.heap.size w wb := by rw [← hwb]; exact (Below.refl _ _).alloc (Nat.le_refl _) _
  have hzb : w.heap.size < wb.heap.size := by rw [← hwb]; simp
  have s0 : wb.cell? ⟨w.heap.size, 0, none⟩ = some (.int .i64 xd) := by rw [← hwb]; simp
  have s1 : wb.cell? ⟨w.heap.size, 1, none⟩ = some (.int .i64 xb) := by rw [← hwb]; simp
  have s2 : wb.cell? ⟨w.heap.size, 2, none⟩ = some (.int .u8 (xf : Int)) := by rw [← hwb]; simp
  have s3 : wb.cell? ⟨w.heap.size, 3, none⟩ = some (.int .i64 xl) := by rw [← hwb]; simp
  have s4 : wb.cell? ⟨w.heap.size, 4, none⟩ = some (.int .i64 xn) := by rw [← hwb]; simp
  have s5 : wb.cell? ⟨w.heap.size, 5, none⟩ = some (.slice vao xp.length vcap) := by rw [← hwb]; simp
  have hnd : ¬ Own g m F w.heap.size := fun e => by have := hT.d.ownLt _ e; omega
  have hnr : ¬ OwnR gr Fr w.heap.size := fun e => by have := hT.r.ownLt _ e; omega
  have hTb := hT.mono kb0
  have hvb : ∀ w', Below W.heap.size W w' → Bs w' (.slice vao xp.length vcap) xp := fun w' hb => hvp.mono hb
  have HT := hide hTb
  have Hvb := hide hvb
  have hzW := hT.bel.size
  have hzZ := hT.kz.size
  have Hdg : Hid (0 < xp.length → ∀ b, (Value.slice vao xp.length vcap).ownBlock = some b → b ≠ g) := hide (fun h0 b hb e => by have := bsW_lt hvp h0 b hb; have := hT.dW g (.inl rfl); omega)
  have Hdm : Hid (0 < xp.length → ∀ b, (Value.slice vao xp.length vcap).ownBlock = some b → b ≠ m) := hide (fun h0 b hb e => by have := bsW_lt hvp h0 b hb; have := hT.dW m (.inr (.inl rfl)); omega)
  have Hrg : Hid (0 < xp.length → ∀ b, (Value.slice vao xp.length vcap).ownBlock = some b → b ≠ gr) := hide (fun h0 b hb e => by have := bsW_lt hvp h0 b hb; have := hT.rW gr (.inl rfl); omega)
  have Hrq : Hid (0 < xp.length → ∀ b, (Value.slice vao xp.length vcap).ownBlock = some b → q ≠ some b) := hide (fun h0 b hb e => by have := bsW_lt hvp h0 b hb; have := hT.rW b (.inr (hT.r.qF b e).1); omega)
  clear hT hTb hvb
  subst h4
  have e : doesS s n ⟨4, xb, xf, xl, xn, xp⟩ = (restartS s).1 := by simp [doesS]
  rw [e]; clear e
  go_enter Try.func12, Try.ntmps12
  go_wp2_with fail
  refine (restart_yes HT.out.d).mono ?_
  rintro e w1 ⟨rfl, ht1⟩
  obtain ⟨_, p1, F1, hT1⟩ := HT.out.turn ht1
  go_wp2_with fail
  refine (rrestart_yes hT1.r).mono ?_
  rintro e w2 ⟨rfl, ht2⟩
  obtain ⟨_, q2, pr2, Fr2, hT2⟩ := hT1.turnR ht2
  have hself := ret_self (restartS s).2
  have HB : Hid (Both Z S0 W n (restartS s).1 g m gr w2) := ⟨_, _, _, _, _, hT2⟩
  clear hT1 hT2 ht1 ht2
  go_wp2
  go_ret
  exact ⟨by simp, HB.out⟩

set_option maxRecDepth 100000 in
set_option maxHeartbeats 4000000 in
theorem does2 {Z : World} {S0 : Nat → Prop} {W w : World} {n : Nat} {s : St} {g m gr : Nat} (h : Both Z S0 W n s g m gr w) (x : OpX) (vp : Value) (hvp : Bs W vp x.picks) (hfill : x.fill < 256) (hn : x.n ≤ 9223372036854775807) (hpk : x.picks.length ≤ 140737488355328) (hpl : s.pend.length < 1000000) (hops : s.ops ≤ 1000000) (h2 : x.d = 2) :
    Calls Try.prog 12 #[.pointer (some ⟨g, 0, none⟩), .pointer (some ⟨gr, 0, none⟩), .agg #[.int .i64 x.d, .int .i64 x.b, .int .u8 (x.fill : Int), .int .i64 x.len, .int .i64 x.n, vp]] w fun e w' => e = .returned (.bool true) ∧ Both Z S0 W n (doesS s n x) g m gr w' := by
  obtain ⟨p, q, pr, F, Fr, hT⟩ := h
  obtain ⟨xd, xb, xf, xl, xn, xp⟩ := x
  dsimp only at *
  obtain ⟨vao, vcap, rfl, _⟩ := id hvp
  obtain ⟨wb, hwb⟩ : ∃ wb, w.alloc (.cells #[.int .i64 xd, .int .i64 xb, .int .u8 (xf : Int), .int .i64 xl, .int .i64 xn, .slice vao xp.length vcap] 33) = wb := ⟨_, rfl⟩
  have kb0 : Below w.heap.size w wb := by rw [← hwb]; exact (Below.refl _ _).alloc (Nat.le_refl _) _
  have hzb : w.heap.size < wb.heap.size := by rw [← hwb]; simp
  have s0 : wb.cell? ⟨w.heap.size, 0, none⟩ = some (.int .i64 xd) := by rw [← hwb]; simp
  have s1 : wb.cell? ⟨w.heap.size, 1, none⟩ = some (.int .i64 xb) := by rw [← hwb]; simp
  have s2 : wb.cell? ⟨w.heap.size, 2, none⟩ = some (.int .u8 (xf : Int)) := by rw [← hwb]; simp
  have s3 : wb.cell? ⟨w.heap.size, 3, none⟩ = some (.int .i64 xl) := by rw [← hwb]; simp
  have s4 : wb.cell? ⟨w.heap.size, 4, none⟩ = some (.int .i64 xn) := by rw [← hwb]; simp
  have s5 : wb.cell? ⟨w.heap.size, 5, none⟩ = some (.slice vao xp.length vcap) := by rw [← hwb]; simp
  have hnd : ¬ Own g m F w.heap.size := fun e => by have := hT.d.ownLt _ e; omega
  have hnr : ¬ OwnR gr Fr w.heap.size := fun e => by have := hT.r.ownLt _ e; omega
  have hTb := hT.mono kb0
  have hvb : ∀ w', Below W.heap.size W w' → Bs w' (.slice vao xp.length vcap) xp := fun w' hb => hvp.mono hb
  have HT := hide hTb
  have Hvb := hide hvb
  have hzW := hT.bel.size
  have hzZ := hT.kz.size
  have Hdg : Hid (0 < xp.length → ∀ b, (Value.slice vao xp.length vcap).ownBlock = some b → b ≠ g) := hide (fun h0 b hb e => by have := bsW_lt hvp h0 b hb; have := hT.dW g (.inl rfl); omega)
  have Hdm : Hid (0 < xp.length → ∀ b, (Value.slice vao xp.length vcap).ownBlock = some b → b ≠ m) := hide (fun h0 b hb e => by have := bsW_lt hvp h0 b hb; have := hT.dW m (.inr (.inl rfl)); omega)
  have Hrg : Hid (0 < xp.length → ∀ b, (Value.slice vao xp.length vcap).ownBlock = some b → b ≠ gr) := hide (fun h0 b hb e => by have := bsW_lt hvp h0 b hb; have := hT.rW gr (.inl rfl); omega)
  have Hrq : Hid (0 < xp.length → ∀ b, (Value.slice vao xp.length vcap).ownBlock = some b → q ≠ some b) := hide (fun h0 b hb e => by have := bsW_lt hvp h0 b hb; have := hT.rW b (.inr (hT.r.qF b e).1); omega)
  clear hT hTb hvb
  subst h2
  have e : doesS s n ⟨2, xb, xf, xl, xn, xp⟩ = (armS s xn xp).1 := by simp [doesS]
  rw [e]; clear e
  have hTd := HT.out.mono ((Below.refl _ _).drew)
  have Sd : (fun w' : World => w'.cell? ⟨w.heap.size, 4, none⟩ = some (.int .i64 xn) ∧ w'.cell? ⟨w.heap.size, 5, none⟩ = some (.slice vao xp.length vcap)) wb.drew := ⟨s4, s5⟩
  have HTd := hide hTd
  clear hTd
  go_enter Try.func12, Try.ntmps12
  go_wp2_with fail
  go_region_held3 (fun w' => w'.cell? ⟨w.heap.size, 4, none⟩ = some (.int .i64 xn) ∧ w'.cell? ⟨w.heap.size, 5, none⟩ = some (.slice vao xp.length vcap))
    (first | exact Sd | exact S1 | exact S2)
    (first
      | (go_at_call 17; refine (arm0_yes HTd.out.d xn _ xp (Hvb.out _ HTd.out.bel) (fun h0 b hb e' => Hdg.out h0 b hb e') hpk hn).mono ?_; rintro e w1 ⟨rfl, ht1⟩
         obtain ⟨k1, p1, F1, hT1⟩ := HTd.out.turn ht1
         have S1 : w1.cell? ⟨w.heap.size, 4, none⟩ = some (.int .i64 xn) ∧ w1.cell? ⟨w.heap.size, 5, none⟩ = some (.slice vao xp.length vcap) := ⟨k1.cell Sd.1 hnd, k1.cell Sd.2 hnd⟩
         skip)
      | (go_at_call 37; refine (rarm0_yes hT1.r xn _ xp (Hvb.out _ hT1.bel) (fun h0 b hb e' => Hrg.out h0 b hb e') hpk hn).mono ?_; rintro e w2 ⟨rfl, ht2⟩
         obtain ⟨k2, q2, pr2, Fr2, hT2⟩ := hT1.turnR ht2
         have S2 : w2.cell? ⟨w.heap.size, 4, none⟩ = some (.int .i64 xn) ∧ w2.cell? ⟨w.heap.size, 5, none⟩ = some (.slice vao xp.length vcap) := ⟨k2.cell S1.1 hnr, k2.cell S1.2 hnr⟩
         skip))
  have hself := ret_self (armS s xn xp).2
  have HB : Hid (Both Z S0 W n (armS s xn xp).1 g m gr w2) := ⟨_, _, _, _, _, hT2⟩
  clear hT1 hT2 ht1 ht2
  go_wp2
  go_ret
  exact ⟨by simp, HB.out⟩

set_option maxRecDepth 100000 in
set_option maxHeartbeats 4000000 in
theorem does3 {Z : World} {S0 : Nat → Prop} {W w : World} {n : Nat} {s : St} {g m gr : Nat} (h : Both Z S0 W n s g m gr w) (x : OpX) (vp : Value) (hvp : Bs W vp x.picks) (hfill : x.fill < 256) (hn : x.n ≤ 9223372036854775807) (hpk : x.picks.length ≤ 140737488355328) (hpl : s.pend.length < 1000000) (hops : s.ops ≤ 1000000) (h3 : x.d = 3) :
    Calls Try.prog 12 #[.pointer (some ⟨g, 0, none⟩), .pointer (some ⟨gr, 0, none⟩), .agg #[.int .i64 x.d, .int .i64 x.b, .int .u8 (x.fill : Int), .int .i64 x.len, .int .i64 x.n, vp]] w fun e w' => e = .returned (.bool true) ∧ Both Z S0 W n (doesS s n x) g m gr w' := by
  obtain ⟨p, q, pr, F, Fr, hT⟩ := h
  obtain ⟨xd, xb, xf, xl, xn, xp⟩ := x
  dsimp only at *
  obtain ⟨vao, vcap, rfl, _⟩ := id hvp
  obtain ⟨wb, hwb⟩ : ∃ wb, w.alloc (.cells #[.int .i64 xd, .int .i64 xb, .int .u8 (xf : Int), .int .i64 xl, .int .i64 xn, .slice vao xp.length vcap] 33) = wb := ⟨_, rfl⟩
  have kb0 : Below w.heap.size w wb := by rw [← hwb]; exact (Below.refl _ _).alloc (Nat.le_refl _) _
  have hzb : w.heap.size < wb.heap.size := by rw [← hwb]; simp
  have s0 : wb.cell? ⟨w.heap.size, 0, none⟩ = some (.int .i64 xd) := by rw [← hwb]; simp
  have s1 : wb.cell? ⟨w.heap.size, 1, none⟩ = some (.int .i64 xb) := by rw [← hwb]; simp
  have s2 : wb.cell? ⟨w.heap.size, 2, none⟩ = some (.int .u8 (xf : Int)) := by rw [← hwb]; simp
  have s3 : wb.cell? ⟨w.heap.size, 3, none⟩ = some (.int .i64 xl) := by rw [← hwb]; simp
  have s4 : wb.cell? ⟨w.heap.size, 4, none⟩ = some (.int .i64 xn) := by rw [← hwb]; simp
  have s5 : wb.cell? ⟨w.heap.size, 5, none⟩ = some (.slice vao xp.length vcap) := by rw [← hwb]; simp
  have hnd : ¬ Own g m F w.heap.size := fun e => by have := hT.d.ownLt _ e; omega
  have hnr : ¬ OwnR gr Fr w.heap.size := fun e => by have := hT.r.ownLt _ e; omega
  have hTb := hT.mono kb0
  have hvb : ∀ w', Below W.heap.size W w' → Bs w' (.slice vao xp.length vcap) xp := fun w' hb => hvp.mono hb
  have HT := hide hTb
  have Hvb := hide hvb
  have hzW := hT.bel.size
  have hzZ := hT.kz.size
  have Hdg : Hid (0 < xp.length → ∀ b, (Value.slice vao xp.length vcap).ownBlock = some b → b ≠ g) := hide (fun h0 b hb e => by have := bsW_lt hvp h0 b hb; have := hT.dW g (.inl rfl); omega)
  have Hdm : Hid (0 < xp.length → ∀ b, (Value.slice vao xp.length vcap).ownBlock = some b → b ≠ m) := hide (fun h0 b hb e => by have := bsW_lt hvp h0 b hb; have := hT.dW m (.inr (.inl rfl)); omega)
  have Hrg : Hid (0 < xp.length → ∀ b, (Value.slice vao xp.length vcap).ownBlock = some b → b ≠ gr) := hide (fun h0 b hb e => by have := bsW_lt hvp h0 b hb; have := hT.rW gr (.inl rfl); omega)
  have Hrq : Hid (0 < xp.length → ∀ b, (Value.slice vao xp.length vcap).ownBlock = some b → q ≠ some b) := hide (fun h0 b hb e => by have := bsW_lt hvp h0 b hb; have := hT.rW b (.inr (hT.r.qF b e).1); omega)
  clear hT hTb hvb
  subst h3
  have e : doesS s n ⟨3, xb, xf, xl, xn, xp⟩ = (crashS s xp).1 := by simp [doesS]
  rw [e]; clear e
  have hTd := HT.out.mono ((Below.refl _ _).drew)
  have Sd : (fun w' : World => w'.cell? ⟨w.heap.size, 4, none⟩ = some (.int .i64 xn) ∧ w'.cell? ⟨w.heap.size, 5, none⟩ = some (.slice vao xp.length vcap)) wb.drew := ⟨s4, s5⟩
  have HTd := hide hTd
  clear hTd
  go_enter Try.func12, Try.ntmps12
  go_wp2_with fail
  go_region_held3 (fun w' => w'.cell? ⟨w.heap.size, 4, none⟩ = some (.int .i64 xn) ∧ w'.cell? ⟨w.heap.size, 5, none⟩ = some (.slice vao xp.length vcap))
    (first | exact Sd | exact S1 | exact S2)
    (first
      | (go_at_call 27; refine (crash_yes HTd.out.d  _ xp (Hvb.out _ HTd.out.bel) (fun h0 b hb e' => Hdm.out h0 b hb e') (by omega) hpk).mono ?_; rintro e w1 ⟨rfl, ht1⟩
         obtain ⟨k1, p1, F1, hT1⟩ := HTd.out.turn ht1
         have S1 : w1.cell? ⟨w.heap.size, 4, none⟩ = some (.int .i64 xn) ∧ w1.cell? ⟨w.heap.size, 5, none⟩ = some (.slice vao xp.length vcap) := ⟨k1.cell Sd.1 hnd, k1.cell Sd.2 hnd⟩
         skip)
      | (go_at_call 38; refine (rcrash_yes hT1.r  _ xp (Hvb.out _ hT1.bel) (fun h0 b hb e' => Hrq.out h0 b hb e') (by omega) hpk).mono ?_; rintro e w2 ⟨rfl, ht2⟩
         obtain ⟨k2, q2, pr2, Fr2, hT2⟩ := hT1.turnR ht2
         have S2 : w2.cell? ⟨w.heap.size, 4, none⟩ = some (.int .i64 xn) ∧ w2.cell? ⟨w.heap.size, 5, none⟩ = some (.slice vao xp.length vcap) := ⟨k2.cell S1.1 hnr, k2.cell S1.2 hnr⟩
         skip))
  have hself := ret_self (crashS s xp).2
  have HB : Hid (Both Z S0 W n (crashS s xp).1 g m gr w2) := ⟨_, _, _, _, _, hT2⟩
  clear hT1 hT2 ht1 ht2
  go_wp2
  go_ret
  exact ⟨by simp, HB.out⟩

end Go.Proofs.Ytjcobealnjkkcaa
