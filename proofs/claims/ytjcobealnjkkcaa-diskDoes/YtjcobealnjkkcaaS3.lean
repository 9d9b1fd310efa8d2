/- The operations of a script with both disks: reading, and none at all. -/
import Derived.Test.YtjcobealnjkkcaaS2
set_option linter.unusedSimpArgs false
set_option linter.unusedVariables false
namespace Go.Proofs.Ytjcobealnjkkcaa
open Go.RowKit Go.Attic

theorem readS_len {s : St} {n : Nat} (hok : s.Ok n) (i : Int) : (readS s n i).1.length ≤ 256 := by
  simp only [readS]
  split
  · simp
  · split
    · simp
    · rename_i _ h
      have hi : i.toNat < n := by simp [inS] at h; omega
      rw [readL_length hok _ hi]; omega

set_option maxRecDepth 100000 in
set_option maxHeartbeats 4000000 in
theorem does5 {Z : World} {S0 : Nat → Prop} {W w : World} {n : Nat} {s : St} {g m gr : Nat} (h : Both Z S0 W n s g m gr w) (x : OpX) (vp : Value) (hvp : Bs W vp x.picks) (hfill : x.fill < 256) (hn : x.n ≤ 9223372036854775807) (hpk : x.picks.length ≤ 140737488355328) (hpl : s.pend.length < 1000000) (hops : s.ops ≤ 1000000) (h5 : x.d = 5) :
    Calls Try.prog 12 #[.pointer (some ⟨g, 0, none⟩), .pointer (some ⟨gr, 0, none⟩), .agg #[.int .i64 x.d, .int .i64 x.b, .int .u8 (x.fill : Int), .int .i64 x.len, .int .i64 x.n, vp]] w fun e w' => e = .returned (.bool true) ∧ Both Z S0 W n (doesS s n x) g m gr w' := by
  obtain ⟨p, q, pr, F, Fr, hT⟩ := h
  obtain ⟨xd, xb, xf, xl, xn, xp⟩ := x
  dsimp only at *
  obtain ⟨vao, vcap, rfl, _⟩ := id hvp
  obtain ⟨wb, hwb⟩ : ∃ wb, w.alloc (.cells #[.int .i64 xd, .int .i64 xb, .int .u8 (xf : Int), .int .i64 xl, .int .i64 xn, .slice vao xp.length vcap] 33) = wb := ⟨_, rfl⟩
  have kb0 : Below w.heap.size w wb := by rw [← hwb]; exact (Below.refl _ _).alloc (Nat.le_refl _) _
  have hzb : w.heap.size < wb.heap.size := by rw [← hwb]; simp
  have s0 : wb.cell? ⟨w.heap.size, 0, none⟩ = some (.int .i64 xd) := by rw [← hwb]; simp
  have s1 : wb.cell? ⟨w.heap.size, 1, none⟩ = some (.int .i64 xb) := by rw [← hwb]; simp
  have s2 : wb.cell? ⟨w.heap.size, 2, none⟩ = some (.int .u8 (xf : Int)) := by rw [← hwb]; simp
  have s3 : wb.cell? ⟨w.heap.size, 3, none⟩ = some (.int .i64 xl) := by rw [← hwb]; simp
  have s4 : wb.cell? ⟨w.heap.size, 4, none⟩ = some (.int .i64 xn) := by rw [← hwb]; simp
  have s5 : wb.cell? ⟨w.heap.size, 5, none⟩ = some (.slice vao xp.length vcap) := by rw [← hwb]; simp
  have hnd : ¬ Own g m F w.heap.size := fun e => by have := hT.d.ownLt _ e; omega
  have hnr : ¬ OwnR gr Fr w.heap.size := fun e => by have := hT.r.ownLt _ e; omega
  have hTb := hT.mono kb0
  have hvb : ∀ w', Below W.heap.size W w' → Bs w' (.slice vao xp.length vcap) xp := fun w' hb => hvp.mono hb
  have HT := hide hTb
  have Hvb := hide hvb
  have hzW := hT.bel.size
  have hzZ := hT.kz.size
  have Hdg : Hid (0 < xp.length → ∀ b, (Value.slice vao xp.length vcap).ownBlock = some b → b ≠ g) := hide (fun h0 b hb e => by have := bsW_lt hvp h0 b hb; have := hT.dW g (.inl rfl); omega)
  have Hdm : Hid (0 < xp.length → ∀ b, (Value.slice vao xp.length vcap).ownBlock = some b → b ≠ m) := hide (fun h0 b hb e => by have := bsW_lt hvp h0 b hb; have := hT.dW m (.inr (.inl rfl)); omega)
  have Hrg : Hid (0 < xp.length → ∀ b, (Value.slice vao xp.length vcap).ownBlock = some b → b ≠ gr) := hide (fun h0 b hb e => by have := bsW_lt hvp h0 b hb; have := hT.rW gr (.inl rfl); omega)
  have Hrq : Hid (0 < xp.length → ∀ b, (Value.slice vao xp.length vcap).ownBlock = some b → q ≠ some b) := hide (fun h0 b hb e => by have := bsW_lt hvp h0 b hb; have := hT.rW b (.inr (hT.r.qF b e).1); omega)
  clear hT hTb hvb
  subst h5
  have e : doesS s n ⟨5, xb, xf, xl, xn, xp⟩ = s := by simp [doesS]
  rw [e]; clear e
  go_enter Try.func12, Try.ntmps12
  go_wp2_with fail
  refine (read_yes HT.out.d xb (by omega)).mono ?_
  rintro e w1 ⟨v1, rfl, ho1, hb1⟩
  have s1' := (Keeps.of_below (S := fun _ => False) hb1).cell s1 id
  have hT1 := HT.out.mono hb1
  have hlt := readS_lt HT.out.d.ok xb
  have hrl6 := readS_len HT.out.d.ok xb
  have HT1 := hide hT1
  clear hT1
  go_wp2_with fail
  refine (rread_yes HT1.out.r xb (by omega)).mono ?_
  rintro e w2 ⟨v2, rfl, ho2, hb2⟩
  have hT2 := HT1.out.mono hb2
  have hs1 := (Bs.of_owns ho1 hlt).mono hb2
  have hs2 := Bs.of_owns ho2 hlt
  have ho1' := (Keeps.of_below (S := fun _ => False) hb2).owns ho1 (fun _ _ e => e.elim)
  have hself := ret_self (readS s n xb).2
  generalize (readS s n xb).1 = rl at *
  generalize (readS s n xb).2 = re at *
  obtain ⟨ao1, cap1, rfl⟩ := owns_slice ho1'
  have HT2 := hide hT2
  have Hs1 := hide hs1
  have Hs2 := hide hs2
  have Ho1 := hide ho1'
  clear hT2 hs1 hs2 ho1' ho1 ho2 hlt
  go_wp2_with fail
  refine (equal_any _ _ _ _ _ Hs1.out Hs2.out).mono ?_
  rintro e w3 ⟨rfl, rfl⟩
  rw [decide_eq_true rfl]
  go_wp2_with fail
  have hod := HT.out.d.ownLt
  have hor := HT.out.r.ownLt
  have Hod := hide hod
  have Hor := hide hor
  clear hod hor
  go_loopw [109] (fun i wr => ∃ k : Nat, k ≤ rl.length ∧ i = .int .i64 k ∧ ∃ l' : List Nat, l'.length = rl.length ∧ wr.ownsRow wb.heap.size 5 1 (.slice ao1 rl.length cap1) rl.length (cellsB l') ∧ Two Z S0 W wr n s s g m gr p q pr F Fr) (fun i _ => rl.length - (intOf i).toNat)
  case atStart => exact ⟨0, by omega, rfl, rl, rfl, Ho1.out, HT2.out⟩
  case round =>
    obtain ⟨k, hk, rfl, l', hl', o1, hTr⟩ := hrel
    by_cases hk2 : k < rl.length
    · obtain ⟨ao', cap', e2, _, hg⟩ := owns_form o1
      obtain ⟨yb, rfl, hyb⟩ := hg (by omega)
      injection e2 with e2 _ e3
      subst e2 e3
      have hcl := owns_cell o1 hl'.symm k (by omega)
      have hfz := o1.frozenAt k
      have hst := owns_byte o1 k 78
      have hT3 := hTr.keeps (Keeps.setCell (S := fun j => j = yb) wr (o := k) rfl (.int .u8 ((78 : Nat) : Int))) (by rintro _ rfl h'; have := Hod.out _ h'; omega) (by rintro _ rfl h'; have := Hor.out _ h'; omega) (by rintro _ rfl; omega)
      have hl2 : (l'.set k 78).length = rl.length := by rw [List.length_set]; exact hl'
      have Hst := hide hst
      have HT3 := hide hT3
      have Hl2 := hide hl2
      clear hst hT3 o1 hTr hl' hl2
      go_wp2
      exact ⟨⟨k + 1, by omega, by go_num, _, Hl2.out, Hst.out, HT3.out⟩, by simp [intOf]; omega⟩
    · obtain rfl : k = rl.length := by omega
      have HB : Hid (Both Z S0 W n s g m gr wr) := ⟨_, _, _, _, _, hTr⟩
      clear o1 hTr hl'
      go_wp2
      go_ret
      exact ⟨by simp, HB.out⟩

set_option maxRecDepth 100000 in
set_option maxHeartbeats 4000000 in
theorem doesE {Z : World} {S0 : Nat → Prop} {W w : World} {n : Nat} {s : St} {g m gr : Nat} (h : Both Z S0 W n s g m gr w) (x : OpX) (vp : Value) (hvp : Bs W vp x.picks) (hfill : x.fill < 256) (hn : x.n ≤ 9223372036854775807) (hpk : x.picks.length ≤ 140737488355328) (hpl : s.pend.length < 1000000) (hops : s.ops ≤ 1000000) (h0 : x.d ≠ 0) (h1 : x.d ≠ 1) (h2 : x.d ≠ 2) (h3 : x.d ≠ 3) (h4 : x.d ≠ 4) (h5 : x.d ≠ 5) :
    Calls Try.prog 12 #[.pointer (some ⟨g, 0, none⟩), .pointer (some ⟨gr, 0, none⟩), .agg #[.int .i64 x.d, .int .i64 x.b, .int .u8 (x.fill : Int), .int .i64 x.len, .int .i64 x.n, vp]] w fun e w' => e = .returned (.bool true) ∧ Both Z S0 W n (doesS s n x) g m gr w' := by
  obtain ⟨p, q, pr, F, Fr, hT⟩ := h
  obtain ⟨xd, xb, xf, xl, xn, xp⟩ := x
  dsimp only at *
  obtain ⟨vao, vcap, rfl, _⟩ := id hvp
  obtain ⟨wb, hwb⟩ : ∃ wb, w.alloc (.cells #[.int .i64 xd, .int .i64 xb, .int .u8 (xf : Int), .int .i64 xl, .int .i64 xn, .slice vao xp.length vcap] 33) = wb := ⟨_, rfl⟩
  have kb0 : Below w.heap.size w wb := by rw [← hwb]; exact (Below.refl _ _).alloc (Nat.le_refl _) _
  have hzb : w.heap.size < wb.heap.size := by rw [← hwb]; simp
  have s0 : wb.cell? ⟨w.heap.size, 0, none⟩ = some (.int .i64 xd) := by rw [← hwb]; simp
  have s1 : wb.cell? ⟨w.heap.size, 1, none⟩ = some (.int .i64 xb) := by rw [← hwb]; simp
  have s2 : wb.cell? ⟨w.heap.size, 2, none⟩ = some (.int .u8 (xf : Int)) := by rw [← hwb]; simp
  have s3 : wb.cell? ⟨w.heap.size, 3, none⟩ = some (.int .i64 xl) := by rw [← hwb]; simp
  have s4 : wb.cell? ⟨w.heap.size, 4, none⟩ = some (.int .i64 xn) := by rw [← hwb]; simp
  have s5 : wb.cell? ⟨w.heap.size, 5, none⟩ = some (.slice vao xp.length vcap) := by rw [← hwb]; simp
  have hnd : ¬ Own g m F w.heap.size := fun e => by have := hT.d.ownLt _ e; omega
  have hnr : ¬ OwnR gr Fr w.heap.size := fun e => by have := hT.r.ownLt _ e; omega
  have hTb := hT.mono kb0
  have hvb : ∀ w', Below W.heap.size W w' → Bs w' (.slice vao xp.length vcap) xp := fun w' hb => hvp.mono hb
  have HT := hide hTb
  have Hvb := hide hvb
  have hzW := hT.bel.size
  have hzZ := hT.kz.size
  have Hdg : Hid (0 < xp.length → ∀ b, (Value.slice vao xp.length vcap).ownBlock = some b → b ≠ g) := hide (fun h0 b hb e => by have := bsW_lt hvp h0 b hb; have := hT.dW g (.inl rfl); omega)
  have Hdm : Hid (0 < xp.length → ∀ b, (Value.slice vao xp.length vcap).ownBlock = some b → b ≠ m) := hide (fun h0 b hb e => by have := bsW_lt hvp h0 b hb; have := hT.dW m (.inr (.inl rfl)); omega)
  have Hrg : Hid (0 < xp.length → ∀ b, (Value.slice vao xp.length vcap).ownBlock = some b → b ≠ gr) := hide (fun h0 b hb e => by have := bsW_lt hvp h0 b hb; have := hT.rW gr (.inl rfl); omega)
  have Hrq : Hid (0 < xp.length → ∀ b, (Value.slice vao xp.length vcap).ownBlock = some b → q ≠ some b) := hide (fun h0 b hb e => by have := bsW_lt hvp h0 b hb; have := hT.rW b (.inr (hT.r.qF b e).1); omega)
  clear hT hTb hvb
  have e : doesS s n ⟨xd, xb, xf, xl, xn, xp⟩ = s := by simp [doesS, h0, h1, h2, h3, h4]
  rw [e]; clear e
  have HB : Hid (Both Z S0 W n s g m gr wb) := ⟨_, _, _, _, _, HT.out⟩
  go_enter Try.func12, Try.ntmps12
  go_wp2
  go_ret
  exact ⟨by simp, HB.out⟩

end Go.Proofs.Ytjcobealnjkkcaa
