/- The operations of a script with both disks: writing; and whichever. -/
import Derived.Test.YtjcobealnjkkcaaS3
set_option linter.unusedSimpArgs false
set_option linter.unusedVariables false
namespace Go.Proofs.Ytjcobealnjkkcaa
open Go.RowKit Go.Attic

theorem owns_within {w : World} {base : Nat} {e : TypeId} {size : Nat} {v : Value} {n : Nat} {xs : List Value} (h : w.ownsRow base e size v n xs) : ∀ b, v.ownBlock = some b → base ≤ b ∧ b < w.heap.size := by
  rcases h.2 with ⟨rfl, _⟩ | ⟨g, cap, cur, rfl, hb, hg, _⟩
  · intro b e; simp [Value.ownBlock] at e
  · intro b e
    simp [Value.ownBlock] at e
    subst e
    exact ⟨hb, (Array.getElem?_eq_some_iff.1 hg).1⟩

/-- The program's disk turns. -/
theorem Two.turn2 {Z : World} {S0 : Nat → Prop} {W w w' : World} {n : Nat} {sd sr sd' : St} {g m gr : Nat} {p q pr : Option Nat} {F Fr : Nat → Prop} (h : Two Z S0 W w n sd sr g m gr p q pr F Fr) (ht : Turn w g m F n sd' w') : Keeps (Own g m F) w w' ∧ ∃ p' F', Two Z S0 W w' n sd' sr g m gr p' q pr F' Fr ∧ ∀ j, Own g m F' j → Own g m F j ∨ w.heap.size ≤ j := by
  obtain ⟨p', F', d', k, f⟩ := ht
  have hrl := h.r.ownLt
  refine ⟨k, p', F', ⟨d', h.r.keeps k (fun e => h.ap _ e (.inl rfl)) (fun j hj e => h.ap _ e (.inr hj)), ?_, h.rW, ?_, h.bel.trans (k.below h.dW h.bel.size), h.zW, h.kz.trans' k h.dz, ?_, h.rz⟩, ?_⟩
  · rintro j (e | e | e)
    · exact h.dW j (.inl e)
    · exact h.dW j (.inr (.inl e))
    · rcases f j e with e | e
      · exact h.dW j (.inr (.inr e))
      · have := h.bel.size; omega
  · rintro j (e | e | e) hr
    · exact h.ap j (.inl e) hr
    · exact h.ap j (.inr (.inl e)) hr
    · rcases f j e with e | e
      · exact h.ap j (.inr (.inr e)) hr
      · have := hrl j hr; omega
  · rintro j (e | e | e)
    · exact h.dz j (.inl e)
    · exact h.dz j (.inr (.inl e))
    · rcases f j e with e | e
      · exact h.dz j (.inr (.inr e))
      · have := h.kz.size; exact .inr (by omega)
  · rintro j (e | e | e)
    · exact .inl (.inl e)
    · exact .inl (.inr (.inl e))
    · rcases f j e with e | e
      · exact .inl (.inr (.inr e))
      · exact .inr e

/-- The document's disk turns. -/
theorem Two.turnR2 {Z : World} {S0 : Nat → Prop} {W w w' : World} {n : Nat} {sd sr sr' : St} {g m gr : Nat} {p q pr : Option Nat} {F Fr : Nat → Prop} (h : Two Z S0 W w n sd sr g m gr p q pr F Fr) (ht : TurnR w gr Fr n sr' w') : Keeps (OwnR gr Fr) w w' ∧ ∃ q' pr' Fr', Two Z S0 W w' n sd sr' g m gr p q' pr' F Fr' ∧ ∀ j, OwnR gr Fr' j → OwnR gr Fr j ∨ w.heap.size ≤ j := by
  obtain ⟨q', pr', Fr', r', k, f⟩ := ht
  have hdl := h.d.ownLt
  refine ⟨k, q', pr', Fr', ⟨h.d.keeps k (fun e => h.ap _ (.inl rfl) e) (fun e => h.ap _ (.inr (.inl rfl)) e) (fun j hj e => h.ap _ (.inr (.inr hj)) e), r', h.dW, ?_, ?_, h.bel.trans (k.below h.rW h.bel.size), h.zW, h.kz.trans' k h.rz, h.dz, ?_⟩, ?_⟩
  · rintro j (e | e)
    · exact h.rW j (.inl e)
    · rcases f j e with e | e
      · exact h.rW j (.inr e)
      · have := h.bel.size; omega
  · rintro j hd (e | e)
    · exact h.ap j hd (.inl e)
    · rcases f j e with e | e
      · exact h.ap j hd (.inr e)
      · have := hdl j hd; omega
  · rintro j (e | e)
    · exact h.rz j (.inl e)
    · rcases f j e with e | e
      · exact h.rz j (.inr e)
      · have := h.kz.size; exact .inr (by omega)
  · rintro j (e | e)
    · exact .inl (.inl e)
    · rcases f j e with e | e
      · exact .inl (.inr e)
      · exact .inr e

set_option maxRecDepth 100000 in
set_option maxHeartbeats 4000000 in
theorem does0 {Z : World} {S0 : Nat → Prop} {W w : World} {n : Nat} {s : St} {g m gr : Nat} (h : Both Z S0 W n s g m gr w) (x : OpX) (vp : Value) (hvp : Bs W vp x.picks) (hfill : x.fill < 256) (hn : x.n ≤ 9223372036854775807) (hpk : x.picks.length ≤ 140737488355328) (hpl : s.pend.length < 1000000) (hops : s.ops ≤ 1000000) (h0 : x.d = 0) :
    Calls Try.prog 12 #[.pointer (some ⟨g, 0, none⟩), .pointer (some ⟨gr, 0, none⟩), .agg #[.int .i64 x.d, .int .i64 x.b, .int .u8 (x.fill : Int), .int .i64 x.len, .int .i64 x.n, vp]] w fun e w' => e = .returned (.bool true) ∧ Both Z S0 W n (doesS s n x) g m gr w' := by
  obtain ⟨p, q, pr, F, Fr, hT⟩ := h
  obtain ⟨xd, xb, xf, xl, xn, xp⟩ := x
  dsimp only at *
  obtain ⟨vao, vcap, rfl, _⟩ := id hvp
  obtain ⟨wb, hwb⟩ : ∃ wb, w.alloc (.cells #[.int .i64 xd, .int .i64 xb, .int .u8 (xf : Int), .int .i64 xl, .int .i64 xn, .slice vao xp.length vcap] 33) = wb := ⟨_, rfl⟩
  have kb0 : Below w.heap.size w wb := by rw [← hwb]; exact (Below.refl _ _).alloc (Nat.le_refl _) _
  have hzb : w.heap.size < wb.heap.size := by rw [← hwb]; simp
  have s0 : wb.cell? ⟨w.heap.size, 0, none⟩ = some (.int .i64 xd) := by rw [← hwb]; simp
  have s1 : wb.cell? ⟨w.heap.size, 1, none⟩ = some (.int .i64 xb) := by rw [← hwb]; simp
  have s2 : wb.cell? ⟨w.heap.size, 2, none⟩ = some (.int .u8 (xf : Int)) := by rw [← hwb]; simp
  have s3 : wb.cell? ⟨w.heap.size, 3, none⟩ = some (.int .i64 xl) := by rw [← hwb]; simp
  have s4 : wb.cell? ⟨w.heap.size, 4, none⟩ = some (.int .i64 xn) := by rw [← hwb]; simp
  have s5 : wb.cell? ⟨w.heap.size, 5, none⟩ = some (.slice vao xp.length vcap) := by rw [← hwb]; simp
  have hnd : ¬ Own g m F w.heap.size := fun e => by have := hT.d.ownLt _ e; omega
  have hnr : ¬ OwnR gr Fr w.heap.size := fun e => by have := hT.r.ownLt _ e; omega
  have hTb := hT.mono kb0
  have hvb : ∀ w', Below W.heap.size W w' → Bs w' (.slice vao xp.length vcap) xp := fun w' hb => hvp.mono hb
  have HT := hide hTb
  have Hvb := hide hvb
  have hzW := hT.bel.size
  have hzZ := hT.kz.size
  have Hdg : Hid (0 < xp.length → ∀ b, (Value.slice vao xp.length vcap).ownBlock = some b → b ≠ g) := hide (fun h0 b hb e => by have := bsW_lt hvp h0 b hb; have := hT.dW g (.inl rfl); omega)
  have Hdm : Hid (0 < xp.length → ∀ b, (Value.slice vao xp.length vcap).ownBlock = some b → b ≠ m) := hide (fun h0 b hb e => by have := bsW_lt hvp h0 b hb; have := hT.dW m (.inr (.inl rfl)); omega)
  have Hrg : Hid (0 < xp.length → ∀ b, (Value.slice vao xp.length vcap).ownBlock = some b → b ≠ gr) := hide (fun h0 b hb e => by have := bsW_lt hvp h0 b hb; have := hT.rW gr (.inl rfl); omega)
  have Hrq : Hid (0 < xp.length → ∀ b, (Value.slice vao xp.length vcap).ownBlock = some b → q ≠ some b) := hide (fun h0 b hb e => by have := bsW_lt hvp h0 b hb; have := hT.rW b (.inr (hT.r.qF b e).1); omega)
  clear hT hTb hvb
  subst h0
  have e : doesS s n ⟨0, xb, xf, xl, xn, xp⟩ = (writeS s n xb (opBlock xf xl)).1 := by simp [doesS]
  rw [e]; clear e
  go_enter Try.func12, Try.ntmps12
  go_wp2_with fail
  refine (block_any 0 xb xf xl xn _ _ hfill ⟨_, _, _, rfl⟩).mono ?_
  rintro e w1 ⟨v1, rfl, ho1, hb1⟩
  have hbl := opBlock_lt xf xl
  have hb6 := opBlock_length xf xl
  obtain ⟨bl, hble⟩ : ∃ bl, opBlock xf xl = bl := ⟨_, rfl⟩
  rw [hble] at ho1 hbl hb6
  have Hble := hide hble
  clear hble
  have hT1 := (HT.out.mono hb1).mono ((Below.refl _ _).drew)
  have s1' : w1.drew.cell? ⟨w.heap.size, 1, none⟩ = some (.int .i64 xb) := (Keeps.of_below (S := fun _ => False) hb1).cell s1 id
  have ho1' : w1.drew.ownsRow wb.heap.size 5 1 v1 bl.length (cellsB bl) := ho1
  obtain ⟨ao1, cap1, hfm⟩ := owns_form ho1
  obtain ⟨rfl, _, hfg⟩ := hfm
  have hz1 := hb1.size
  have hzd : w1.drew.heap.size = w1.heap.size := rfl
  have hod := HT.out.d.ownLt
  have hor := HT.out.r.ownLt
  have hvl : ∀ b, (Value.slice ao1 bl.length cap1).ownBlock = some b → wb.heap.size ≤ b ∧ b < w1.drew.heap.size := owns_within ho1
  have hvd : ∀ b, (Value.slice ao1 bl.length cap1).ownBlock = some b → ¬ Own g m F b := fun b hb h' => by have := (hvl b hb).1; have := hod b h'; omega
  have hvr : ∀ b, (Value.slice ao1 bl.length cap1).ownBlock = some b → ¬ OwnR gr Fr b := fun b hb h' => by have := (hvl b hb).1; have := hor b h'; omega
  have hs1 := Bs.of_owns ho1' hbl
  have Hs1 := hide hs1
  have Ho1 := hide ho1'
  have HT1 := hide hT1
  have Hvl := hide hvl
  have Hvd := hide hvd
  have Hvr := hide hvr
  have Hod := hide hod
  have Hor := hide hor
  have Hbl := hide hbl
  have Hfg := hide hfg
  clear hs1 ho1 ho1' hT1 hvl hvd hvr hod hor hbl hfg
  go_wp2_with fail
  go_region_held3 (fun w' => w'.cell? ⟨w.heap.size, 1, none⟩ = some (.int .i64 xb))
    (first | exact s1' | exact S3 | exact S4)
    (first
      | (go_at_call 15; refine (write_yes HT1.out.d xb _ bl Hs1.out (by omega) hpl hops).mono ?_; rintro e w3 ⟨rfl, ht3⟩
         obtain ⟨k3, p3, F3, hT3, hf3⟩ := HT1.out.turn2 ht3
         have S3 : w3.cell? ⟨w.heap.size, 1, none⟩ = some (.int .i64 xb) := k3.cell s1' hnd
         have hs3 := k3.bs Hs1.out Hvd.out
         skip)
      | (go_at_call 35; refine (rwrite_yes hT3.r xb _ bl hs3 (by omega) hpl hops).mono ?_; rintro e w4 ⟨rfl, ht4⟩
         obtain ⟨k4, q4, pr4, Fr4, hT4, hf4⟩ := hT3.turnR2 ht4
         have S4 : w4.cell? ⟨w.heap.size, 1, none⟩ = some (.int .i64 xb) := k4.cell S3 hnr
         skip))
  have hself := ret_self (writeS s n xb bl).2
  have ho4 := k4.owns (k3.owns Ho1.out Hvd.out) Hvr.out
  have hz3 : w1.drew.heap.size ≤ w3.heap.size := k3.size
  have hd4 : ∀ b, wb.heap.size ≤ b → b < w1.drew.heap.size → ¬ Own g m F3 b := fun b h1 h2 h' => by
    rcases hf3 b h' with e | e
    · have := Hod.out b e; omega
    · omega
  have hr4 : ∀ b, wb.heap.size ≤ b → b < w1.drew.heap.size → ¬ OwnR gr Fr4 b := fun b h1 h2 h' => by
    rcases hf4 b h' with e | e
    · have := Hor.out b e; omega
    · omega
  have HT4 := hide hT4
  have Ho4 := hide ho4
  have Hd4 := hide hd4
  have Hr4 := hide hr4
  clear hT3 hT4 ht3 ht4 hf3 hf4 k3 k4 ho4 hd4 hr4 hs3 S3 S4 s1'
  go_wp2_with fail
  go_loopw [35] (fun i wr => ∃ k : Nat, k ≤ bl.length ∧ i = .int .i64 k ∧ ∃ l' : List Nat, l'.length = bl.length ∧ wr.ownsRow wb.heap.size 5 1 (.slice ao1 bl.length cap1) bl.length (cellsB l') ∧ Two Z S0 W wr n (writeS s n xb bl).1 (writeS s n xb bl).1 g m gr p3 q4 pr4 F3 Fr4) (fun i _ => bl.length - (intOf i).toNat)
  case atStart => exact ⟨0, by omega, rfl, bl, rfl, Ho4.out, HT4.out⟩
  case round =>
    obtain ⟨k, hk, rfl, l', hl', o1, hTr⟩ := hrel
    by_cases hk2 : k < bl.length
    · obtain ⟨yb, rfl, hyb⟩ := Hfg.out (by omega)
      have hyl := (Hvl.out yb rfl).2
      have hcl := owns_cell o1 hl'.symm k (by omega)
      have hfz := o1.frozenAt k
      have hst := owns_byte o1 k 77
      have hT3 := hTr.keeps (Keeps.setCell (S := fun j => j = yb) wr (o := k) rfl (.int .u8 ((77 : Nat) : Int))) (by rintro _ rfl; exact Hd4.out _ hyb hyl) (by rintro _ rfl; exact Hr4.out _ hyb hyl) (by rintro _ rfl; omega)
      have hl2 : (l'.set k 77).length = bl.length := by rw [List.length_set]; exact hl'
      have Hst := hide hst
      have HT3 := hide hT3
      have Hl2 := hide hl2
      clear hst hT3 o1 hTr hl' hl2
      go_wp2
      exact ⟨⟨k + 1, by omega, by go_num, _, Hl2.out, Hst.out, HT3.out⟩, by simp [intOf]; omega⟩
    · obtain rfl : k = bl.length := by omega
      have HB : Hid (Both Z S0 W n (writeS s n xb bl).1 g m gr wr) := ⟨_, _, _, _, _, hTr⟩
      clear o1 hTr hl'
      go_wp2
      go_ret
      exact ⟨by simp, by rw [Hble.out]; exact HB.out⟩

theorem does_yes {Z : World} {S0 : Nat → Prop} {W w : World} {n : Nat} {s : St} {g m gr : Nat} (h : Both Z S0 W n s g m gr w) (x : OpX) (vp : Value) (hvp : Bs W vp x.picks) (hfill : x.fill < 256) (hn : x.n ≤ 9223372036854775807) (hpk : x.picks.length ≤ 140737488355328) (hpl : s.pend.length < 1000000) (hops : s.ops ≤ 1000000) :
    Calls Try.prog 12 #[.pointer (some ⟨g, 0, none⟩), .pointer (some ⟨gr, 0, none⟩), .agg #[.int .i64 x.d, .int .i64 x.b, .int .u8 (x.fill : Int), .int .i64 x.len, .int .i64 x.n, vp]] w fun e w' => e = .returned (.bool true) ∧ Both Z S0 W n (doesS s n x) g m gr w' := by
  by_cases h0 : x.d = 0
  · exact does0 h x vp hvp hfill hn hpk hpl hops h0
  · by_cases h1 : x.d = 1
    · exact does1 h x vp hvp hfill hn hpk hpl hops h1
    · by_cases h2 : x.d = 2
      · exact does2 h x vp hvp hfill hn hpk hpl hops h2
      · by_cases h3 : x.d = 3
        · exact does3 h x vp hvp hfill hn hpk hpl hops h3
        · by_cases h4 : x.d = 4
          · exact does4 h x vp hvp hfill hn hpk hpl hops h4
          · by_cases h5 : x.d = 5
            · exact does5 h x vp hvp hfill hn hpk hpl hops h5
            · exact doesE h x vp hvp hfill hn hpk hpl hops h0 h1 h2 h3 h4 h5

end Go.Proofs.Ytjcobealnjkkcaa
