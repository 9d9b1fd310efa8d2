/- Contract: fetch of a cache. -/
import Derived.Test.YtjcmmigbkhiplaaK2
set_option linter.unusedSimpArgs false
set_option linter.unusedVariables false
namespace Go.Proofs.Ytjcmmigbkhiplaa
open Go.RowKit Go.Attic

theorem wpList_delete_mp {w : World} {ops : Array Oper} {rest : List Oper} {o : Oper} {a : Act} {Q : Exit → Act → World → Prop} (hg : o.guard = none) (m x : Operand) (hop : o.op = Op.call { callee := Callee.builtin Builtin.delete, args := #[m, x], argTypes := #[60, 3] })
    (b : Nat) (K : List (Int × Nat)) (hm : a.eval m = .map (some b)) (hown : MpAt w b K) (i : Int) (hi : -9223372036854775808 ≤ i ∧ i ≤ 9223372036854775807) (hx : a.eval x = .int .i64 i)
    (hK : ∀ w', MpAt w' b (K.filter fun x => x.1 != i) → w.grownBy w' (some b) → w'.heap.size = w.heap.size → wpList Try.prog ops Q rest (a.put o.dst (.tuple #[])) w') :
    wpList Try.prog ops Q (o :: rest) a w := by
  refine wpList_plain hg fun K' hK' => ?_
  obtain ⟨w', hrun, r1, r2, r3⟩ := hown.drop i hi o.type
  unfold Oper.wp
  simp [execOp, hop, resolve, invoke, builtin, hm, hx, hrun, Result.andThen]
  exact hK' _ _ (hK w' r1 r2 r3)

theorem wpList_put_mp {w : World} {ops : Array Oper} {rest : List Oper} {o : Oper} {a : Act} {Q : Exit → Act → World → Prop} (hg : o.guard = none) (m x v : Operand) (hop : o.op = Op.mapUpdate 60 m x v)
    (b : Nat) (K : List (Int × Nat)) (hm : a.eval m = .map (some b)) (hown : MpAt w b K) (i : Int) (p : Nat) (hi : -9223372036854775808 ≤ i ∧ i ≤ 9223372036854775807) (hx : a.eval x = .int .i64 i) (hv : a.eval v = .pointer (some ⟨p, 0, none⟩))
    (hno : ∀ x ∈ K, x.1 ≠ i) (hn : K.length < 1000000)
    (hK : ∀ w', MpAt w' b (K ++ [(i, p)]) → w.grownBy w' (some b) → w'.heap.size = w.heap.size → wpList Try.prog ops Q rest (a.put o.dst undef) w') :
    wpList Try.prog ops Q (o :: rest) a w := by
  refine wpList_plain hg fun K' hK' => ?_
  obtain ⟨w', hrun, r1, r2, r3⟩ := hown.put i p hi hno hn
  unfold Oper.wp
  simp [execOp, hop, hm, hx, hv, hrun, Result.andThen]
  exact hK' _ _ (hK w' r1 r2 r3)

/-- The error with which a block that has no buffer does not come in, and what is left of the buffers. -/
def fetchL (room : Nat) (s : St) (B : List Bu) : List Bu × Int :=
  if room ≤ B.length then
    match B.find? (fun x => !x.d) with
    | none => (B, 6)
    | some o => if s.on = false then (B, 5) else (B.filter (fun y => y.i != o.i), 0)
  else if s.on = false then (B, 5) else (B, 0)

section
variable {w : World} {c m g room q : Nat} {B : List Bu} {F : Nat → Prop} {gm : Nat} {p : Option Nat} {Fd : Nat → Prop} {n : Nat} {s : St}

theorem Ca.keysLen (h : Ca w c m g room q B F) : (keysOf B).length = B.length := by simp [keysOf]

theorem Ca.lens (h : Ca w c m g room q B F) : ∀ (k : Nat) (ty : TypeId), (Builtin.len_ #[60] ty #[.map (some m)]).run Try.prog (w.drewN k) = .ok (.int .i64 (B.length : Int)) (w.drewN k) := fun k ty => by
  have := (h.mono (below_drewN (Below.refl _ w) k)).mp.len ty
  rw [h.keysLen] at this
  exact this

theorem Ca.olds (h : Ca w c m g room q B F) (hA : Asc B q) (hq : q ≤ 1000000) : ∀ k : Nat,
    Calls Try.prog 61 #[.pointer (some ⟨c, 0, none⟩)] (w.drewN k) fun e w' => e = .returned (.tuple #[.int .i64 (atOf (B.find? fun x => !x.d)), .bool (B.find? fun x => !x.d).isSome]) ∧ Below w.heap.size w w' := fun k =>
  (oldest_any (w := w.drewN k) (h.mono (below_drewN (Below.refl _ w) k)) hA hq).mono fun e w' ⟨h1, h2⟩ => ⟨h1, (below_drewN (Below.refl _ w) k).trans h2⟩

set_option maxRecDepth 100000 in
set_option maxHeartbeats 1000000 in
theorem fetch_full (i : Int) (h : Ca w c m g room q B F) (hA : Asc B q) (hq : q ≤ 1000000) (hB : B.length ≤ 256) (hf : room ≤ B.length) (hn : B.find? (fun x => !x.d) = none) :
    Calls Try.prog 53 #[.pointer (some ⟨c, 0, none⟩), .int .i64 i] w fun e w' => e = .returned (.tuple #[.pointer none, .int .i64 6]) ∧ Below w.heap.size w w' := by
  have c1 := h.c1
  have c2 := h.c2
  have hlen := h.lens
  have hold := h.olds hA hq
  rw [hn] at hold
  simp only [atOf, Option.isSome] at hold
  have Hold := hide hold
  clear h hA hold hn
  go_enter Try.func53, Try.ntmps53
  go_wp2_with fail
  go_quiet (fail)
  go_wp2_with fail
  refine (Hold.out _).mono ?_
  rintro e w' ⟨rfl, hb⟩
  go_wp2_with fail
  go_ret2
  exact ⟨rfl, hb⟩

/-- The power is not there. -/
theorem readS_off {s : St} (n : Nat) (i : Int) (h : s.on = false) : readS s n i = ([], 5) := by simp [readS, h]
theorem readS_on {s : St} {n i : Nat} (h : s.on = true) (hi : i < n) : readS s n (i : Int) = (readL s i, 0) := by simp [readS, h, inS, hi]

set_option maxRecDepth 100000 in
set_option maxHeartbeats 1000000 in
theorem fetch_off (i : Nat) (h : Ca w c m g room q B F) (hA : Asc B q) (hd : Dk w g gm p Fd n s) (hq : q ≤ 1000000) (hpl : s.pend.length ≤ 1000000) (hon : s.on = false) (o : Option Bu) (ho : B.find? (fun x => !x.d) = o) (full : Bool) (hf : full = decide (room ≤ B.length)) (hno : (full && !o.isSome) = false) :
    Calls Try.prog 53 #[.pointer (some ⟨c, 0, none⟩), .int .i64 (i : Int)] w fun e w' => e = .returned (.tuple #[.pointer none, .int .i64 5]) ∧ Below w.heap.size w w' := by
  have c0 := h.c0
  have c1 := h.c1
  have c2 := h.c2
  have hlen := h.lens
  have hold := h.olds hA hq
  rw [ho] at hold
  obtain ⟨at1, hat1⟩ : ∃ z, atOf o = z := ⟨_, rfl⟩
  rw [hat1] at hold
  have Hold := hide hold
  have H := hide h
  have Hd := hide hd
  clear h hA hold ho hd hat1
  have d0 : decide ((room : Int) ≤ (B.length : Int)) = full := by rw [hf]; simp
  cases full with
  | true =>
    have hs : o.isSome = true := by simpa using hno
    have hf' : room ≤ B.length := by simpa using hf.symm
    rw [hs] at Hold
    clear hno hs hf d0
    go_enter Try.func53, Try.ntmps53
    go_wp2_with fail
    go_quiet (fail)
    go_wp2_with fail
    refine (Hold.out _).mono ?_
    rintro e w' ⟨rfl, hb⟩
    have c0' := (hb.cell (p := ⟨c, 0, none⟩) (by have := H.out.cl; simpa using this)).trans c0
    have hr := read_yes (Hd.out.mono hb) (i : Int) hpl
    rw [readS_off n _ hon] at hr
    have Hr := hide hr
    clear hr
    go_wp2_with fail
    refine Hr.out.mono ?_
    rintro e w2 ⟨v, rfl, ho2, hb2⟩
    go_wp2_with fail
    go_ret2
    exact ⟨rfl, hb.trans (hb2.mono hb.size)⟩
  | false =>
    have hf' : ¬ room ≤ B.length := by simpa using hf.symm
    obtain ⟨fd, hfd⟩ : ∃ z, o.isSome = z := ⟨_, rfl⟩
    rw [hfd] at Hold
    clear hno hf hfd d0
    go_enter Try.func53, Try.ntmps53
    go_wp2_with fail
    go_quiet (fail)
    go_wp2_with fail
    refine (Hold.out _).mono ?_
    rintro e w' ⟨rfl, hb⟩
    have c0' := (hb.cell (p := ⟨c, 0, none⟩) (by have := H.out.cl; simpa using this)).trans c0
    have hr := read_yes (Hd.out.mono hb) (i : Int) hpl
    rw [readS_off n _ hon] at hr
    have Hr := hide hr
    clear hr
    go_wp2_with fail
    refine Hr.out.mono ?_
    rintro e w2 ⟨v, rfl, ho2, hb2⟩
    go_wp2_with fail
    go_ret2
    exact ⟨rfl, hb.trans (hb2.mono hb.size)⟩

end

end Go.Proofs.Ytjcmmigbkhiplaa
