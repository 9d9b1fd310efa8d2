/- The disk in memory (Dk); contracts of its small readers: isSize, isMade, powered, Len, On, Ops, findable, own, Image, bytes.Equal, block, sector. -/
import Derived.Test.YtjcmmigbkhiplaaRows
import Derived.Test.YtjcmmigbkhiplaaDp
import Derived.Test.YtjcmmigbkhiplaaC1
import Derived.BigQuiet
import Derived.Lib.SlBytesConst
set_option linter.unusedSimpArgs false
set_option linter.unusedVariables false
namespace Go.Proofs.Ytjcmmigbkhiplaa
open Go.RowKit Go.Attic
theorem Try.info93 : (Try.prog.info? 93).map (fun i => (i.zero, i.size, i.bytes)) = some (some (.agg #[.int .i64 0, .slice none 0 0]), 2, 32) := by kernel_rfl

theorem ret_int {k : IntKind} {a b : Int} (h : a = b) : Ending.returned (.int k a) = .returned (.int k b) := by rw [h]
theorem ret_bool {a b : Bool} (h : a = b) : Ending.returned (.bool a) = .returned (.bool b) := by rw [h]

/-- Pending writes as cells: a number and a slice each. -/
def cellsW (ps : List (Nat × List Nat)) (vs : List Value) : List Value := (ps.zip vs).flatMap fun x => [Value.int .i64 (x.1.1 : Int), x.2]

/-- The writes ps, whose bytes the slices vs have, stand in the row v; its block is p; the bytes lie in F, and not in that block. -/
structure Ws (e : TypeId) (w : World) (p : Option Nat) (F : Nat → Prop) (v : Value) (ps : List (Nat × List Nat)) (vs : List Value) : Prop where
  row : w.ownsRow 0 e 2 v ps.length (cellsW ps vs)
  own : v.ownBlock = p
  len : vs.length = ps.length
  pF : ∀ b, p = some b → F b
  bs : ∀ i (hi : i < ps.length) (hv : i < vs.length), Bs w vs[i] (ps[i]).2 ∧ ∀ b, vs[i].ownBlock = some b → F b ∧ p ≠ some b

/-- A disk stands in block g, its medium in block m, its pending writes in block p; what else it reads lies in F. -/
structure Dk (w : World) (g m : Nat) (p : Option Nat) (F : Nat → Prop) (n : Nat) (s : St) : Prop where
  c0 : ∃ cap, w.cell? ⟨g, 0, none⟩ = some (.slice (some ⟨m, 0, none⟩) s.med.length cap) ∧ w.ownsRow 0 5 1 (.slice (some ⟨m, 0, none⟩) s.med.length cap) s.med.length (cellsB s.med)
  c1 : ∃ v vs, w.cell? ⟨g, 1, none⟩ = some v ∧ Ws 93 w p F v s.pend vs
  c2 : w.cell? ⟨g, 2, none⟩ = some (.int .i64 (s.left : Int))
  c3 : ∃ v, w.cell? ⟨g, 3, none⟩ = some v ∧ Bs w v s.picks ∧ ∀ b, v.ownBlock = some b → F b ∧ p ≠ some b
  c4 : w.cell? ⟨g, 4, none⟩ = some (.int .i64 (s.ops : Int))
  c5 : w.cell? ⟨g, 5, none⟩ = some (.bool s.on)
  f0 : w.frozen? ⟨g, 0, none⟩ = false
  f1 : w.frozen? ⟨g, 1, none⟩ = false
  f2 : w.frozen? ⟨g, 2, none⟩ = false
  f3 : w.frozen? ⟨g, 3, none⟩ = false
  f4 : w.frozen? ⟨g, 4, none⟩ = false
  f5 : w.frozen? ⟨g, 5, none⟩ = false
  ne : g ≠ m
  Fg : ¬ F g
  Fm : ¬ F m
  Fl : ∀ k, F k → k < w.heap.size
  ok : s.Ok n

theorem Dk.gl {w : World} {g m : Nat} {p : Option Nat} {F : Nat → Prop} {n : Nat} {s : St} (h : Dk w g m p F n s) : g < w.heap.size := by
  have := World.block_lt_of_cell? w _ h.c2; simpa using this
theorem Dk.ml {w : World} {g m : Nat} {p : Option Nat} {F : Nat → Prop} {n : Nat} {s : St} (h : Dk w g m p F n s) : m < w.heap.size := by
  obtain ⟨cap, _, h2⟩ := h.c0
  exact owns_lt' h2 m rfl

theorem Ws.keeps {e : TypeId} {w w' : World} {p : Option Nat} {F S : Nat → Prop} {v : Value} {ps : List (Nat × List Nat)} {vs : List Value} (h : Ws e w p F v ps vs) (hk : Keeps S w w') (hS : ∀ k, F k → ¬ S k) : Ws e w' p F v ps vs :=
  ⟨hk.owns h.row (fun b hb => hS b (h.pF b (h.own ▸ hb))), h.own, h.len, h.pF, fun i hi hv => ⟨hk.bs (h.bs i hi hv).1 (fun b hb => hS b ((h.bs i hi hv).2 b hb).1), (h.bs i hi hv).2⟩⟩

/-- What nobody of it turns leaves a disk as it is. -/
theorem Dk.keeps {w w' : World} {g m : Nat} {p : Option Nat} {F S : Nat → Prop} {n : Nat} {s : St} (h : Dk w g m p F n s) (hk : Keeps S w w') (hg : ¬ S g) (hm : ¬ S m) (hS : ∀ k, F k → ¬ S k) : Dk w' g m p F n s := by
  obtain ⟨cap, a1, a2⟩ := h.c0
  obtain ⟨v, vs, b1, b2⟩ := h.c1
  obtain ⟨v3, d1, d2, d3⟩ := h.c3
  have hl := h.gl
  exact ⟨⟨cap, hk.cell a1 hg, hk.owns a2 (fun b hb => by cases hb; exact hm)⟩, ⟨v, vs, hk.cell b1 hg, b2.keeps hk hS⟩, hk.cell h.c2 hg, ⟨v3, hk.cell d1 hg, hk.bs d2 (fun b hb => hS b (d3 b hb).1), d3⟩, hk.cell h.c4 hg, hk.cell h.c5 hg,
    by rw [hk.frozen (a := ⟨g, 0, none⟩) hl hg]; exact h.f0, by rw [hk.frozen (a := ⟨g, 1, none⟩) hl hg]; exact h.f1, by rw [hk.frozen (a := ⟨g, 2, none⟩) hl hg]; exact h.f2, by rw [hk.frozen (a := ⟨g, 3, none⟩) hl hg]; exact h.f3, by rw [hk.frozen (a := ⟨g, 4, none⟩) hl hg]; exact h.f4, by rw [hk.frozen (a := ⟨g, 5, none⟩) hl hg]; exact h.f5,
    h.ne, h.Fg, h.Fm, fun k hk' => Nat.lt_of_lt_of_le (h.Fl k hk') hk.size, h.ok⟩

theorem Dk.mono {w w' : World} {g m : Nat} {p : Option Nat} {F : Nat → Prop} {n : Nat} {s : St} (h : Dk w g m p F n s) (hb : Below w.heap.size w w') : Dk w' g m p F n s :=
  h.keeps (S := fun _ => False) (Keeps.of_below hb) id id (fun _ _ => id)

/-- All blocks of a disk. -/
def Own (g m : Nat) (F : Nat → Prop) (k : Nat) : Prop := k = g ∨ k = m ∨ F k

/-- What becomes of the disk in block g: its state is s; only blocks of its own have turned. -/
def Turn (w : World) (g m : Nat) (F : Nat → Prop) (n : Nat) (s : St) (w' : World) : Prop :=
  ∃ p' F', Dk w' g m p' F' n s ∧ Keeps (Own g m F) w w' ∧ ∀ k, F' k → F k ∨ w.heap.size ≤ k

theorem Turn.trans {w w1 w2 : World} {g m : Nat} {p1 : Option Nat} {F F1 : Nat → Prop} {n : Nat} {s1 s2 : St} (k1 : Keeps (Own g m F) w w1) (f1 : ∀ k, F1 k → F k ∨ w.heap.size ≤ k) (h2 : Turn w1 g m F1 n s2 w2) : Turn w g m F n s2 w2 := by
  obtain ⟨p', F', d2, k2, f2⟩ := h2
  refine ⟨p', F', d2, k1.trans' k2 ?_, ?_⟩
  · rintro k (h | h | h)
    · exact .inl (.inl h)
    · exact .inl (.inr (.inl h))
    · rcases f1 k h with h | h
      · exact .inl (.inr (.inr h))
      · exact .inr h
  · intro k hk
    have := k1.size
    rcases f2 k hk with h | h
    · exact f1 k h
    · exact .inr (by omega)

theorem sizeB_def (n : Int) : True := trivial

set_option maxHeartbeats 400000 in
theorem isSize_any (n : Int) (w : World) : Calls Try.prog 33 #[.int .i64 n] w fun e w' => e = .returned (.bool (decide (1 ≤ n ∧ n ≤ 2048))) ∧ w = w' := by
  by_cases h1 : 1 ≤ n
  · by_cases h2 : n ≤ 2048
    · have h3 : decide (1 ≤ n ∧ n ≤ 2048) = true := by simp [h1, h2]
      rw [h3]; clear h3
      go_enter Try.func33, Try.ntmps33
      go_wp2
      go_ret
      exact ⟨by simp, rfl⟩
    · have h3 : decide (1 ≤ n ∧ n ≤ 2048) = false := by simp; omega
      rw [h3]; clear h3
      go_enter Try.func33, Try.ntmps33
      go_wp2
      go_ret
      exact ⟨by simp, rfl⟩
  · have h3 : decide (1 ≤ n ∧ n ≤ 2048) = false := by simp; omega
    rw [h3]; clear h3
    go_enter Try.func33, Try.ntmps33
    go_wp2
    go_ret
    exact ⟨by simp, rfl⟩

set_option maxRecDepth 100000 in
set_option maxHeartbeats 400000 in
theorem isMade_yes {w : World} {g m : Nat} {p : Option Nat} {F : Nat → Prop} {n : Nat} {s : St} (h : Dk w g m p F n s) :
    Calls Try.prog 48 #[.pointer (some ⟨g, 0, none⟩)] w fun e w' => e = .returned (.bool true) ∧ w = w' := by
  obtain ⟨cap, c0, _⟩ := h.c0
  have hl := h.ok.len
  have hn := h.ok.n1
  have hp : 0 < s.med.length := by omega
  clear h hl hn
  go_enter Try.func48, Try.ntmps48
  go_wp2
  go_ret
  exact ⟨by simp, rfl⟩

set_option maxRecDepth 100000 in
set_option maxHeartbeats 400000 in
theorem powered_yes {w : World} {g m : Nat} {p : Option Nat} {F : Nat → Prop} {n : Nat} {s : St} (h : Dk w g m p F n s) :
    Calls Try.prog 47 #[.pointer (some ⟨g, 0, none⟩)] w fun e w' => e = .returned (.int .i64 (if s.on = false then 5 else 0)) ∧ w = w' := by
  have c5 := h.c5
  cases hon : s.on with
  | true =>
    rw [hon] at c5
    rw [if_neg (by simp)]
    go_enter Try.func47, Try.ntmps47
    go_wp2_with fail
    refine (isMade_yes h).mono ?_
    rintro e w' ⟨rfl, rfl⟩
    go_wp2
    go_ret
    exact ⟨by simp, rfl⟩
  | false =>
    rw [hon] at c5
    rw [if_pos rfl]
    go_enter Try.func47, Try.ntmps47
    go_wp2_with fail
    refine (isMade_yes h).mono ?_
    rintro e w' ⟨rfl, rfl⟩
    go_wp2
    go_ret
    exact ⟨by simp, rfl⟩

set_option maxRecDepth 100000 in
set_option maxHeartbeats 400000 in
theorem len_yes {w : World} {g m : Nat} {p : Option Nat} {F : Nat → Prop} {n : Nat} {s : St} (h : Dk w g m p F n s) :
    Calls Try.prog 34 #[.pointer (some ⟨g, 0, none⟩)] w fun e w' => e = .returned (.int .i64 (n : Int)) ∧ w = w' := by
  obtain ⟨cap, c0, _⟩ := h.c0
  have hl := h.ok.len
  have hn := h.ok.n2
  rw [hl] at c0
  go_enter Try.func34, Try.ntmps34
  go_wp2_with fail
  refine (isMade_yes h).mono ?_
  rintro e w' ⟨rfl, rfl⟩
  go_wp2
  go_ret
  exact ⟨ret_int (by omega), rfl⟩

/-- What stands against a call that needs the power and a block. -/
def findS (s : St) (n : Nat) (i : Int) : Int := if s.on = false then 5 else if inS n i = false then 30 else 0

set_option maxRecDepth 100000 in
set_option maxHeartbeats 400000 in
theorem findable_yes {w : World} {g m : Nat} {p : Option Nat} {F : Nat → Prop} {n : Nat} {s : St} (i : Int) (h : Dk w g m p F n s) :
    Calls Try.prog 42 #[.pointer (some ⟨g, 0, none⟩), .int .i64 i] w fun e w' => e = .returned (.int .i64 (findS s n i)) ∧ w = w' := by
  have hp := powered_yes h
  cases hon : s.on with
  | false =>
    have e : findS s n i = 5 := by simp [findS, hon]
    rw [e]; clear e
    rw [hon] at hp
    go_enter Try.func42, Try.ntmps42
    go_wp2_with fail
    refine hp.mono ?_
    rintro e w' ⟨rfl, rfl⟩
    go_wp2
    go_ret
    exact ⟨by simp, rfl⟩
  | true =>
    rw [hon] at hp
    by_cases h1 : i < 0
    · have e : findS s n i = 30 := by simp [findS, hon, inS]; omega
      rw [e]; clear e
      go_enter Try.func42, Try.ntmps42
      go_wp2_with fail
      refine hp.mono ?_
      rintro e w' ⟨rfl, rfl⟩
      go_wp2
      go_ret
      exact ⟨by simp, rfl⟩
    · by_cases h2 : i < (n : Int)
      · have e : findS s n i = 0 := by simp [findS, hon, inS]; omega
        rw [e]; clear e
        go_enter Try.func42, Try.ntmps42
        go_wp2_with fail
        refine hp.mono ?_
        rintro e w' ⟨rfl, rfl⟩
        go_wp2_with fail
        refine (len_yes h).mono ?_
        rintro e w' ⟨rfl, rfl⟩
        go_wp2
        go_ret
        exact ⟨by simp, rfl⟩
      · have e : findS s n i = 30 := by simp [findS, hon, inS]; omega
        rw [e]; clear e
        go_enter Try.func42, Try.ntmps42
        go_wp2_with fail
        refine hp.mono ?_
        rintro e w' ⟨rfl, rfl⟩
        go_wp2_with fail
        refine (len_yes h).mono ?_
        rintro e w' ⟨rfl, rfl⟩
        go_wp2
        go_ret
        exact ⟨by simp, rfl⟩

set_option maxRecDepth 100000 in
set_option maxHeartbeats 400000 in
theorem own_any (v : Value) (l : List Nat) (w : World) (h : Bs w v l) (hlen : l.length ≤ 140737488355328) :
    Calls Try.prog 43 #[v] w (NewBs w l) := by
  obtain ⟨i0, hi, hz0, hz1, hz2⟩ := info_parts Try.info5
  go_enter Try.func43, Try.ntmps43
  go_wp2_with (at_builtin; refine wpList_append_bs _ rfl (.const (.slice none 0 0)) (.tmp 3) 37 rfl w.heap.size 5 i0 (.int .u8 0) Try.underlying37 hi hz0 hz1 hz2 rfl _ 0 [] rfl (World.ownsRow_nil _ _ _ _) _ l rfl h (by omega) (Nat.le_refl _) ?_; intro v' w1 hown hgrow)
  have hb : Below w.heap.size w w1 := (Below.refl _ _).grown hgrow (Nat.le_refl _) (by intro k hk; cases hk)
  rw [Nat.zero_add, List.nil_append] at hown
  go_ret
  exact ⟨_, rfl, hown, hb⟩

theorem Dk.medBs {w : World} {g m : Nat} {p : Option Nat} {F : Nat → Prop} {n : Nat} {s : St} (h : Dk w g m p F n s) : ∃ cap, w.cell? ⟨g, 0, none⟩ = some (.slice (some ⟨m, 0, none⟩) s.med.length cap) ∧ Bs w (.slice (some ⟨m, 0, none⟩) s.med.length cap) s.med := by
  obtain ⟨cap, c0, ho⟩ := h.c0
  exact ⟨cap, c0, Bs.of_owns ho h.ok.lt⟩

set_option maxRecDepth 100000 in
set_option maxHeartbeats 400000 in
theorem image_yes {w : World} {g m : Nat} {p : Option Nat} {F : Nat → Prop} {n : Nat} {s : St} (h : Dk w g m p F n s) :
    Calls Try.prog 27 #[.pointer (some ⟨g, 0, none⟩)] w (NewBs w s.med) := by
  obtain ⟨cap, c0, hbs⟩ := h.medBs
  have hlen : s.med.length ≤ 524288 := by have hl := h.ok.len; have hn := h.ok.n2; omega
  go_enter Try.func27, Try.ntmps27
  go_wp2_with fail
  refine (isMade_yes h).mono ?_
  rintro e w' ⟨rfl, rfl⟩
  go_wp2_with fail
  refine (own_any _ _ _ hbs (by omega)).mono ?_
  rintro e w1 ⟨v1, rfl, ho1, hb1⟩
  go_wp2
  go_ret
  exact ⟨_, rfl, ho1, hb1⟩


end Go.Proofs.Ytjcmmigbkhiplaa
