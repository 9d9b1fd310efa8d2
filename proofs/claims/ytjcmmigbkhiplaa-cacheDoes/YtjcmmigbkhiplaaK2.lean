/- Contracts: isMade, findable, oldestClean, New, Has of a cache. -/
import Derived.Test.YtjcmmigbkhiplaaK1
set_option linter.unusedSimpArgs false
set_option linter.unusedVariables false
namespace Go.Proofs.Ytjcmmigbkhiplaa
open Go.RowKit Go.Attic

section
variable {w : World} {c m g room q : Nat} {B : List Bu} {F : Nat → Prop}

set_option maxRecDepth 100000 in
set_option maxHeartbeats 400000 in
theorem cmade_yes (h : Ca w c m g room q B F) : Calls Try.prog 38 #[.pointer (some ⟨c, 0, none⟩)] w fun e w' => e = .returned (.bool true) ∧ w = w' := by
  have c0 := h.c0
  clear h
  go_enter Try.func38, Try.ntmps38
  go_wp2
  go_ret
  exact ⟨by simp, rfl⟩

set_option maxRecDepth 100000 in
set_option maxHeartbeats 1000000 in
theorem cfind_yes {gm : Nat} {p : Option Nat} {Fd : Nat → Prop} {n : Nat} {s : St} (i : Int) (h : Ca w c m g room q B F) (hd : Dk w g gm p Fd n s) :
    Calls Try.prog 35 #[.pointer (some ⟨c, 0, none⟩), .int .i64 i] w fun e w' => e = .returned (.int .i64 (if inS n i = true then 0 else 30)) ∧ w = w' := by
  have c0 := h.c0
  have hm := cmade_yes h
  have hl := len_yes hd
  clear h hd
  by_cases h1 : i < 0
  · rw [if_neg (by simp [inS]; omega)]
    go_enter Try.func35, Try.ntmps35
    go_wp2_with fail
    refine hm.mono ?_
    rintro e w' ⟨rfl, rfl⟩
    go_wp2_with fail
    go_ret
    exact ⟨rfl, rfl⟩
  · by_cases h2 : (n : Int) ≤ i
    · rw [if_neg (by simp [inS]; omega)]
      go_enter Try.func35, Try.ntmps35
      go_wp2_with fail
      refine hm.mono ?_
      rintro e w' ⟨rfl, rfl⟩
      go_wp2_with fail
      refine hl.mono ?_
      rintro e w' ⟨rfl, rfl⟩
      go_wp2_with fail
      go_ret
      exact ⟨rfl, rfl⟩
    · rw [if_pos (by simp [inS]; omega)]
      go_enter Try.func35, Try.ntmps35
      go_wp2_with fail
      refine hm.mono ?_
      rintro e w' ⟨rfl, rfl⟩
      go_wp2_with fail
      refine hl.mono ?_
      rintro e w' ⟨rfl, rfl⟩
      go_wp2_with fail
      go_ret
      exact ⟨rfl, rfl⟩

theorem key_mem {x : Int × Nat} (hx : x ∈ keysOf B) : ∃ y ∈ B, x = ((y.i : Int), y.p) := by
  unfold keysOf at hx
  obtain ⟨y, hy, e⟩ := List.mem_map.1 hx
  exact ⟨y, hy, e.symm⟩

def atOf : Option Bu → Int
  | none => 0
  | some b => b.i

set_option maxRecDepth 100000 in
set_option maxHeartbeats 1000000 in
theorem oldest_any (h : Ca w c m g room q B F) (hA : Asc B q) (hq : q ≤ 1000000) :
    Calls Try.prog 61 #[.pointer (some ⟨c, 0, none⟩)] w fun e w' => e = .returned (.tuple #[.int .i64 (atOf (B.find? fun x => !x.d)), .bool (B.find? fun x => !x.d).isSome]) ∧ Below w.heap.size w w' := by
  have c2 := h.c2
  have hmp := h.mp
  have hnd := h.nodup
  have H := hide h
  have HA := hide hA
  clear h hA
  go_enter Try.func61, Try.ntmps61
  go_wp2_with (first | (at_range; refine wpList_range_mp rfl _ rfl _ _ rfl hmp ?_; intro w0 hrg0 hg0 hs0) | go_in)
  go_frame
  go_loopw [4, 5] (fun ov iv wr => ∃ (L : Int → Bool) (cnt : Nat) (o : Option Bu), MpR wr m w.heap.size (keysOf B) L cnt ∧ ov = mkPtr (o.map Bu.p) ∧ iv = .int .i64 (atOf o) ∧ Best B L o ∧ Below w.heap.size w wr) (fun _ _ wr => wr.rangeLeft m w.heap.size)
  case atStart =>
    refine ⟨_, _, none, hrg0, rfl, rfl, ?_, ?_⟩
    · intro x hx hl
      have : (keysOf B).any (fun z => z.1 == (x.i : Int)) = true := List.any_eq_true.2 ⟨((x.i : Int), x.p), List.mem_map.2 ⟨x, hx, rfl⟩, by simp⟩
      have hl : (keysOf B).any (fun z => z.1 == (x.i : Int)) = false := hl
      rw [this] at hl; cases hl
    · exact (Below.refl _ w).grown hg0 (Nat.le_refl _) (fun k hk => by cases hk)
  case round =>
    obtain ⟨L, cnt, o, hrg, rfl, rfl, hbest, hbr⟩ := hrel
    have hle := hrg.left_eq
    have Hle := hide hle
    clear hle hrg0 hg0 hs0 hmp
    have Hbest := hide hbest
    have Hnd := hide hnd
    clear hbest hnd
    go_wp2_with (first | (at_next; refine wpList_next_mp rfl _ rfl _ _ _ _ _ rfl hrg ?_ ?_) | go_in)
    · intro hl0
      have hfin := Hbest.out.all HA.out hl0
      have Hfin := hide hfin
      clear hfin
      cases o with
      | none =>
        simp only [Option.map_none, mkPtr, atOf]
        go_wp2_with fail
        go_ret2
        rw [Hfin.out]
        exact ⟨rfl, hbr⟩
      | some b =>
        simp only [Option.map_some, mkPtr, atOf]
        go_wp2_with fail
        go_ret2
        rw [Hfin.out]
        exact ⟨rfl, hbr⟩
    · intro x xp w1 cnt1 hx hlx hrg1 hlt hg1 hs1 hen
      obtain ⟨y, hy, e⟩ := key_mem hx
      injection e with e1 e2
      subst e1 e2
      have hb1 : Below w.heap.size w w1 := hbr.grown hg1 (by have := hbr.size; omega) (fun k hk => by injection hk with hk; omega)
      have hbuf := (H.out.bu y hy).keeps (S := fun _ => False) (Keeps.of_below hb1) id id
      have k1 := hbuf.c1
      have k2 := hbuf.c2
      have hya := HA.out.2 y hy
      have Hlt := hide hlt
      clear hrg hx hlt hbuf
      cases hyd : y.d with
      | true =>
        have hB1 := Hbest.out.skip Hnd.out hy hlx hyd
        rw [hyd] at k1
        have HB1 := hide hB1
        have Hrg1 := hide hrg1
        clear hB1 hyd hrg1 hlx
        have fin : ∀ n, MpR (w1.drewN n) m w.heap.size (keysOf B) (fun j => L j && !(j == (y.i : Int))) cnt1 ∧ Best B (fun j => L j && !(j == (y.i : Int))) o ∧ Below w.heap.size w (w1.drewN n) ∧ (w1.drewN n).rangeLeft m w.heap.size < wr.rangeLeft m w.heap.size := fun n =>
          ⟨Hrg1.out.drew n, HB1.out, below_drewN hb1 n, by rw [(Hrg1.out.drew n).left_eq, Hle.out]; exact Hlt.out⟩
        cases o with
        | none =>
          simp only [Option.map_none, mkPtr, atOf]
          go_wp2_with fail
          go_quiet (fail)
          go_wp2_with fail
          go_roundw
          case rel => exact (fin _).elim fun f1 f2 => ⟨_, _, none, f1, rfl, rfl, f2.1, f2.2.1⟩
          case measure => exact (fin _).elim fun f1 f2 => f2.2.2
        | some b =>
          simp only [Option.map_some, mkPtr, atOf]
          go_wp2_with fail
          go_quiet (fail)
          go_wp2_with fail
          go_roundw
          case rel => exact (fin _).elim fun f1 f2 => ⟨_, _, some b, f1, rfl, rfl, f2.1, f2.2.1⟩
          case measure => exact (fin _).elim fun f1 f2 => f2.2.2
      | false =>
        rw [hyd] at k1
        have Hrg1 := hide hrg1
        clear hrg1
        cases o with
        | none =>
          have hB1 := Hbest.out.take Hnd.out hy hlx hyd (fun b hb => by cases hb)
          have HB1 := hide hB1
          clear hB1 hlx hyd
          have fin : ∀ n, MpR (w1.drewN n) m w.heap.size (keysOf B) (fun j => L j && !(j == (y.i : Int))) cnt1 ∧ Best B (fun j => L j && !(j == (y.i : Int))) (some y) ∧ Below w.heap.size w (w1.drewN n) ∧ (w1.drewN n).rangeLeft m w.heap.size < wr.rangeLeft m w.heap.size := fun n =>
            ⟨Hrg1.out.drew n, HB1.out, below_drewN hb1 n, by rw [(Hrg1.out.drew n).left_eq, Hle.out]; exact Hlt.out⟩
          simp only [Option.map_none, mkPtr, atOf]
          go_wp2_with fail
          go_quiet (fail)
          go_wp2_with fail
          go_roundw
          case rel => exact (fin _).elim fun f1 f2 => ⟨_, _, some y, f1, rfl, rfl, f2.1, f2.2.1⟩
          case measure => exact (fin _).elim fun f1 f2 => f2.2.2
        | some b =>
          have hbb := Hbest.out.1
          have hbuf2 := (H.out.bu b hbb).keeps (S := fun _ => False) (Keeps.of_below hb1) id id
          have k3 := hbuf2.c2
          clear hbuf2
          by_cases hab : y.a < b.a
          · have hB1 := Hbest.out.take Hnd.out hy hlx hyd (fun z hz => by cases hz; omega)
            have HB1 := hide hB1
            clear hB1 hlx hyd
            have fin : ∀ n, MpR (w1.drewN n) m w.heap.size (keysOf B) (fun j => L j && !(j == (y.i : Int))) cnt1 ∧ Best B (fun j => L j && !(j == (y.i : Int))) (some y) ∧ Below w.heap.size w (w1.drewN n) ∧ (w1.drewN n).rangeLeft m w.heap.size < wr.rangeLeft m w.heap.size := fun n =>
              ⟨Hrg1.out.drew n, HB1.out, below_drewN hb1 n, by rw [(Hrg1.out.drew n).left_eq, Hle.out]; exact Hlt.out⟩
            have d1 : decide ((y.a : Int) < (b.a : Int)) = true := by simpa using hab
            simp only [Option.map_some, mkPtr, atOf]
            go_wp2_with fail
            go_quiet (fail)
            go_wp2_with fail
            go_roundw
            case rel => exact (fin _).elim fun f1 f2 => ⟨_, _, some y, f1, rfl, rfl, f2.1, f2.2.1⟩
            case measure => exact (fin _).elim fun f1 f2 => f2.2.2
          · have hB1 := Hbest.out.keep Hnd.out hy hlx hyd (by omega)
            have HB1 := hide hB1
            clear hB1 hlx hyd
            have fin : ∀ n, MpR (w1.drewN n) m w.heap.size (keysOf B) (fun j => L j && !(j == (y.i : Int))) cnt1 ∧ Best B (fun j => L j && !(j == (y.i : Int))) (some b) ∧ Below w.heap.size w (w1.drewN n) ∧ (w1.drewN n).rangeLeft m w.heap.size < wr.rangeLeft m w.heap.size := fun n =>
              ⟨Hrg1.out.drew n, HB1.out, below_drewN hb1 n, by rw [(Hrg1.out.drew n).left_eq, Hle.out]; exact Hlt.out⟩
            have d1 : decide ((y.a : Int) < (b.a : Int)) = false := by simpa using hab
            simp only [Option.map_some, mkPtr, atOf]
            go_wp2_with fail
            go_quiet (fail)
            go_wp2_with fail
            go_roundw
            case rel => exact (fin _).elim fun f1 f2 => ⟨_, _, some b, f1, rfl, rfl, f2.1, f2.2.1⟩
            case measure => exact (fin _).elim fun f1 f2 => f2.2.2

end

end Go.Proofs.Ytjcmmigbkhiplaa
