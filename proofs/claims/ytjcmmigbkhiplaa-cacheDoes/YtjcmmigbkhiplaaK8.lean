/- Contract: Dirty of a cache, an iterator over the numbers of what is dirty. -/
import Derived.Test.YtjcmmigbkhiplaaK7
import Derived.Test.YtjcmmigbkhiplaaI3
import Derived.Test.YtjcmmigbkhiplaaI4
set_option linter.unusedSimpArgs false
set_option linter.unusedVariables false
namespace Go.Proofs.Ytjcmmigbkhiplaa
open Go.RowKit Go.Attic

def dirtyL (A : List En) : List Int := sortN ((A.filter fun x => x.d).map fun x => (x.i : Int))

theorem sortN_rise {zs : List Int} (h : zs.Nodup) : Rise (sortN zs) := by
  have hn : (sortN zs).Nodup := (List.mergeSort_perm zs _).nodup_iff.2 h
  unfold Rise
  rw [List.pairwise_iff_getElem]
  intro i j hi hj hij
  have h1 := sortN_le zs i j hi hj (by omega)
  have h2 : (sortN zs)[i] ≠ (sortN zs)[j] := List.pairwise_iff_getElem.1 hn i j hi hj hij
  omega

theorem dirty_nodup {A : List En} (hA : A.Pairwise fun x y => x.i ≠ y.i) : ((A.filter fun x => x.d).map fun x => (x.i : Int)).Nodup := by
  unfold List.Nodup
  rw [List.pairwise_map]
  exact (hA.filter _).imp (fun h e => h (by omega))

theorem dirty_one {A : List En} (hA : A.Pairwise fun x y => x.i ≠ y.i) {zs : List Int} (hz : zs.Nodup) (hm : ∀ z, z ∈ zs ↔ ∃ x ∈ A, x.d = true ∧ z = (x.i : Int)) : sortN zs = dirtyL A := by
  refine rise_one (sortN_rise hz) (sortN_rise (dirty_nodup hA)) fun z => ?_
  show z ∈ sortN zs ↔ z ∈ sortN ((A.filter fun x => x.d).map fun x => (x.i : Int))
  rw [sortN_mem, sortN_mem, hm]
  constructor
  · rintro ⟨x, hx, hd, rfl⟩
    exact List.mem_map.2 ⟨x, List.mem_filter.2 ⟨hx, hd⟩, rfl⟩
  · intro h
    obtain ⟨x, hx, rfl⟩ := List.mem_map.1 h
    exact ⟨x, (List.mem_filter.1 hx).1, (List.mem_filter.1 hx).2, rfl⟩

theorem dirtyL_len (A : List En) : (dirtyL A).length = (A.filter fun x => x.d).length := by
  unfold dirtyL; rw [sortN_len, List.length_map]
theorem dirtyL_mem (A : List En) (z : Int) : z ∈ dirtyL A ↔ ∃ x ∈ A, x.d = true ∧ z = (x.i : Int) := by
  unfold dirtyL
  rw [sortN_mem]
  constructor
  · intro h
    obtain ⟨x, hx, rfl⟩ := List.mem_map.1 h
    exact ⟨x, (List.mem_filter.1 hx).1, (List.mem_filter.1 hx).2, rfl⟩
  · rintro ⟨x, hx, hd, rfl⟩
    exact List.mem_map.2 ⟨x, List.mem_filter.2 ⟨hx, hd⟩, rfl⟩

/-- An iterator over these numbers, made from block base on. -/
def ItF (base : Nat) (w : World) (zs : List Int) (f : Value) : Prop :=
  ∃ b v, f = .func (.func 64) #[] #[.pointer (some ⟨b, 0, none⟩)] ∧ Boxed w b 58 v ∧ Is w v zs ∧ base ≤ b ∧ ∀ c, v.ownBlock = some c → base ≤ c ∧ c < w.heap.size
theorem ItF.it {base : Nat} {w : World} {zs : List Int} {f : Value} (h : ItF base w zs f) : ItI w zs f := by
  obtain ⟨b, v, h1, h2, h3, h4, h5⟩ := h
  exact ⟨b, v, h1, h2, h3, fun c hc => (h5 c hc).2⟩

/-- What has been gathered: the dirty ones among those that have come. -/
def Gath (B : List Bu) (L : Int → Bool) (zs : List Int) : Prop := zs.Nodup ∧ ∀ z, z ∈ zs ↔ ∃ x ∈ B, x.d = true ∧ L x.i = false ∧ z = (x.i : Int)

theorem Gath.skip {B : List Bu} {L : Int → Bool} {zs : List Int} (h : Gath B L zs) (hi : B.Pairwise (fun x y => x.i ≠ y.i)) {x : Bu} (hx : x ∈ B) (hd : x.d = false) : Gath B (fun j => L j && !(j == (x.i : Int))) zs := by
  refine ⟨h.1, fun z => (h.2 z).trans ?_⟩
  constructor
  · rintro ⟨y, hy, hyd, hL, e⟩
    exact ⟨y, hy, hyd, by simp [hL], e⟩
  · rintro ⟨y, hy, hyd, hL, e⟩
    have hL : (L y.i && !((y.i : Int) == (x.i : Int))) = false := hL
    by_cases e2 : (y.i : Int) = x.i
    · have := same_i hi hy hx (by omega)
      rw [this, hd] at hyd; cases hyd
    · have : ((y.i : Int) == (x.i : Int)) = false := by simpa using e2
      rw [this] at hL
      exact ⟨y, hy, hyd, by simpa using hL, e⟩

theorem Gath.take {B : List Bu} {L : Int → Bool} {zs : List Int} (h : Gath B L zs) (hi : B.Pairwise (fun x y => x.i ≠ y.i)) {x : Bu} (hx : x ∈ B) (hd : x.d = true) (hL : L x.i = true) : Gath B (fun j => L j && !(j == (x.i : Int))) (zs ++ [(x.i : Int)]) := by
  refine ⟨?_, fun z => ?_⟩
  · rw [List.nodup_append]
    refine ⟨h.1, by simp, fun a ha b hb e => ?_⟩
    obtain rfl : b = (x.i : Int) := by simpa using hb
    subst e
    obtain ⟨y, hy, _, hLy, e⟩ := (h.2 _).1 ha
    rw [← e, hL] at hLy; cases hLy
  · rw [List.mem_append, h.2 z]
    constructor
    · rintro (⟨y, hy, hyd, hLy, e⟩ | e)
      · exact ⟨y, hy, hyd, by simp [hLy], e⟩
      · exact ⟨x, hx, hd, by simp, by simpa using e⟩
    · rintro ⟨y, hy, hyd, hLy, e⟩
      have hLy : (L y.i && !((y.i : Int) == (x.i : Int))) = false := hLy
      by_cases e2 : (y.i : Int) = x.i
      · exact .inr (by rw [e, e2]; simp)
      · have : ((y.i : Int) == (x.i : Int)) = false := by simpa using e2
        rw [this] at hLy
        exact .inl ⟨y, hy, hyd, by simpa using hLy, e⟩

theorem Gath.all {B : List Bu} {L : Int → Bool} {zs : List Int} (h : Gath B L zs) (hi : B.Pairwise (fun x y => x.i ≠ y.i)) (hL : ∀ i, L i = false) : sortN zs = dirtyL (B.map Bu.en) := by
  refine dirty_one (by rw [List.pairwise_map]; exact hi) h.1 fun z => (h.2 z).trans ?_
  constructor
  · rintro ⟨x, hx, hd, _, e⟩
    exact ⟨x.en, List.mem_map.2 ⟨x, hx, rfl⟩, hd, e⟩
  · rintro ⟨y, hy, hd, e⟩
    obtain ⟨x, hx, rfl⟩ := List.mem_map.1 hy
    exact ⟨x, hx, hd, hL _, e⟩

section
variable {w w' : World} {c g : Nat} {S : Nat → Prop} {room n Q : Nat} {s : St} {A : List En}

set_option maxRecDepth 100000 in
set_option maxHeartbeats 1000000 in
theorem cdirty_any (h : CD w c g S room n Q s A) :
    Calls Try.prog 39 #[.pointer (some ⟨c, 0, none⟩)] w fun e w' => ∃ f, e = .returned f ∧ ItF w.heap.size w' (dirtyL A) f ∧ Below w.heap.size w w' := by
  obtain ⟨i0, hi, hz0, hz1, hz2⟩ := info_parts Try.info3
  obtain ⟨m, q, B, F, gm, p, Fd, h, rfl, hq⟩ := h
  have hm := cmade_yes h.ca
  have c2 := h.ca.c2
  have hmp := h.ca.mp
  have hnb := h.nb
  have hkl := h.ca.keysLen
  have hml := hmp.lt
  have Hnd := hide h.ca.nodup
  have H := hide h
  clear h
  go_enter Try.func39, Try.ntmps39
  go_wp2_with fail
  refine hm.mono ?_
  rintro e w' ⟨rfl, rfl⟩
  go_wp2_with (first | (at_range; refine wpList_range_mp rfl _ rfl _ _ rfl hmp ?_; intro w0 hrg0 hg0 hs0) | go_in)
  go_frame
  go_loopw [3] (fun ov wr => ∃ (L : Int → Bool) (cnt : Nat) (zs : List Int), MpR wr m w.heap.size (keysOf B) L cnt ∧ wr.ownsRow (w.heap.size + 1) 3 1 ov zs.length (cellsI zs) ∧ Gath B L zs ∧ zs.length + cnt ≤ B.length ∧ Below w.heap.size w wr ∧ w.heap.size + 1 ≤ wr.heap.size) (fun _ wr => wr.rangeLeft m w.heap.size)
  case atStart =>
    refine ⟨_, _, [], hrg0, by simpa [cellsI] using World.ownsRow_nil _ _ _ _, ?_, by rw [hkl]; simp, (Below.refl _ w).grown hg0 (Nat.le_refl _) (fun k hk => by cases hk), by omega⟩
    refine ⟨by simp, fun z => ⟨fun hz => by simp at hz, ?_⟩⟩
    rintro ⟨x, hx, _, hl, _⟩
    have : (keysOf B).any (fun z => z.1 == (x.i : Int)) = true := List.any_eq_true.2 ⟨((x.i : Int), x.p), List.mem_map.2 ⟨x, hx, rfl⟩, by simp⟩
    have hl : (keysOf B).any (fun z => z.1 == (x.i : Int)) = false := hl
    rw [this] at hl; cases hl
  case round =>
    obtain ⟨L, cnt, zs, hrg, hown, hgath, hcn, hbr, hwr⟩ := hrel
    obtain ⟨oa, oc, rfl⟩ := owns_slice hown
    have hle := hrg.left_eq
    have Hle := hide hle
    have Hg := hide hgath
    clear hle hrg0 hg0 hs0 hmp hgath
    go_wp2_with (first | (at_next; refine wpList_next_mp rfl _ rfl _ _ _ _ _ rfl hrg ?_ ?_) | go_in)
    · intro hl0
      have hsn := Hg.out.all Hnd.out hl0
      have hsort := isort_any hown (by omega)
      rw [hsn] at hsort
      have hzl : (dirtyL (B.map Bu.en)).length = zs.length := by rw [← hsn, sortN_len]
      have Hsort := hide hsort
      have Hzl := hide hzl
      clear hsort hsn hown hrg hzl
      go_wp2_with fail
      refine Hsort.out.mono ?_
      rintro e w4 ⟨rfl, ho4, hb4⟩
      have hb4 := hbr.trans (hb4 w.heap.size (Nat.le_succ _) (by omega))
      have hz4 := hb4.size
      have hval := values_any (.slice oa zs.length oc) w4 ⟨_, _, _, rfl⟩
      have Hval := hide hval
      have Ho4 := hide ho4
      clear ho4 hval
      go_wp2_with fail
      refine Hval.out.mono ?_
      rintro e w6 ⟨rfl, rfl⟩
      go_wp2_with fail
      go_ret
      refine ⟨_, rfl, ⟨_, _, rfl, Boxed.new w4 58 _, (Is.of_owns Ho4.out).mono ((Below.refl _ _).alloc (Nat.le_refl _) _), hz4, fun c hc => ?_⟩, hb4.alloc hz4 _⟩
      have h1 := owns_lt' Ho4.out c hc
      have h2 := owns_lt Ho4.out c hc
      exact ⟨by omega, by simp; omega⟩
    · intro x xp w1 cnt1 hx hlx hrg1 hlt hg1 hs1 hen
      obtain ⟨y, hy, e⟩ := key_mem hx
      injection e with e1 e2
      subst e1 e2
      have hb1 : Below w.heap.size w w1 := hbr.grown hg1 (by have := hbr.size; omega) (fun k hk => by injection hk with hk; omega)
      have hbuf := (H.out.ca.bu y hy).keeps (S := fun _ => False) (Keeps.of_below hb1) id id
      have k1 := hbuf.c1
      have hown1 : w1.ownsRow (w.heap.size + 1) 3 1 (.slice oa zs.length oc) zs.length (cellsI zs) := hown.kept hg1 (by
        rcases hown.2 with ⟨e, _⟩ | ⟨gk, cap, cur, e, hb, _⟩
        · exact .inl (by rw [e]; rfl)
        · refine .inr ?_
          rw [e]
          intro hh
          have hh : some gk = some w.heap.size := hh
          injection hh with hh
          omega)
      have Hlt := hide hlt
      have Hrg1 := hide hrg1
      have hzw : w.heap.size + 1 ≤ w1.heap.size := by omega
      clear hrg hx hlt hbuf hown hrg1 hs1 hg1
      cases hyd : y.d with
      | false =>
        have hB1 := Hg.out.skip Hnd.out hy hyd
        rw [hyd] at k1
        have HB1 := hide hB1
        have Hown1 := hide hown1
        clear hB1 hyd hlx hown1
        go_wp2_with fail
        go_roundw
        case rel => exact ⟨_, _, zs, Hrg1.out, Hown1.out, HB1.out, by have := Hlt.out; omega, hb1, hzw⟩
        case measure => rw [Hrg1.out.left_eq, Hle.out]; exact Hlt.out
      | true =>
        have hB1 := Hg.out.take Hnd.out hy hyd hlx
        rw [hyd] at k1
        have HB1 := hide hB1
        clear hB1 hyd hlx
        have hcn1 : zs.length + 1 ≤ B.length := by have := Hlt.out; omega
        go_wp2_with (first | (at_builtin; (refine wpList_append_own _ rfl (.tmp 22) (.tmp 24) 58 rfl (w.heap.size + 1) 3 i0 (.int .i64 0) 1 8 Try.underlying58 hi hz0 hz1 hz2 rfl (by decide) _ _ (cellsI zs) rfl (hown1.alloc _) ⟨w1.heap.size, 0, none⟩ 1 1 [.int .i64 (y.i : Int)] rfl rfl (cell_one_new _ _ _) (by simp [Value.oneCell']) (by unfold maxLen; omega) (by omega) (by simp; omega) ?_; intro v4 w4 hown4 hgrow4 _)))
        have hz14 := hgrow4.size
        simp only [World.size_alloc] at hz14
        have hrow : ∀ k, (Value.slice oa zs.length oc).ownBlock = some k → w.heap.size + 1 ≤ k := fun k hk => owns_lt hown1 k hk
        have hb4 : Below w.heap.size w w4 := (hb1.alloc (by omega) _).grown hgrow4 (by simp; omega) (fun k hk => by have := hrow k hk; omega)
        have hR4 := (Hrg1.out.kept (World.grownBy_alloc w1 (.cells #[.int .i64 (y.i : Int)] 3) none) (by simp) (by simp)).kept hgrow4 (fun e => by have := hrow m e.symm; omega) (fun e => by have := hrow _ e.symm; omega)
        have hle4 := hR4.left_eq
        rw [show cellsI zs ++ [.int .i64 (y.i : Int)] = cellsI (zs ++ [(y.i : Int)]) by simp [cellsI]] at hown4
        have hl4 : (zs ++ [(y.i : Int)]).length = zs.length + 1 := by simp
        have Ho4 := hide hown4
        have Hl4 := hide hl4
        have HR4 := hide hR4
        have Hle4 := hide hle4
        clear hown4 hgrow4 hown1 hl4 hR4 hle4
        go_roundw
        case rel => exact ⟨_, _, zs ++ [(y.i : Int)], HR4.out, by rw [Hl4.out]; exact Ho4.out, HB1.out, by have := Hlt.out; rw [Hl4.out]; omega, hb4, by omega⟩
        case measure => rw [Hle4.out, Hle.out]; exact Hlt.out

end

end Go.Proofs.Ytjcmmigbkhiplaa
