/- The document's cache in memory (Rc): its row of buffers; contracts: at, Has, without. The document's cache and disk side by side (RDx); contract: comes. Contract: comes of the document's cache, where there is no buffer of the block. -/
import Derived.Test.YtjcmmigbkhiplaaQ7
import Derived.Test.YtjcmmigbkhiplaaCr
import Derived.Deep.RegionLaw
import Derived.Deep.RegionHeld3
set_option linter.unusedSimpArgs false
set_option linter.unusedVariables false
namespace Go.Proofs.Ytjcmmigbkhiplaa
open Go.RowKit Go.Attic

theorem Try.info86 : (Try.prog.info? 86).map (fun i => (i.zero, i.size, i.bytes)) = some (some (.agg #[.int .i64 0, .slice none 0 0, .bool false]), 3, 40) := by kernel_rfl

def cellsE (E : List (En × Value)) : List Value := E.flatMap fun x => [.int .i64 (x.1.i : Int), x.2, .bool x.1.d]
theorem cellsE_length (E : List (En × Value)) : (cellsE E).length = E.length * 3 := by
  induction E with
  | nil => rfl
  | cons x E ih => simp only [cellsE, List.flatMap_cons, List.length_append, List.length_cons, List.length_nil] at ih ⊢; omega
theorem cellsE_app (E E' : List (En × Value)) : cellsE (E ++ E') = cellsE E ++ cellsE E' := by simp [cellsE]
theorem cellsE_at {E : List (En × Value)} (i : Nat) (hi : i < E.length) :
    (cellsE E)[i * 3]? = some (.int .i64 ((E[i]).1.i : Int)) ∧ (cellsE E)[i * 3 + 1]? = some (E[i]).2 ∧ (cellsE E)[i * 3 + 2]? = some (.bool (E[i]).1.d) := by
  induction E generalizing i with
  | nil => simp at hi
  | cons x E ih =>
    cases i with
    | zero => simp [cellsE]
    | succ i =>
      have := ih i (by simpa using hi)
      simp only [cellsE, List.flatMap_cons, List.cons_append, List.nil_append, List.getElem_cons_succ] at this ⊢
      rw [show (i + 1) * 3 = i * 3 + 1 + 1 + 1 by omega]
      simpa using this

/-- The row v of buffers; what they read lies in F. -/
structure Es (w : World) (F : Nat → Prop) (v : Value) (E : List (En × Value)) : Prop where
  row : w.ownsRow 0 86 3 v E.length (cellsE E)
  pF : ∀ b, v.ownBlock = some b → F b
  bs : ∀ x ∈ E, (Bs w x.2 x.1.l ∧ x.1.l.length = 256) ∧ ∀ b, x.2.ownBlock = some b → F b ∧ v.ownBlock ≠ some b

theorem Es.keeps {S F : Nat → Prop} {w w' : World} {v : Value} {E : List (En × Value)} (h : Es w F v E) (hk : Keeps S w w') (hS : ∀ k, F k → ¬ S k) : Es w' F v E :=
  ⟨hk.owns h.row (fun b hb => hS b (h.pF b hb)), h.pF, fun x hx => ⟨⟨hk.bs (h.bs x hx).1.1 (fun b hb => hS b ((h.bs x hx).2 b hb).1), (h.bs x hx).1.2⟩, (h.bs x hx).2⟩⟩
theorem Es.nil (w : World) (F : Nat → Prop) : Es w F (.slice none 0 0) [] := ⟨by simpa [cellsE] using World.ownsRow_nil w 0 86 3, by simp [Value.ownBlock], by simp⟩
theorem Es.slice {F : Nat → Prop} {w : World} {v : Value} {E : List (En × Value)} (h : Es w F v E) : ∃ ao cap, v = .slice ao E.length cap ∧ E.length ≤ cap := by
  obtain ⟨ao, cap, e, hc, _⟩ := owns_form h.row
  exact ⟨ao, cap, e, hc⟩
theorem Es.at {F : Nat → Prop} {w : World} {ao : Option Addr} {n cap : Nat} {E : List (En × Value)} (h : Es w F (.slice ao n cap) E) (i : Nat) (hi : i < E.length) :
    ∃ b u c, ao = some ⟨b, 0, none⟩ ∧ (E[i]).2 = .slice u 256 c ∧ w.cell? ⟨b, i * 3, none⟩ = some (.int .i64 ((E[i]).1.i : Int)) ∧ w.cell? ⟨b, i * 3 + 1, none⟩ = some (.slice u 256 c) ∧ w.cell? ⟨b, i * 3 + 2, none⟩ = some (.bool (E[i]).1.d) ∧ Bs w (.slice u 256 c) (E[i]).1.l ∧ (E[i]).1.l.length = 256 := by
  obtain ⟨a', cap', e, _, hg⟩ := owns_form h.row
  injection e with e1 e2 e3
  obtain ⟨b, rfl, _⟩ := hg (by omega)
  obtain ⟨c1, c2, c3⟩ := cellsE_at i hi
  have e1' := h.row.cells (g := b) (by rw [e1]; rfl) _ _ c1
  have e2' := h.row.cells (g := b) (by rw [e1]; rfl) _ _ c2
  have e3' := h.row.cells (g := b) (by rw [e1]; rfl) _ _ c3
  rw [Addr.add_lit, Nat.zero_add] at e1' e2' e3'
  obtain ⟨⟨hb, hl⟩, _⟩ := h.bs _ (List.getElem_mem hi)
  have hb' := hb
  obtain ⟨u, c, e, _⟩ := hb'
  rw [hl] at e
  rw [e] at e2' hb
  exact ⟨b, u, c, e1, e, e1', e2', e3', hb, hl⟩

/-- The document's cache in block c, of the disk in block g. -/
structure Rc (w : World) (c g room : Nat) (E : List (En × Value)) (F : Nat → Prop) : Prop where
  c0 : w.cell? ⟨c, 0, none⟩ = some (.pointer (some ⟨g, 0, none⟩))
  c1 : w.cell? ⟨c, 1, none⟩ = some (.int .i64 (room : Int))
  c2 : ∃ v, w.cell? ⟨c, 2, none⟩ = some v ∧ Es w F v E
  f2 : w.frozen? ⟨c, 2, none⟩ = false
  Fc : ¬ F c
  Fl : ∀ k, F k → k < w.heap.size

theorem Rc.cl {w : World} {c g room : Nat} {E : List (En × Value)} {F : Nat → Prop} (h : Rc w c g room E F) : c < w.heap.size := by have := World.block_lt_of_cell? w _ h.c0; simpa using this
theorem Rc.keeps {S F : Nat → Prop} {w w' : World} {c g room : Nat} {E : List (En × Value)} (h : Rc w c g room E F) (hk : Keeps S w w') (hc : ¬ S c) (hS : ∀ k, F k → ¬ S k) : Rc w' c g room E F := by
  obtain ⟨v, a, b⟩ := h.c2
  exact ⟨hk.cell h.c0 hc, hk.cell h.c1 hc, ⟨v, hk.cell a hc, b.keeps hk hS⟩, by rw [hk.frozen (a := ⟨c, 2, none⟩) h.cl hc]; exact h.f2, h.Fc, fun k hk' => Nat.lt_of_lt_of_le (h.Fl k hk') hk.size⟩
theorem Rc.mono {F : Nat → Prop} {w w' : World} {c g room : Nat} {E : List (En × Value)} (h : Rc w c g room E F) (hb : Below w.heap.size w w') : Rc w' c g room E F :=
  h.keeps (S := fun _ => False) (Keeps.of_below hb) id (fun _ _ => id)

/-- The buffers turn: another row. -/
theorem Rc.setL {F F' : Nat → Prop} {w : World} {c g room : Nat} {E E' : List (En × Value)} {v' : Value} (h : Rc w c g room E F) (hE : Es w F' v' E') (hF : ¬ F' c) (hl : ∀ k, F' k → k < w.heap.size) : Rc (w.setCell ⟨c, 2, none⟩ v') c g room E' F' := by
  obtain ⟨v, a, b⟩ := h.c2
  have hk : Keeps (fun k => k = c) w (w.setCell ⟨c, 2, none⟩ v') := Keeps.setCell (S := fun k => k = c) w rfl _
  exact ⟨cell_set_other h.c0 (by omega), cell_set_other h.c1 (by omega), ⟨v', cell_set_same a, hE.keeps hk (fun k hk' e => hF (by have e' : k = c := e; exact e' ▸ hk'))⟩, by simpa using h.f2, hF, fun k hk' => Nat.lt_of_lt_of_le (hl k hk') hk.size⟩

def posE (E : List (En × Value)) (i : Int) : Int := match E.findIdx? (fun x => (x.1.i : Int) == i) with | some k => (k : Int) | none => -1

section
variable {w : World} {c g room : Nat} {E : List (En × Value)} {F : Nat → Prop}

set_option maxRecDepth 100000 in
set_option maxHeartbeats 1000000 in
theorem rat_any (h : Rc w c g room E F) (i : Int) (hn : E.length ≤ 1000) : Calls Try.prog 41 #[.pointer (some ⟨c, 0, none⟩), .int .i64 i] w fun e w' => e = .returned (.int .i64 (posE E i)) ∧ w = w' := by
  obtain ⟨v, c2, hE⟩ := h.c2
  obtain ⟨ao, cap, rfl, -⟩ := hE.slice
  obtain ⟨n, hlen⟩ : ∃ n, E.length = n := ⟨_, rfl⟩
  rw [hlen] at c2 hE hn
  have HE := hide hE
  have Hl := hide hlen
  clear h hE hlen
  go_enter Try.func41, Try.ntmps41
  go_wp2_with fail
  go_loopw [5] (fun iv wr => ∃ k : Nat, k ≤ n ∧ iv = .int .i64 (k : Int) ∧ w = wr ∧ ∀ j (hj : j < E.length), j < k → ((E[j]).1.i : Int) ≠ i) (fun iv _ => n - (intOf iv).toNat)
  case atStart => exact ⟨0, Nat.zero_le _, rfl, rfl, fun j hj h => by omega⟩
  case round =>
    obtain ⟨k, hk, rfl, rfl, hno⟩ := hrel
    by_cases hkn : k < n
    · have hkl : k < E.length := by have := Hl.out; omega
      obtain ⟨b, u, cu, rfl, -, k0, -, -, -, -⟩ := HE.out.at k hkl
      by_cases e : ((E[k]).1.i : Int) = i
      · have hp : posE E i = (k : Int) := by
          unfold posE
          have : E.findIdx? (fun x => (x.1.i : Int) == i) = some k := by
            rw [List.findIdx?_eq_some_iff_getElem]
            exact ⟨hkl, by simpa using e, fun j hj => by have := hno j (by omega) hj; simpa using this⟩
          rw [this]
        have Hp := hide hp
        have heb : ((E[k]).1.i : Int) = i := e
        generalize ((E[k]).1.i : Int) = z at *
        subst heb
        clear hno hp
        go_wp2_with fail
        go_ret
        rw [Hp.out]
        exact ⟨by simp, rfl⟩
      · have heb : (((E[k]).1.i : Int) == i) = false := by simpa using e
        have hno2 : ∀ j (hj : j < E.length), j < k + 1 → ((E[j]).1.i : Int) ≠ i := fun j hj hjk => by
          by_cases e2 : j = k
          · subst e2; exact e
          · exact hno j hj (by omega)
        have Hno2 := hide hno2
        generalize ((E[k]).1.i : Int) = z at *
        clear hno hno2 e
        go_wp2_with fail
        go_roundw
        case rel => exact ⟨k + 1, by omega, by go_num, (by first | trivial | rfl), Hno2.out⟩
        case measure => simp [intOf]; omega
    · obtain rfl : k = n := by omega
      have hp : posE E i = -1 := by
        unfold posE
        have : E.findIdx? (fun x => (x.1.i : Int) == i) = none := by
          rw [List.findIdx?_eq_none_iff]
          intro x hx
          obtain ⟨j, hj, rfl⟩ := List.getElem_of_mem hx
          have := hno j hj (by have := Hl.out; omega)
          simpa using this
        rw [this]
      have Hp := hide hp
      clear hno hp
      go_wp2_with fail
      go_ret
      rw [Hp.out]
      exact ⟨rfl, rfl⟩

theorem posE_has (E : List (En × Value)) (i : Int) : decide (0 ≤ posE E i) = (E.any fun x => (x.1.i : Int) == i) := by
  unfold posE
  cases hf : E.findIdx? (fun x => (x.1.i : Int) == i) with
  | some k =>
    obtain ⟨hk, h1, _⟩ := List.findIdx?_eq_some_iff_getElem.1 hf
    rw [Bool.eq_iff_iff]
    simp only [decide_eq_true_eq]
    exact ⟨fun _ => List.any_eq_true.2 ⟨_, List.getElem_mem hk, h1⟩, fun _ => by omega⟩
  | none =>
    have h1 := List.findIdx?_eq_none_iff.1 hf
    have : (E.any fun x => (x.1.i : Int) == i) = false := List.any_eq_false.2 (fun x hx => by simp [h1 x hx])
    rw [this]; simp

set_option maxRecDepth 100000 in
set_option maxHeartbeats 1000000 in
theorem rhas_any (h : Rc w c g room E F) (i : Int) (hn : E.length ≤ 1000) : Calls Try.prog 50 #[.pointer (some ⟨c, 0, none⟩), .int .i64 i] w fun e w' => e = .returned (.bool (E.any fun x => (x.1.i : Int) == i)) ∧ w = w' := by
  have ha := rat_any h i hn
  have hp := posE_has E i
  obtain ⟨z, hz⟩ : ∃ z, posE E i = z := ⟨_, rfl⟩
  rw [hz] at ha hp
  rw [← hp]
  clear h hp hz
  go_enter Try.func50, Try.ntmps50
  go_wp2_with fail
  refine ha.mono ?_
  rintro e w' ⟨rfl, rfl⟩
  go_wp2_with fail
  go_ret
  exact ⟨by simp, rfl⟩

theorem erase_take {α : Type} (l : List α) (j k : Nat) (hj : j < l.length) : (l.take (j + 1)).eraseIdx k = (l.take j).eraseIdx k ++ (if j = k then [] else [l[j]]) := by
  rw [List.take_succ_eq_append_getElem hj]
  have hlen : (l.take j).length = j := by simp; omega
  by_cases h1 : k < j
  · rw [if_neg (by omega), List.eraseIdx_append_of_lt_length (by omega)]
  · rw [List.eraseIdx_append_of_length_le (by omega), hlen, List.eraseIdx_of_length_le (l := l.take j) (by omega)]
    by_cases h2 : j = k
    · subst h2; simp
    · rw [if_neg h2, List.eraseIdx_of_length_le (by simp; omega)]

theorem cell_three_new (w : World) (x y z : Value) (t : TypeId) : ∀ j u, [x, y, z][j]? = some u → (w.alloc (.cells #[x, y, z] t)).cell? ((⟨w.heap.size, 0, none⟩ : Addr).add j) = some u := by
  intro j u hj
  match j, hj with
  | 0, hj => simp at hj; subst hj; simp [Addr.add]
  | 1, hj => simp at hj; subst hj; simp [Addr.add]
  | 2, hj => simp at hj; subst hj; simp [Addr.add]

set_option maxRecDepth 100000 in
set_option maxHeartbeats 1000000 in
theorem without_any {v : Value} (hE : Es w F v E) (hFl : ∀ k, F k → k < w.heap.size) (k : Int) (hn : E.length ≤ 1000) :
    Calls Try.prog 54 #[v, .int .i64 k] w fun e w' => ∃ v', e = .returned v' ∧ w'.ownsRow w.heap.size 86 3 v' (if k < 0 then E else E.eraseIdx k.toNat).length (cellsE (if k < 0 then E else E.eraseIdx k.toNat)) ∧ Below w.heap.size w w' := by
  obtain ⟨i0, hi, hz0, hz1, hz2⟩ := info_parts Try.info86
  obtain ⟨ao, cap, rfl, hcap⟩ := hE.slice
  obtain ⟨n, hlen⟩ : ∃ n, E.length = n := ⟨_, rfl⟩
  obtain ⟨kk, hkk⟩ : ∃ kk : Nat, (∀ j : Nat, j < 1000 → ((j : Int) = k ↔ j = kk)) ∧ (if k < 0 then E else E.eraseIdx k.toNat) = E.eraseIdx kk := by
    by_cases h0 : k < 0
    · exact ⟨1000, fun j hj => by omega, by rw [if_pos h0, List.eraseIdx_of_length_le (by omega)]⟩
    · by_cases h1 : k < 1000
      · exact ⟨k.toNat, fun j hj => by omega, by rw [if_neg h0]⟩
      · exact ⟨1000, fun j hj => by omega, by rw [if_neg h0, List.eraseIdx_of_length_le (by omega), List.eraseIdx_of_length_le (by omega)]⟩
  obtain ⟨hkk, hre⟩ := hkk
  rw [hre]
  rw [hlen] at hE hn hcap ⊢
  have HE := hide hE
  have Hl := hide hlen
  have Hkk := hide hkk
  clear hE hlen hre hkk
  go_enter Try.func54, Try.ntmps54
  go_wp2_with fail
  go_loopw [5, 6] (fun ov iv wr => ∃ j : Nat, j ≤ n ∧ iv = .int .i64 (j : Int) ∧ wr.ownsRow w.heap.size 86 3 ov ((E.take j).eraseIdx kk).length (cellsE ((E.take j).eraseIdx kk)) ∧ Below w.heap.size w wr) (fun _ iv _ => n - (intOf iv).toNat)
  case atStart => exact ⟨0, Nat.zero_le _, rfl, by simpa [cellsE] using World.ownsRow_nil _ _ _ _, Below.refl _ _⟩
  case round =>
    obtain ⟨j, hj, rfl, hown, hbr⟩ := hrel
    obtain ⟨oa, oc, rfl⟩ := owns_slice hown
    have hwz := hbr.size
    by_cases hjn : j < n
    · have hjl : j < E.length := by have := Hl.out; omega
      have hEr := HE.out.keeps (S := fun _ => False) (Keeps.of_below hbr) (fun _ _ => id)
      obtain ⟨b, u, cu, rfl, e2, k0, k1, k2, -, -⟩ := hEr.at j hjl
      have het := erase_take E j kk hjl
      have hjk := Hkk.out j (by omega)
      have hel : ((E.take j).eraseIdx kk).length ≤ j := by have := List.length_eraseIdx_le (E.take j) kk; simp at this; omega
      obtain ⟨⟨y1, y2⟩, hy⟩ : ∃ y, E[j] = y := ⟨_, rfl⟩
      rw [hy] at k0 k2 e2 het
      simp only at k0 k2 e2
      subst e2
      generalize hA0 : (E.take j).eraseIdx kk = A0 at *
      clear hA0 hEr
      by_cases hjk2 : (j : Int) = k
      · have hkb : ((j : Int) != k) = false := by simp [hjk2]
        rw [if_pos (hjk.1 hjk2), List.append_nil] at het
        have Het := hide het
        have Hown := hide hown
        subst hjk2
        clear het hown hjk
        go_wp2_with fail
        go_roundw
        case rel => exact ⟨j + 1, by omega, by go_num, by rw [Het.out]; exact Hown.out, hbr⟩
        case measure => simp [intOf]; omega
      · have hkb : ((j : Int) != k) = true := by simpa using hjk2
        have hjkk : ¬ j = kk := fun e => hjk2 (hjk.2 e)
        rw [if_neg hjkk] at het
        have Het := hide het
        clear het hjk hjkk
        go_wp2_with (first | (at_builtin; refine wpList_append_own _ rfl (.tmp 16) (.tmp 21) 76 rfl w.heap.size 86 i0 (.agg #[.int .i64 0, .slice none 0 0, .bool false]) 3 40 Try.underlying76 hi hz0 hz1 hz2 rfl (by decide) _ _ (cellsE A0) rfl (hown.alloc _) ⟨wr.heap.size, 0, none⟩ 1 1 [.int .i64 (y1.i : Int), .slice u 256 cu, .bool y1.d] rfl rfl (cell_three_new _ _ _ _ _) (by simp [Value.oneCell']) (by unfold maxLen; omega) (by omega) (by simp; omega) ?_; intro v4 w4 hown4 hgrow4 _))
        have hb4 : Below w.heap.size w w4 := (hbr.alloc hwz _).grown hgrow4 (by simp; omega) (fun k hk => owns_lt hown k hk)
        rw [show cellsE A0 ++ [.int .i64 (y1.i : Int), .slice u 256 cu, .bool y1.d] = cellsE ((E.take (j + 1)).eraseIdx kk) by rw [Het.out, cellsE_app]; rfl] at hown4
        have hl4 : ((E.take (j + 1)).eraseIdx kk).length = A0.length + 1 := by rw [Het.out]; simp
        have Ho4 := hide hown4
        have Hl4 := hide hl4
        clear hown4 hgrow4 hown hl4
        go_roundw
        case rel => exact ⟨j + 1, by omega, by go_num, by rw [Hl4.out]; exact Ho4.out, hb4⟩
        case measure => simp [intOf]; omega
    · obtain rfl : j = n := by omega
      have hz : E.take j = E := List.take_of_length_le (by have := Hl.out; omega)
      rw [hz] at hown ⊢
      have Hown := hide hown
      clear hown hz
      go_wp2_with fail
      go_ret
      exact ⟨_, rfl, Hown.out, hbr⟩

end

end Go.Proofs.Ytjcmmigbkhiplaa

set_option linter.unusedSimpArgs false
set_option linter.unusedVariables false
namespace Go.Proofs.Ytjcmmigbkhiplaa
open Go.RowKit Go.Attic

structure RDx (w : World) (c g : Nat) (S : Nat → Prop) (room n : Nat) (s : St) (E : List (En × Value)) (F : Nat → Prop) (q p : Option Nat) (Fd : Nat → Prop) : Prop where
  rc : Rc w c g room E F
  dr : Dr w g q p Fd n s
  ap : ∀ k, (k = c ∨ F k) → ¬ OwnR g Fd k
  inS : ∀ k, (k = c ∨ F k) ∨ OwnR g Fd k → S k
  lt : ∀ k, S k → k < w.heap.size

section
variable {w w' : World} {c g : Nat} {S : Nat → Prop} {room n : Nat} {s : St} {E : List (En × Value)} {F : Nat → Prop} {q p : Option Nat} {Fd : Nat → Prop}

theorem RDx.mono (h : RDx w c g S room n s E F q p Fd) (hb : Below w.heap.size w w') : RDx w' c g S room n s E F q p Fd :=
  ⟨h.rc.mono hb, h.dr.mono hb, h.ap, h.inS, fun k hk => Nat.lt_of_lt_of_le (h.lt k hk) hb.size⟩
theorem RDx.keeps {T : Nat → Prop} (h : RDx w c g S room n s E F q p Fd) (hk : Keeps T w w') (hT : ∀ k, S k → ¬ T k) : RDx w' c g S room n s E F q p Fd :=
  ⟨h.rc.keeps hk (hT _ (h.inS _ (.inl (.inl rfl)))) (fun k hF => hT _ (h.inS _ (.inl (.inr hF)))), h.dr.keeps hk (hT _ (h.inS _ (.inr (.inl rfl)))) (fun k hF => hT _ (h.inS _ (.inr (.inr hF)))), h.ap, h.inS, fun k hk' => Nat.lt_of_lt_of_le (h.lt k hk') hk.size⟩

/-- The cache turned, the disk did not. -/
theorem RDx.turned {E' : List (En × Value)} {F' : Nat → Prop} (h : RDx w c g S room n s E F q p Fd) (hC : Rc w' c g room E' F') (hk : Keeps (fun k => k = c ∨ F k) w w') (hF : ∀ k, F' k → F k ∨ w.heap.size ≤ k) :
    ∃ S', RDx w' c g S' room n s E' F' q p Fd ∧ ∀ k, S' k → S k ∨ w.heap.size ≤ k := by
  have hd : ∀ k, OwnR g Fd k → ¬ (k = c ∨ F k) := fun k ho hc => h.ap k hc ho
  have hdl : ∀ k, OwnR g Fd k → k < w.heap.size := fun k ho => h.lt k (h.inS k (.inr ho))
  refine ⟨fun k => (k = c ∨ F' k) ∨ OwnR g Fd k, ⟨hC, h.dr.keeps hk (hd _ (.inl rfl)) (fun k hf => hd _ (.inr hf)), ?_, fun k hk => hk, ?_⟩, ?_⟩
  · rintro k (e | e) ho
    · exact hd k ho (.inl e)
    · rcases hF k e with h1 | h1
      · exact hd k ho (.inr h1)
      · have := hdl k ho; omega
  · rintro k ((e | e) | e)
    · rw [e]; exact hC.cl
    · exact hC.Fl k e
    · exact Nat.lt_of_lt_of_le (hdl k e) hk.size
  · rintro k ((e | e) | e)
    · exact .inl (h.inS k (.inl (.inl e)))
    · exact (hF k e).imp (fun h1 => h.inS k (.inl (.inr h1))) id
    · exact .inl (h.inS k (.inr e))

/-- A new row of buffers that stood there. -/
theorem Es.fresh {v v' : Value} {E' : List (En × Value)} (h : Es w F v E) (hFl : ∀ k, F k → k < w.heap.size) (hb : Below w.heap.size w w') (ho : w'.ownsRow w.heap.size 86 3 v' E'.length (cellsE E')) (hs : ∀ x ∈ E', x ∈ E) : Es w' (fun k => F k ∨ v'.ownBlock = some k) v' E' := by
  have hk := Keeps.of_below (S := fun _ => False) hb
  refine ⟨owns_base ho (Nat.zero_le _), fun b hb' => .inr hb', fun x hx => ?_⟩
  obtain ⟨⟨h1, h2⟩, h3⟩ := h.bs x (hs x hx)
  refine ⟨⟨hk.bs h1 (fun _ _ => id), h2⟩, fun b hb' => ⟨.inl (h3 b hb').1, fun e => ?_⟩⟩
  have := hFl b (h3 b hb').1
  have := owns_lt ho b e
  omega

/-- One more. -/
theorem Es.snoc {w2 : World} {v v2 vy : Value} {y : En} (h : Es w F v E) (hFl : ∀ k, F k → k < w.heap.size) (hk : Keeps (fun k => v.ownBlock = some k) w w2) (ho : w2.ownsRow 0 86 3 v2 (E ++ [(y, vy)]).length (cellsE (E ++ [(y, vy)])))
    (hkin : ∀ b, v2.ownBlock = some b → v.ownBlock = some b ∨ w.heap.size ≤ b) (hy : Bs w2 vy y.l ∧ y.l.length = 256) (hyb : ∀ b, vy.ownBlock = some b → v2.ownBlock ≠ some b) : Es w2 (fun k => F k ∨ v2.ownBlock = some k ∨ vy.ownBlock = some k) v2 (E ++ [(y, vy)]) := by
  refine ⟨ho, fun b hb => .inr (.inl hb), fun x hx => ?_⟩
  rcases List.mem_append.1 hx with hm | hm
  · obtain ⟨⟨h1, h2⟩, h3⟩ := h.bs x hm
    refine ⟨⟨hk.bs h1 (fun b hb e => (h3 b hb).2 e), h2⟩, fun b hb => ⟨.inl (h3 b hb).1, fun e => ?_⟩⟩
    rcases hkin b e with e2 | e2
    · exact (h3 b hb).2 e2
    · have := hFl b (h3 b hb).1; omega
  · obtain rfl : x = (y, vy) := by simpa using hm
    exact ⟨hy, fun b hb => ⟨.inr (.inr hb), hyb b hb⟩⟩

def NodupE (E : List (En × Value)) : Prop := E.Pairwise fun x y => x.1.i ≠ y.1.i

theorem erase_filter {E : List (En × Value)} (h : NodupE E) (m : Nat) (hm : m < E.length) : E.eraseIdx m = E.filter (fun x => x.1.i != (E[m]).1.i) := by
  induction E generalizing m with
  | nil => simp at hm
  | cons x E ih =>
    obtain ⟨h1, h2⟩ := List.pairwise_cons.1 h
    cases m with
    | zero =>
      simp only [List.eraseIdx_zero, List.tail_cons, List.getElem_cons_zero, List.filter_cons, bne_self_eq_false, Bool.false_eq_true, if_false]
      exact (List.filter_eq_self.2 (fun y hy => by have := h1 y hy; simp; omega)).symm
    | succ m =>
      have hm' : m < E.length := by simpa using hm
      have hne : (x.1.i != (E[m]).1.i) = true := by have := h1 _ (List.getElem_mem hm'); simpa using this
      simp only [List.eraseIdx_cons_succ, List.getElem_cons_succ, List.filter_cons, hne, if_true]
      rw [ih h2 m hm']

theorem fst_filter (E : List (En × Value)) (f : En → Bool) : (E.map Prod.fst).filter f = (E.filter fun x => f x.1).map Prod.fst := by rw [List.filter_map]; rfl
theorem fst_find (E : List (En × Value)) (f : En → Bool) : (E.map Prod.fst).find? f = (E.find? fun x => f x.1).map Prod.fst := by rw [List.find?_map]; rfl

theorem find_idx {E : List (En × Value)} {f : En × Value → Bool} : (∃ m, ∃ hm : m < E.length, E.findIdx? f = some m ∧ E.find? f = some E[m]) ∨ (E.findIdx? f = none ∧ E.find? f = none) := by
  cases h : E.findIdx? f with
  | some m =>
    obtain ⟨hm, h1, h2⟩ := List.findIdx?_eq_some_iff_getElem.1 h
    refine .inl ⟨m, hm, rfl, ?_⟩
    rw [List.find?_eq_some_iff_getElem]
    exact ⟨h1, m, hm, rfl, fun j hj => by have := h2 j hj; simpa using this⟩
  | none => exact .inr ⟨rfl, List.find?_eq_none.2 (fun x hx => by simp [List.findIdx?_eq_none_iff.1 h x hx])⟩

/-- What comes leaves where the block comes in. -/
def RCame (w : World) (c g : Nat) (S : Nat → Prop) (room n : Nat) (s : St) (F : Nat → Prop) (q p : Option Nat) (Fd : Nat → Prop) (A : List En) (y : En) (e : Ending) (w' : World) : Prop :=
  e = .returned (.int .i64 0) ∧ ∃ E1 vy F' S', RDx w' c g S' room n s (E1 ++ [(y, vy)]) F' q p Fd ∧ E1.map Prod.fst = A ∧ Keeps (fun k => k = c ∨ F k) w w' ∧ (∀ k, S' k → S k ∨ w.heap.size ≤ k) ∧ ∀ k, F' k → F k ∨ w.heap.size ≤ k

/-- The end: another row is laid. -/
theorem RDx.laid {w4 : World} {E1 : List (En × Value)} {y : En} {vy v2 : Value} {F4 : Nat → Prop} (h : RDx w c g S room n s E F q p Fd) (hR : Rc w4 c g room E F) (hk : Keeps (fun k => F k) w w4) (hE : Es w4 F4 v2 (E1 ++ [(y, vy)])) (hF4 : ∀ k, F4 k → F k ∨ w.heap.size ≤ k) (hl : ∀ k, F4 k → k < w4.heap.size) :
    RCame w c g S room n s F q p Fd (E1.map Prod.fst) y (.returned (.int .i64 0)) (w4.setCell ⟨c, 2, none⟩ v2) := by
  have hcl := h.rc.cl
  have h2 := hR.setL hE (fun hf => by rcases hF4 c hf with h1 | h1; exact h.rc.Fc h1; omega) hl
  have hkk : Keeps (fun k => k = c ∨ F k) w (w4.setCell ⟨c, 2, none⟩ v2) := (hk.mono (fun k hk => .inr hk)).trans (Keeps.setCell (S := fun k => k = c ∨ F k) w4 (.inl rfl) _)
  obtain ⟨S', h3, h4⟩ := h.turned h2 hkk hF4
  exact ⟨rfl, E1, vy, _, S', h3, rfl, hkk, h4, hF4⟩

theorem wo_any (h : RDx w c g S room n s E F q p Fd) {v : Value} (hE : Es w F v E) (k : Nat) (hk : k < E.length) (hn : E.length ≤ 1000) (W : World) (hb : Below w.heap.size w W) :
    Calls Try.prog 54 #[v, .int .i64 (k : Int)] W fun e w' => ∃ v', e = .returned v' ∧ w'.ownsRow w.heap.size 86 3 v' (E.eraseIdx k).length (cellsE (E.eraseIdx k)) ∧ Below W.heap.size W w' := by
  refine (without_any (hE.keeps (S := fun _ => False) (Keeps.of_below hb) (fun _ _ => id)) (fun j hj => Nat.lt_of_lt_of_le (h.rc.Fl j hj) hb.size) (k : Int) hn).mono ?_
  rintro e w2 ⟨v', rfl, ho, hb2⟩
  rw [if_neg (by omega), Int.toNat_natCast] at ho
  exact ⟨v', rfl, owns_base ho hb.size, hb2⟩

set_option maxRecDepth 100000 in
set_option maxHeartbeats 2000000 in
theorem rcome_found (i : Nat) (h : RDx w c g S room n s E F q p Fd) (hn : E.length ≤ 256) (hnd : NodupE E) (k : Nat) (hk : k < E.length) (hp : posE E (i : Int) = (k : Int)) :
    Calls Try.prog 37 #[.pointer (some ⟨c, 0, none⟩), .int .i64 (i : Int)] w (RCame w c g S room n s F q p Fd ((E.filter fun x => x.1.i != (E[k]).1.i).map Prod.fst) (E[k]).1) := by
  obtain ⟨i0, hi, hz0, hz1, hz2⟩ := info_parts Try.info86
  have hat := rat_any h.rc (i : Int) (by omega)
  rw [hp] at hat
  obtain ⟨v, c2, hE⟩ := h.rc.c2
  have f2 := h.rc.f2
  have hcl := h.rc.cl
  obtain ⟨ao, cap, rfl, -⟩ := hE.slice
  obtain ⟨b, u, cu, rfl, e2, k0, k1, k2, -, -⟩ := hE.at k hk
  have hef := erase_filter hnd k hk
  have hel : (E.eraseIdx k).length + 1 = E.length := by rw [List.length_eraseIdx_of_lt hk]; omega
  obtain ⟨⟨y1, y2⟩, hy⟩ : ∃ y, E[k] = y := ⟨_, rfl⟩
  have hmem : (y1, y2) ∈ E := by rw [← hy]; exact List.getElem_mem hk
  rw [hy] at k0 k2 e2 hef ⊢
  simp only at k0 k2 e2 ⊢
  subst e2
  rw [← hef]
  have hsub : ∀ x ∈ E.eraseIdx k ++ [(y1, Value.slice u 256 cu)], x ∈ E := by
    intro x hx
    rcases List.mem_append.1 hx with hm | hm
    · exact (List.eraseIdx_sublist _ _).subset hm
    · obtain rfl : x = (y1, Value.slice u 256 cu) := by simpa using hm
      exact hmem
  obtain ⟨nE, hnE⟩ : ∃ m, E.length = m := ⟨_, rfl⟩
  obtain ⟨w1, hw1⟩ : ∃ w1, w.alloc (.cells #[.int .i64 (y1.i : Int), .slice u 256 cu, .bool y1.d] 86) = w1 := ⟨_, rfl⟩
  have hb1 : Below w.heap.size w w1 := by rw [← hw1]; exact (Below.refl _ _).alloc (Nat.le_refl _) _
  have hz1' : w1.heap.size = w.heap.size + 1 := by rw [← hw1]; simp
  have hwo := fun W (hb : Below w.heap.size w W) => wo_any h hE k hk (by omega) W hb
  have hfin : ∀ (w4 : World) (v2 : Value), Below w.heap.size w w4 → w4.ownsRow w.heap.size 86 3 v2 ((E.eraseIdx k).length + 1) (cellsE (E.eraseIdx k) ++ [.int .i64 (y1.i : Int), .slice u 256 cu, .bool y1.d]) →
      RCame w c g S room n s F q p Fd ((E.eraseIdx k).map Prod.fst) y1 (.returned (.int .i64 0)) (w4.setCell ⟨c, 2, none⟩ v2) := by
    intro w4 v2 hb4 ho4
    have ho5 : w4.ownsRow w.heap.size 86 3 v2 (E.eraseIdx k ++ [(y1, Value.slice u 256 cu)]).length (cellsE (E.eraseIdx k ++ [(y1, Value.slice u 256 cu)])) := by
      rw [cellsE_app, List.length_append]; exact ho4
    have hEs := hE.fresh h.rc.Fl hb4 ho5 hsub
    refine RDx.laid h (h.rc.mono hb4) (Keeps.of_below hb4) hEs (fun j hj => hj.imp id (fun e => (owns_lt ho5 j e))) (fun j hj => ?_)
    rcases hj with e | e
    · exact Nat.lt_of_lt_of_le (h.rc.Fl j e) hb4.size
    · exact owns_lt' ho5 j e
  have hc2 : ∀ W, Below w.heap.size w W → W.cell? ⟨c, 2, none⟩ = some (.slice (some ⟨b, 0, none⟩) nE cap) ∧ W.frozen? ⟨c, 2, none⟩ = false := fun W hb => by
    refine ⟨by rw [← hnE]; exact (Keeps.of_below (S := fun _ => False) hb).cell c2 id, by rw [hb.frozen (p := ⟨c, 2, none⟩) hcl]; exact f2⟩
  rw [hnE] at c2 hwo hk hel hn
  have Hwo := hide hwo
  have Hfin := hide hfin
  have Hc2 := hide hc2
  have Hw1 := hide hw1
  generalize hE' : E.eraseIdx k = E' at *
  clear h hE hnd hp hef hmem hsub hwo hfin hc2 hw1 hE' hnE
  have hx : ∀ W, Below w1.heap.size w1 W → W.cell? ⟨w.heap.size, 0, none⟩ = some (.int .i64 (y1.i : Int)) ∧ W.cell? ⟨w.heap.size, 1, none⟩ = some (.slice u 256 cu) ∧ W.cell? ⟨w.heap.size, 2, none⟩ = some (.bool y1.d) := fun W hb => by
    have kb := Keeps.of_below (S := fun _ => False) hb
    refine ⟨kb.cell ?_ id, kb.cell ?_ id, kb.cell ?_ id⟩ <;> (rw [← Hw1.out]; simp)
  have Hx := hide hx
  clear hx
  obtain ⟨lit, hlit⟩ : ∃ lit, Obj.cells #[.int .i64 (y1.i : Int), .slice u 256 cu, .bool y1.d] 86 = lit := ⟨_, rfl⟩
  have hA := Hwo.out w1.drew hb1.drew
  have hbL : Below w.heap.size w (w1.alloc (.cells #[.int .i64 (y1.i : Int), .slice u 256 cu, .bool y1.d] 86)).drew := (hb1.alloc (by omega) _).drew
  have hB := Hwo.out (w1.alloc (.cells #[.int .i64 (y1.i : Int), .slice u 256 cu, .bool y1.d] 86)).drew hbL
  have HA := hide hA
  have HB := hide hB
  clear hA hB hlit lit
  go_enter Try.func37, Try.ntmps37
  go_wp2_with fail
  refine hat.mono ?_
  rintro e w' ⟨rfl, rfl⟩
  go_wp2_with fail
  rw [Hw1.out]
  obtain ⟨x0, x1, x2⟩ := Hx.out w1 (Below.refl _ _)
  obtain ⟨cc1, fc1⟩ := Hc2.out w1 hb1
  obtain ⟨xL0, xL1, xL2⟩ := Hx.out (w1.alloc (.cells #[.int .i64 (y1.i : Int), .slice u 256 cu, .bool y1.d] 86)) ((Below.refl _ _).alloc (Nat.le_refl _) _)
  go_region_law (first
    | (go_simp; refine HA.out.mono ?_; rintro e w2 ⟨v2, rfl, ho2, hb2⟩; obtain ⟨a2, cp2, rfl⟩ := owns_slice ho2
       have hb2' : Below w1.heap.size w1 w2 := ⟨hb2.os, hb2.tape, hb2.output, hb2.size, hb2.block⟩
       have hb2w : Below w.heap.size w w2 := hb1.trans (hb2'.mono hb1.size)
       have hzw2 := hb2w.size
       obtain ⟨z0, z1, z2⟩ := Hx.out w2 hb2'
       skip)
    | (go_simp; refine HB.out.mono ?_; rintro e w2 ⟨v2, rfl, ho2, hb2⟩; obtain ⟨a2, cp2, rfl⟩ := owns_slice ho2
       have hb2w : Below w.heap.size w w2 := hbL.trans (hb2.mono hbL.size)
       have hzw2 := hb2w.size
       have hlB : ∀ (j : Nat) (uu : Value), [Value.int .i64 (y1.i : Int), Value.slice u 256 cu, Value.bool y1.d][j]? = some uu → w2.cell? ((⟨w.heap.size + 1, 0, none⟩ : Addr).add j) = some uu := (fun j uu hj => by
         have h1 := cell_three_new w1 (.int .i64 (y1.i : Int)) (.slice u 256 cu) (.bool y1.d) 86 j uu hj
         rw [hz1'] at h1
         exact (Keeps.of_below (S := fun _ => False) hb2).cell (show (w1.alloc (.cells #[.int .i64 (y1.i : Int), .slice u 256 cu, .bool y1.d] 86)).drew.cell? _ = _ from h1) id)
       skip)
    | (refine step_append_at rfl (.tmp 29) (.tmp 31) 76 rfl w.heap.size 86 i0 (.agg #[.int .i64 0, .slice none 0 0, .bool false]) 3 40 Try.underlying76 hi hz0 hz1 hz2 rfl (by decide) (.slice a2 E'.length cp2) E'.length (cellsE E') rfl (ho2.alloc _) ⟨w2.heap.size, 0, none⟩ 1 1 [.int .i64 (y1.i : Int), .slice u 256 cu, .bool y1.d] rfl rfl (cell_three_new _ _ _ _ _) (by simp [Value.oneCell']) (by unfold maxLen; omega) (by omega) (by simp; omega) ?_
       intro v4 w4 ho4 hg4 hkin4
       have hb4 : Below w.heap.size w w4 := (hb2w.alloc hzw2 _).grown hg4 (by simp; omega) (fun j hj => owns_lt ho2 j hj)
       obtain ⟨c4, f4⟩ := Hc2.out w4 hb4
       obtain ⟨g4, cap4, rfl⟩ := owns_succ ho4
       skip)
    | (refine step_append_at rfl (.tmp 29) (.tmp 31) 76 rfl w.heap.size 86 i0 (.agg #[.int .i64 0, .slice none 0 0, .bool false]) 3 40 Try.underlying76 hi hz0 hz1 hz2 rfl (by decide) (.slice a2 E'.length cp2) E'.length (cellsE E') rfl ho2 ⟨w.heap.size + 1, 0, none⟩ 1 1 [.int .i64 (y1.i : Int), .slice u 256 cu, .bool y1.d] rfl rfl hlB (by simp [Value.oneCell']) (by unfold maxLen; omega) (by omega) (by omega) ?_
       intro v4 w4 ho4 hg4 hkin4
       have hb4 : Below w.heap.size w w4 := hb2w.grown hg4 (by omega) (fun j hj => owns_lt ho2 j hj)
       obtain ⟨c4, f4⟩ := Hc2.out w4 hb4
       obtain ⟨g4, cap4, rfl⟩ := owns_succ ho4
       skip))
  all_goals
    have hF := Hfin.out w4 _ hb4 ho4
    rw [hel] at hF
    have HF := hide hF
    clear hF ho4 ho2 hb4 hg4 hkin4
    go_wp2_with fail
    go_ret
    exact HF.out

end

end Go.Proofs.Ytjcmmigbkhiplaa

set_option linter.unusedSimpArgs false
set_option linter.unusedVariables false
namespace Go.Proofs.Ytjcmmigbkhiplaa
open Go.RowKit Go.Attic

/-- The first clean one from j on, or -1. -/
def oldI (E : List (En × Value)) (j : Nat) : Int := match (E.drop j).findIdx? (fun x => !x.1.d) with | some m => ((j + m : Nat) : Int) | none => -1
theorem oldI_end (E : List (En × Value)) : oldI E E.length = -1 := by unfold oldI; simp
theorem oldI_step (E : List (En × Value)) (j : Nat) (hj : j < E.length) : oldI E j = if (E[j]).1.d = false then (j : Int) else oldI E (j + 1) := by
  unfold oldI
  rw [List.drop_eq_getElem_cons hj, List.findIdx?_cons]
  cases hd : (E[j]).1.d with
  | false => simp
  | true =>
    simp only [Bool.not_true, Bool.false_eq_true, if_false, Bool.true_eq_false]
    cases (E.drop (j + 1)).findIdx? (fun x => !x.1.d) with
    | none => rfl
    | some m => simp; omega
theorem oldI_zero (E : List (En × Value)) : (∃ m, ∃ hm : m < E.length, oldI E 0 = (m : Int) ∧ E.find? (fun x => !x.1.d) = some E[m]) ∨ (oldI E 0 = -1 ∧ E.find? (fun x => !x.1.d) = none) := by
  unfold oldI
  rw [List.drop_zero]
  rcases find_idx (E := E) (f := fun x => !x.1.d) with ⟨m, hm, h1, h2⟩ | ⟨h1, h2⟩
  · exact .inl ⟨m, hm, by rw [h1]; simp, h2⟩
  · exact .inr ⟨by rw [h1], h2⟩

section
variable {w w' : World} {c g : Nat} {S : Nat → Prop} {room n : Nat} {s : St} {E : List (En × Value)} {F : Nat → Prop} {q p : Option Nat} {Fd : Nat → Prop}

/-- The new one is laid behind a row. -/
theorem RDx.brought {w2 w5 : World} {i : Nat} {l : List Nat} {E1 : List (En × Value)} {F1 : Nat → Prop} {v1 vy v2 : Value} {o : Obj} (h : RDx w c g S room n s E F q p Fd) (hR : Rc w2 c g room E1 F1) (hc2 : w2.cell? ⟨c, 2, none⟩ = some v1) (hE1 : Es w2 F1 v1 E1) (hk : Keeps (fun k => k = c ∨ F k) w w2) (hF1 : ∀ k, F1 k → F k ∨ w.heap.size ≤ k)
    (ho : w5.ownsRow 0 86 3 v2 (E1.length + 1) (cellsE E1 ++ [.int .i64 (i : Int), vy, .bool false])) (hg : (w2.alloc o).grownBy w5 v1.ownBlock) (hkin : v2.ownBlock = v1.ownBlock ∨ v2.ownBlock = some (w2.heap.size + 1)) (hy : Bs w2 vy l) (hl : l.length = 256) (hyw : ∀ b, vy.ownBlock = some b → w.heap.size ≤ b ∧ b < w2.heap.size ∧ ¬ F1 b) :
    RCame w c g S room n s F q p Fd (E1.map Prod.fst) ⟨i, l, false⟩ (.returned (.int .i64 0)) (w5.setCell ⟨c, 2, none⟩ v2) := by
  have hcl := h.rc.cl
  have hz := hk.size
  have hkE : Keeps (fun k => v1.ownBlock = some k) w2 w5 := (Keeps.alloc w2 o).trans (Keeps.of_grown hg (fun k hk => hk))
  have hz5 := hkE.size
  have hkin' : ∀ b, v2.ownBlock = some b → v1.ownBlock = some b ∨ w2.heap.size ≤ b := fun b hb => by
    rcases hkin with e | e
    · exact .inl (by rw [← e]; exact hb)
    · rw [e] at hb; injection hb with hb; exact .inr (by omega)
  have hv1 : ∀ b, v1.ownBlock = some b → F1 b := hE1.pF
  have ho' : w5.ownsRow 0 86 3 v2 (E1 ++ [((⟨i, l, false⟩ : En), vy)]).length (cellsE (E1 ++ [((⟨i, l, false⟩ : En), vy)])) := by rw [cellsE_app, List.length_append]; exact ho
  have hbs5 : Bs w5 vy l := hkE.bs hy (fun b hb e => (hyw b hb).2.2 (hv1 b e))
  have hEs := hE1.snoc (y := ⟨i, l, false⟩) hR.Fl hkE ho' hkin' ⟨hbs5, hl⟩ (fun b hb e => by
    rcases hkin' b e with e2 | e2
    · exact (hyw b hb).2.2 (hv1 b e2)
    · have := (hyw b hb).2.1; omega)
  have hR5 : Rc w5 c g room E1 F1 ∨ True := .inr trivial
  have hF4 : ∀ k, (F1 k ∨ v2.ownBlock = some k ∨ vy.ownBlock = some k) → F k ∨ w.heap.size ≤ k := by
    rintro k (e | e | e)
    · exact hF1 k e
    · rcases hkin' k e with e2 | e2
      · exact hF1 k (hv1 k e2)
      · exact .inr (by omega)
    · exact .inr (hyw k e).1
  have hl5 : ∀ k, (F1 k ∨ v2.ownBlock = some k ∨ vy.ownBlock = some k) → k < w5.heap.size := by
    rintro k (e | e | e)
    · exact Nat.lt_of_lt_of_le (hR.Fl k e) hz5
    · exact owns_lt' ho' k e
    · have := (hyw k e).2.1; omega
  have hcv : ¬ (v1.ownBlock = some c) := fun e => hR.Fc (hv1 c e)
  have hc0 := hkE.cell hR.c0 hcv
  have hc1 := hkE.cell hR.c1 hcv
  have hcc := hkE.cell hc2 hcv
  have hff : w5.frozen? ⟨c, 2, none⟩ = false := by rw [hkE.frozen (a := ⟨c, 2, none⟩) hR.cl hcv]; exact hR.f2
  have hFc : ¬ (F1 c ∨ v2.ownBlock = some c ∨ vy.ownBlock = some c) := fun hf => by
    rcases hf with e | e | e
    · exact hR.Fc e
    · rcases hkin' c e with e2 | e2
      · exact hcv e2
      · omega
    · have := (hyw c e).1; omega
  have hks : Keeps (fun k => k = c) w5 (w5.setCell ⟨c, 2, none⟩ v2) := Keeps.setCell (S := fun k => k = c) w5 rfl _
  have hRc : Rc (w5.setCell ⟨c, 2, none⟩ v2) c g room (E1 ++ [((⟨i, l, false⟩ : En), vy)]) (fun k => F1 k ∨ v2.ownBlock = some k ∨ vy.ownBlock = some k) :=
    ⟨cell_set_other hc0 (by omega), cell_set_other hc1 (by omega), ⟨v2, cell_set_same hcc, hEs.keeps hks (fun k hk' e => hFc (by have e' : k = c := e; exact e' ▸ hk'))⟩, by simpa using hff, hFc, fun k hk' => Nat.lt_of_lt_of_le (hl5 k hk') hks.size⟩
  have hkk : Keeps (fun k => k = c ∨ F k) w (w5.setCell ⟨c, 2, none⟩ v2) := (hk.trans' hkE (fun k e => (hF1 k (hv1 k e)).imp (fun h => .inr h) id)).trans (Keeps.setCell (S := fun k => k = c ∨ F k) w5 (.inl rfl) _)
  obtain ⟨S', h3, h4⟩ := h.turned hRc hkk hF4
  exact ⟨rfl, E1, vy, _, S', h3, rfl, hkk, h4, hF4⟩

/-- What comes leaves, where there was no buffer of the block. -/
def RNew (w : World) (c g : Nat) (S : Nat → Prop) (room n : Nat) (s : St) (F : Nat → Prop) (q p : Option Nat) (Fd : Nat → Prop) (r : List En × En × Int) (e : Ending) (w' : World) : Prop :=
  (r.2.2 = 0 ∧ RCame w c g S room n s F q p Fd r.1 r.2.1 e w') ∨ (r.2.2 ≠ 0 ∧ e = .returned (.int .i64 r.2.2) ∧ Below w.heap.size w w')

theorem RDx.brought1 {w1 w5 : World} {i : Nat} {l : List Nat} {v vy v2 : Value} {o : Obj} (h : RDx w c g S room n s E F q p Fd) (hc2 : w.cell? ⟨c, 2, none⟩ = some v) (hE : Es w F v E) (hb : Below w.heap.size w w1)
    (ho : w5.ownsRow 0 86 3 v2 (E.length + 1) (cellsE E ++ [.int .i64 (i : Int), vy, .bool false])) (hg : (w1.alloc o).grownBy w5 v.ownBlock) (hkin : v2.ownBlock = v.ownBlock ∨ v2.ownBlock = some (w1.alloc o).heap.size) (hyo : w1.ownsRow w.heap.size 5 1 vy l.length (cellsB l)) (hll : ∀ y ∈ l, y < 256) (hl : l.length = 256) :
    RCame w c g S room n s F q p Fd (E.map Prod.fst) ⟨i, l, false⟩ (.returned (.int .i64 0)) (w5.setCell ⟨c, 2, none⟩ v2) := by
  refine h.brought (h.rc.mono hb) ((Keeps.of_below (S := fun _ => False) hb).cell hc2 id) (hE.keeps (S := fun _ => False) (Keeps.of_below hb) (fun _ _ => id)) (Keeps.of_below hb) (fun k hk => .inl hk) ho hg (by simpa using hkin) (Bs.of_owns (owns_base hyo (Nat.zero_le _)) hll) hl (fun b hb' => ⟨owns_lt hyo b hb', owns_lt' hyo b hb', fun hf => ?_⟩)
  have := h.rc.Fl b hf
  have := owns_lt hyo b hb'
  omega

theorem RDx.brought2 {w1 w4 w5 : World} {i m : Nat} {l : List Nat} {v vy v4 v2 : Value} {o : Obj} (h : RDx w c g S room n s E F q p Fd) (hc2 : w.cell? ⟨c, 2, none⟩ = some v) (hE : Es w F v E) (hb : Below w.heap.size w w1)
    (hb4 : Below w1.heap.size w1 w4) (ho4 : w4.ownsRow w1.heap.size 86 3 v4 (E.eraseIdx m).length (cellsE (E.eraseIdx m)))
    (ho : w5.ownsRow 0 86 3 v2 ((E.eraseIdx m).length + 1) (cellsE (E.eraseIdx m) ++ [.int .i64 (i : Int), vy, .bool false])) (hg : ((w4.setCell ⟨c, 2, none⟩ v4).alloc o).grownBy w5 v4.ownBlock) (hkin : v2.ownBlock = v4.ownBlock ∨ v2.ownBlock = some ((w4.setCell ⟨c, 2, none⟩ v4).alloc o).heap.size) (hyo : w1.ownsRow w.heap.size 5 1 vy l.length (cellsB l)) (hll : ∀ y ∈ l, y < 256) (hl : l.length = 256) :
    RCame w c g S room n s F q p Fd ((E.eraseIdx m).map Prod.fst) ⟨i, l, false⟩ (.returned (.int .i64 0)) (w5.setCell ⟨c, 2, none⟩ v2) := by
  have hcl := h.rc.cl
  have hz := hb.size
  have hz4 := hb4.size
  have hbb : Below w.heap.size w w4 := hb.trans (hb4.mono hb.size)
  have hE1 : Es w1 F v E := hE.keeps (S := fun _ => False) (Keeps.of_below hb) (fun _ _ => id)
  have hE4 := hE1.fresh (fun k hk => Nat.lt_of_lt_of_le (h.rc.Fl k hk) hz) hb4 ho4 (fun x hx => (List.eraseIdx_sublist _ _).subset hx)
  have hl4 : ∀ k, (F k ∨ v4.ownBlock = some k) → k < w4.heap.size := by
    rintro k (e | e)
    · have := h.rc.Fl k e; omega
    · exact owns_lt' ho4 k e
  have hFc : ¬ (F c ∨ v4.ownBlock = some c) := by
    rintro (e | e)
    · exact h.rc.Fc e
    · have := owns_lt ho4 c e; omega
  have hcc : w4.cell? ⟨c, 2, none⟩ = some v := (Keeps.of_below (S := fun _ => False) hbb).cell hc2 id
  have hks : Keeps (fun k => k = c) w4 (w4.setCell ⟨c, 2, none⟩ v4) := Keeps.setCell (S := fun k => k = c) w4 rfl _
  refine h.brought ((h.rc.mono hbb).setL hE4 hFc hl4) (cell_set_same hcc) (hE4.keeps hks (fun k hk e => hFc (by have e' : k = c := e; exact e' ▸ hk))) ((Keeps.of_below hbb).trans (Keeps.setCell (S := fun k => k = c ∨ F k) w4 (.inl rfl) _)) ?_ ho hg (by simpa using hkin) ?_ hl ?_
  · rintro k (e | e)
    · exact .inl e
    · have := owns_lt ho4 k e; exact .inr (by omega)
  · refine hks.bs ((Keeps.of_below (S := fun _ => False) hb4).bs (Bs.of_owns (owns_base hyo (Nat.zero_le _)) hll) (fun _ _ => id)) (fun b hb' e => ?_)
    have := owns_lt hyo b hb'
    have e' : b = c := e
    omega
  · intro b hb'
    have h1 := owns_lt hyo b hb'
    have h2 := owns_lt' hyo b hb'
    refine ⟨h1, by simp; omega, ?_⟩
    rintro (e | e)
    · have := h.rc.Fl b e; omega
    · have := owns_lt ho4 b e; omega

theorem wo2_any (h : RDx w c g S room n s E F q p Fd) {v : Value} (hE : Es w F v E) (k : Nat) (hk : k < E.length) (hn : E.length ≤ 1000) (W : World) (hb : Below w.heap.size w W) :
    Calls Try.prog 54 #[v, .int .i64 (k : Int)] W fun e w' => ∃ v', e = .returned v' ∧ w'.ownsRow W.heap.size 86 3 v' (E.eraseIdx k).length (cellsE (E.eraseIdx k)) ∧ Below W.heap.size W w' := by
  refine (without_any (hE.keeps (S := fun _ => False) (Keeps.of_below hb) (fun _ _ => id)) (fun j hj => Nat.lt_of_lt_of_le (h.rc.Fl j hj) hb.size) (k : Int) hn).mono ?_
  rintro e w2 ⟨v', rfl, ho, hb2⟩
  rw [if_neg (by omega), Int.toNat_natCast] at ho
  exact ⟨v', rfl, ho, hb2⟩

set_option maxRecDepth 100000 in
set_option maxHeartbeats 4000000 in
theorem rcome_new (i : Nat) (h : RDx w c g S room n s E F q p Fd) (hn : E.length ≤ 256) (hnd : NodupE E) (hp : posE E (i : Int) = -1) (hi : i < n) (hr0 : 1 ≤ room) (hr2 : room ≤ 256) (hpl : s.pend.length ≤ 1000000) (hnf : (E.map Prod.fst).find? (fun x => x.i == i) = none) :
    Calls Try.prog 37 #[.pointer (some ⟨c, 0, none⟩), .int .i64 (i : Int)] w (RNew w c g S room n s F q p Fd (comeL room s (E.map Prod.fst) i)) := by
  obtain ⟨i0, hi0, hz0, hz1, hz2⟩ := info_parts Try.info86
  have hat := rat_any h.rc (i : Int) (by omega)
  rw [hp] at hat
  have c0 := h.rc.c0
  have c1 := h.rc.c1
  have f2 := h.rc.f2
  have hcl := h.rc.cl
  obtain ⟨v, c2, hE⟩ := h.rc.c2
  obtain ⟨ao, cap, rfl, -⟩ := hE.slice
  have hro : s.on = false → readS s n (i : Int) = ([], 5) := fun e => by simp [readS, e]
  have hro2 : s.on = true → readS s n (i : Int) = (readL s i, 0) := fun e => by
    have : Go.Attic.inS n (i : Int) = true := by simp [Go.Attic.inS]; omega
    simp [readS, e, this]
  have hll := readL_length h.dr.ok i hi
  have hlt := readL_lt h.dr.ok i
  obtain ⟨r, hr⟩ : ∃ r, comeL room s (E.map Prod.fst) i = r := ⟨_, rfl⟩
  rw [hr]
  have hfull : room ≤ E.length → E.find? (fun x => !x.1.d) = none → r = (E.map Prod.fst, En.none, 6) := fun h1 h2 => by
    rw [← hr]; unfold comeL; rw [hnf]; simp only [List.length_map]; rw [if_pos h1, fst_find, h2]; rfl
  have hoff : ¬ (room ≤ E.length ∧ E.find? (fun x => !x.1.d) = none) → s.on = false → r = (E.map Prod.fst, En.none, 5) := fun h1 h2 => by
    rw [← hr]; unfold comeL; rw [hnf]; simp only [List.length_map]
    by_cases h3 : room ≤ E.length
    · rw [if_pos h3, fst_find]
      cases h4 : E.find? (fun x => !x.1.d) with
      | none => exact absurd ⟨h3, h4⟩ h1
      | some x => simp [h2]
    · rw [if_neg h3, if_pos h2]
  have happ : ¬ room ≤ E.length → s.on = true → r = (E.map Prod.fst, ⟨i, readL s i, false⟩, 0) := fun h1 h2 => by
    rw [← hr]; unfold comeL; rw [hnf]; simp only [List.length_map]
    rw [if_neg h1, if_neg (by simp [h2])]
  have hgo : room ≤ E.length → s.on = true → ∀ m (hm : m < E.length), E.find? (fun x => !x.1.d) = some E[m] → r = ((E.eraseIdx m).map Prod.fst, ⟨i, readL s i, false⟩, 0) := fun h1 h2 m hm h3 => by
    rw [← hr]; unfold comeL; rw [hnf]; simp only [List.length_map]
    rw [if_pos h1, fst_find, h3]
    simp only [Option.map_some, h2, Bool.true_eq_false, if_false]
    rw [erase_filter hnd m hm, fst_filter]
  obtain ⟨nE, hnE⟩ : ∃ m, E.length = m := ⟨_, rfl⟩
  rw [hnE] at c2 hE hn
  have hold := oldI_zero E
  have HE := hide hE
  have Hl := hide hnE
  have Hold := hide hold
  have Hfull := hide hfull
  have Hoff := hide hoff
  have Happ := hide happ
  have Hgo := hide hgo
  have Hro := hide hro
  have hwo := fun m (hm : m < E.length) W hb => wo2_any h hE m hm (by omega) W hb
  have Hwo := hide hwo
  have Hro2 := hide hro2
  have Hll := hide hll
  have Hlt := hide hlt
  have Hc2 := hide c2
  have hrd2 : ∀ rr, readS s n (i : Int) = rr → ∀ W, Below w.heap.size w W → Calls Try.prog 55 #[.pointer (some ⟨g, 0, none⟩), .int .i64 (i : Int)] W (NewBsD w rr) := fun rr e W hW => by
    refine (rread_yes (h.dr.mono hW) (i : Int) hpl).mono ?_
    rintro e2 w2 ⟨v2, rfl, o2, b2⟩
    rw [e] at o2 ⊢
    exact ⟨v2, rfl, owns_base o2 hW.size, hW.trans (b2.mono hW.size)⟩
  have Hrd := hide hrd2
  have hrdo : s.on = true → ∀ W, Below w.heap.size w W → Calls Try.prog 55 #[.pointer (some ⟨g, 0, none⟩), .int .i64 (i : Int)] W fun e w' => ∃ a1 cp1, e = .returned (.tuple #[.slice a1 256 cp1, .int .i64 0]) ∧ w'.ownsRow w.heap.size 5 1 (.slice a1 256 cp1) 256 (cellsB (readL s i)) ∧ Below w.heap.size w w' := fun e W hW => by
    refine (hrd2 _ (Hro2.out e) W hW).mono ?_
    rintro e2 w2 ⟨v2, rfl, o2, b2⟩
    obtain ⟨a1, cp1, rfl⟩ := owns_slice o2
    have h256 : (readL s i, (0 : Int)).1.length = 256 := Hll.out
    rw [h256] at o2 ⊢
    exact ⟨a1, cp1, rfl, o2, b2⟩
  have Hrdo := hide hrdo
  have H := hide h
  clear h hE hp hold hfull hoff happ hgo hro hro2 hll hlt hrd2 hrdo hr hnf hnd hwo
  go_enter Try.func37, Try.ntmps37
  go_wp2_with fail
  refine hat.mono ?_
  rintro e w' ⟨rfl, rfl⟩
  go_wp2_with fail
  go_loopw [7, 8] (fun ov iv wr => ∃ j : Nat, j ≤ nE ∧ iv = .int .i64 ((j : Int) - 1) ∧ ov = .int .i64 (oldI E j) ∧ w = wr) (fun _ iv _ => (intOf iv + 1).toNat)
  case atStart => exact ⟨nE, Nat.le_refl _, rfl, by rw [← Hl.out, oldI_end], rfl⟩
  case round =>
    obtain ⟨j, hj, rfl, rfl, rfl⟩ := hrel
    by_cases hj0 : 0 < j
    · obtain ⟨m, rfl⟩ : ∃ m, j = m + 1 := ⟨j - 1, by omega⟩
      have hml : m < E.length := by have := Hl.out; omega
      obtain ⟨b, u, cu, rfl, -, -, -, k2, -, -⟩ := HE.out.at m hml
      have hst := oldI_step E m hml
      have hjm : ((m + 1 : Nat) : Int) - 1 = (m : Int) := by omega
      have hm0 : (0 : Int) ≤ (m : Int) := by omega
      have hm1 : (m : Int) < (nE : Int) := by omega
      rw [hjm]
      cases hd : (E[m]).1.d with
      | false =>
        rw [hd] at k2
        rw [hd, if_pos rfl] at hst
        have Hst := hide hst
        generalize oldI E (m + 1) = z at *
        clear hst
        go_wp2_with fail
        go_roundw
        case rel => exact ⟨m, by omega, by go_num, by rw [Hst.out], trivial⟩
        case measure => simp [intOf]
      | true =>
        rw [hd] at k2
        rw [hd, if_neg (by simp)] at hst
        have Hst := hide hst
        generalize oldI E (m + 1) = z at *
        clear hst
        go_wp2_with fail
        go_roundw
        case rel => exact ⟨m, by omega, by go_num, by rw [Hst.out], trivial⟩
        case measure => simp [intOf]
    · obtain rfl : j = 0 := by omega
      have hn1 : ((0 : Nat) : Int) - 1 = -1 := rfl
      rw [hn1]
      by_cases hfl : room ≤ nE
      · have hflb : decide ((room : Int) ≤ (nE : Int)) = true := by simp; exact hfl
        rcases Hold.out with ⟨m, hm, ez, hf⟩ | ⟨ez, hf⟩
        · have hzb : decide ((m : Int) < 0) = false := by simp
          rw [ez]
          cases hon : s.on with
          | false =>
            have her := Hoff.out (fun x => by rw [hf] at x; exact absurd x.2 (by simp)) hon
            have hrd := Hrd.out _ (Hro.out hon)
            have Her := hide her
            clear her hf ez
            go_wp2_with fail
            go_quiet (fail)
            go_wp2_with fail
            have hbq := below_drewN (Below.refl w.heap.size w) nq
            generalize w.drewN nq = wq at *
            refine (hrd wq hbq).mono ?_
            rintro e w1 ⟨v1, rfl, -, b1⟩
            go_wp2_with fail
            go_ret
            rw [Her.out]
            exact .inr ⟨by simp, rfl, b1⟩
          | true =>
            have her := Hgo.out (by rw [Hl.out]; exact hfl) hon m hm hf
            have hrd := Hrdo.out hon
            have hlen : (E.eraseIdx m).length + 1 = nE := by rw [List.length_eraseIdx_of_lt hm]; have := Hl.out; omega
            have Her := hide her
            have Hwo2 := hide (Hwo.out m hm)
            clear her hf ez
            obtain ⟨nE1, hnE1⟩ : ∃ k, (E.eraseIdx m).length = k := ⟨_, rfl⟩
            rw [hnE1] at hlen
            have Hl1 := hide hnE1
            clear hnE1
            go_wp2_with fail
            go_quiet (fail)
            go_wp2_with fail
            have hbq := below_drewN (Below.refl w.heap.size w) nq
            generalize w.drewN nq = wq at *
            refine (hrd wq hbq).mono ?_
            rintro e w1 ⟨a1, cp1, rfl, o1, b1⟩
            have d1 : w1.cell? ⟨c, 1, none⟩ = some (.int .i64 (room : Int)) := (Keeps.of_below (S := fun _ => False) b1).cell c1 id
            have d2 : w1.cell? ⟨c, 2, none⟩ = some (.slice ao nE cap) := (Keeps.of_below (S := fun _ => False) b1).cell c2 id
            have Ho1 := hide o1
            clear c1 c2 o1
            go_wp2_with fail
            go_quiet (fail)
            have b2 := below_drewN b1 nq
            have o2 := (Keeps.drewN (S := fun _ => False) w1 nq).owns Ho1.out (fun _ _ => id)
            have d2' : (w1.drewN nq).cell? ⟨c, 2, none⟩ = some (.slice ao nE cap) := (Keeps.of_below (S := fun _ => False) b2).cell Hc2.out id
            have hw2z := b2.size
            have f2' : (w1.drewN nq).frozen? ⟨c, 2, none⟩ = false := by rw [b2.frozen (p := ⟨c, 2, none⟩) hcl]; exact f2
            generalize w1.drewN nq = w2 at *
            have Ho2 := hide o2
            clear o2 d1 d2
            go_wp2_with fail
            refine (Hwo2.out w2 b2).mono ?_
            rintro e w4 ⟨v4, rfl, ho4, hb4⟩
            obtain ⟨a4, cp4, rfl⟩ := owns_slice ho4
            have hw4z := hb4.size
            have d4 := (Keeps.of_below (S := fun _ => False) hb4).cell d2' id
            have f4 : w4.frozen? ⟨c, 2, none⟩ = false := by rw [hb4.frozen (p := ⟨c, 2, none⟩) (Nat.lt_of_lt_of_le hcl hw2z)]; exact f2'
            have hcn : ¬ ((Value.slice a4 (E.eraseIdx m).length cp4).ownBlock = some c) := fun e => by have := owns_lt ho4 c e; omega
            have Ho4 := hide ho4
            have Hcn := hide hcn
            clear ho4 hcn d2' f2'
            rw [Hl1.out]
            go_wp2_with (first | (at_builtin; go_loud (
                                refine wpList_append_own_at _ rfl (.tmp 104) (.tmp 108) 76 rfl 0 86 i0 (.agg #[.int .i64 0, .slice none 0 0, .bool false]) 3 40 Try.underlying76 hi0 hz0 hz1 hz2 rfl (by decide) _ nE1 (cellsE (E.eraseIdx m)) rfl (show World.ownsRow ((w4.setCell ⟨c, 2, none⟩ (.slice a4 nE1 cp4)).alloc _) 0 86 3 (.slice a4 nE1 cp4) nE1 _ from (((Keeps.setCell (S := fun k => k = c) w4 rfl _).owns (by rw [← Hl1.out]; exact owns_base Ho4.out (Nat.zero_le _)) (fun k hk e => by have e' : k = c := e; subst e'; exact Hcn.out (by rw [Hl1.out]; exact hk))).alloc _)) ⟨w4.heap.size, 0, none⟩ 1 1 [.int .i64 (i : Int), .slice a1 256 cp1, .bool false] rfl rfl (by have := cell_three_new (w4.setCell ⟨c, 2, none⟩ (.slice a4 nE1 cp4)) (.int .i64 (i : Int)) (.slice a1 256 cp1) (.bool false) 86; rw [World.size_setCell] at this; exact this) (by simp [Value.oneCell']) (by unfold maxLen; omega) (by omega) (by simp) ?_
                                intro v5 w5 ho5 hg5 _ hkin5
                                have hk5 := (Keeps.alloc (S := fun k => (Value.slice a4 nE1 cp4).ownBlock = some k) (w4.setCell ⟨c, 2, none⟩ (.slice a4 nE1 cp4)) (.cells #[.int .i64 (i : Int), .slice a1 256 cp1, .bool false] 86)).trans (Keeps.of_grown hg5 (fun k hk => hk))
                                have hcn : ¬ ((Value.slice a4 nE1 cp4).ownBlock = some c) := fun e => Hcn.out (by rw [Hl1.out]; exact e)
                                have f5 : w5.frozen? ⟨c, 2, none⟩ = false := by rw [hk5.frozen (a := ⟨c, 2, none⟩) (by simp; omega) hcn]; simpa using f4
                                have d5 := hk5.cell (cell_set_same d4) hcn
                                obtain ⟨a5, cp5, rfl⟩ := owns_slice ho5)))
            have hF := H.out.brought2 (i := i) Hc2.out HE.out b2 hb4 Ho4.out (by rw [Hl1.out]; exact ho5) (by rw [Hl1.out]; exact hg5) (by rw [Hl1.out]; exact hkin5) (by rw [Hll.out]; exact Ho2.out) Hlt.out Hll.out
            rw [hlen] at hF
            have HF := hide hF
            clear hF ho5 hg5 hkin5 hk5
            go_ret
            rw [Her.out]
            exact .inl ⟨rfl, HF.out⟩
        · have hzb : decide ((-1 : Int) < 0) = true := rfl
          rw [ez]
          have her := Hfull.out (by rw [Hl.out]; exact hfl) hf
          have Her := hide her
          clear her hf ez
          go_wp2_with fail
          go_quiet (fail)
          go_wp2_with fail
          go_ret
          rw [Her.out]
          exact .inr ⟨by simp, rfl, below_drewN (Below.refl _ _) _⟩
      · have hflb : decide ((room : Int) ≤ (nE : Int)) = false := by simp; omega
        generalize oldI E 0 = z at *
        cases hon : s.on with
        | false =>
          have her := Hoff.out (fun x => by rw [Hl.out] at x; exact hfl x.1) hon
          have hrd := Hrd.out _ (Hro.out hon)
          have Her := hide her
          clear her
          go_wp2_with fail
          go_quiet (fail)
          go_wp2_with fail
          have hbq := below_drewN (Below.refl w.heap.size w) nq
          generalize w.drewN nq = wq at *
          refine (hrd wq hbq).mono ?_
          rintro e w1 ⟨v1, rfl, -, b1⟩
          go_wp2_with fail
          go_ret
          rw [Her.out]
          exact .inr ⟨by simp, rfl, b1⟩
        | true =>
          have her := Happ.out (by rw [Hl.out]; exact hfl) hon
          have hrd := Hrdo.out hon
          have Her := hide her
          clear her
          go_wp2_with fail
          go_quiet (fail)
          go_wp2_with fail
          have hbq := below_drewN (Below.refl w.heap.size w) nq
          generalize w.drewN nq = wq at *
          refine (hrd wq hbq).mono ?_
          rintro e w1 ⟨a1, cp1, rfl, o1, b1⟩
          have hrow : w1.ownsRow 0 86 3 (.slice ao nE cap) nE (cellsE E) := by
            have hr1 := (HE.out.keeps (S := fun _ => False) (Keeps.of_below b1) (fun _ _ => id)).row
            rw [Hl.out] at hr1
            exact hr1
          have d1 : w1.cell? ⟨c, 1, none⟩ = some (.int .i64 (room : Int)) := (Keeps.of_below (S := fun _ => False) b1).cell c1 id
          have d2 : w1.cell? ⟨c, 2, none⟩ = some (.slice ao nE cap) := (Keeps.of_below (S := fun _ => False) b1).cell c2 id
          have hw1z := b1.size
          have hnc : ∀ k, (Value.slice ao nE cap).ownBlock = some k → k ≠ c := fun k hk e => H.out.rc.Fc (e ▸ HE.out.pF k hk)
          have Hnc := hide hnc
          have Ho1 := hide o1
          have Hrow := hide hrow
          clear c1 c2 o1 hrow hnc
          go_wp2_with fail
          go_quiet (fail)
          have b2 := below_drewN b1 nq
          have o2 := (Keeps.drewN (S := fun _ => False) w1 nq).owns Ho1.out (fun _ _ => id)
          have hrow := (Keeps.drewN (S := fun _ => False) w1 nq).owns Hrow.out (fun _ _ => id)
          have d2' : (w1.drewN nq).cell? ⟨c, 2, none⟩ = some (.slice ao nE cap) := (Keeps.of_below (S := fun _ => False) b2).cell Hc2.out id
          have hw2z := b2.size
          have f2' : (w1.drewN nq).frozen? ⟨c, 2, none⟩ = false := by rw [b2.frozen (p := ⟨c, 2, none⟩) hcl]; exact f2
          generalize w1.drewN nq = w2 at *
          have Ho2 := hide o2
          clear o2 d1 d2
          go_wp2_with (first | (at_builtin; go_loud (
                                refine wpList_append_own_at _ rfl (.tmp 104) (.tmp 108) 76 rfl 0 86 i0 (.agg #[.int .i64 0, .slice none 0 0, .bool false]) 3 40 Try.underlying76 hi0 hz0 hz1 hz2 rfl (by decide) _ nE (cellsE E) rfl (hrow.alloc _) ⟨w2.heap.size, 0, none⟩ 1 1 [.int .i64 (i : Int), .slice a1 256 cp1, .bool false] rfl rfl (cell_three_new _ _ _ _ _) (by simp [Value.oneCell']) (by unfold maxLen; omega) (by omega) (by simp) ?_
                                intro v5 w5 ho5 hg5 _ hkin5
                                have hk5 := (Keeps.alloc (S := fun k => (Value.slice ao nE cap).ownBlock = some k) w2 (.cells #[.int .i64 (i : Int), .slice a1 256 cp1, .bool false] 86)).trans (Keeps.of_grown hg5 (fun k hk => hk))
                                have hcn : ¬ ((Value.slice ao nE cap).ownBlock = some c) := fun e => Hnc.out c e rfl
                                have f5 : w5.frozen? ⟨c, 2, none⟩ = false := by rw [hk5.frozen (a := ⟨c, 2, none⟩) (Nat.lt_of_lt_of_le hcl hw2z) hcn]; exact f2'
                                have d5 := hk5.cell d2' hcn
                                obtain ⟨a5, cp5, rfl⟩ := owns_slice ho5)))
          have hF := H.out.brought1 (i := i) Hc2.out HE.out b2 (by rw [Hl.out]; exact ho5) hg5 hkin5 (by rw [Hll.out]; exact Ho2.out) Hlt.out Hll.out
          have HF := hide hF
          clear hF ho5 hg5 hkin5 hk5
          go_ret
          rw [Her.out]
          exact .inl ⟨rfl, HF.out⟩

theorem rcome_any (i : Nat) (h : RDx w c g S room n s E F q p Fd) (hn : E.length ≤ 256) (hnd : NodupE E) (hi : i < n) (hr0 : 1 ≤ room) (hr2 : room ≤ 256) (hpl : s.pend.length ≤ 1000000) :
    Calls Try.prog 37 #[.pointer (some ⟨c, 0, none⟩), .int .i64 (i : Int)] w (RNew w c g S room n s F q p Fd (comeL room s (E.map Prod.fst) i)) := by
  have hbe : (fun x : En × Value => ((x.1.i : Int) == (i : Int))) = fun x => x.1.i == i := by
    funext x
    rw [Bool.eq_iff_iff]; simp; omega
  have hpe : posE E (i : Int) = match E.findIdx? (fun x => x.1.i == i) with | some k => (k : Int) | none => -1 := by
    unfold posE
    rw [hbe]
    all_goals (cases E.findIdx? (fun x => x.1.i == i) <;> rfl)
  rcases find_idx (E := E) (f := fun x => x.1.i == i) with ⟨m, hm, h1, h2⟩ | ⟨h1, h2⟩
  · have hei : (E[m]).1.i = i := by have := List.find?_some h2; simpa using this
    have hc := rcome_found i h hn hnd m hm (by rw [hpe, h1])
    have hcl : comeL room s (E.map Prod.fst) i = ((E.filter fun x => x.1.i != i).map Prod.fst, (E[m]).1, 0) := by
      unfold comeL
      rw [fst_find, h2]
      simp only [Option.map_some, fst_filter]
    rw [hcl]
    rw [hei] at hc
    exact hc.mono (fun e w' hh => .inl ⟨rfl, hh⟩)
  · exact rcome_new i h hn hnd (by rw [hpe, h1]) hi hr0 hr2 hpl (by rw [fst_find, h2]; rfl)

end

end Go.Proofs.Ytjcmmigbkhiplaa
