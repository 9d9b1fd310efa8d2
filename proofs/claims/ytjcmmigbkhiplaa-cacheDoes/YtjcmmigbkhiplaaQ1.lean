/- The document's own disk in memory (Dr); contracts of its readers: Image, Read. -/
import Derived.Test.YtjcmmigbkhiplaaLk
set_option linter.unusedSimpArgs false
set_option linter.unusedVariables false
namespace Go.Proofs.Ytjcmmigbkhiplaa
open Go.RowKit Go.Attic

/-- The blocks of the medium stand in a row of slices. -/
structure BRows (w : World) (q p : Option Nat) (F : Nat → Prop) (v : Value) (n : Nat) (med : List Nat) (vs : List Value) : Prop where
  row : w.ownsRow 0 37 1 v n vs
  own : v.ownBlock = q
  bs : ∀ i (hv : i < vs.length), Bs w vs[i] (blockL med i) ∧ ∀ b, vs[i].ownBlock = some b → F b ∧ p ≠ some b ∧ q ≠ some b

/-- The document's disk stands in block g; the row of its blocks in block q, its pending writes in block p; what else it reads lies in F. -/
structure Dr (w : World) (g : Nat) (q p : Option Nat) (F : Nat → Prop) (n : Nat) (s : St) : Prop where
  c0 : ∃ v vs, w.cell? ⟨g, 0, none⟩ = some v ∧ BRows w q p F v n s.med vs
  c1 : ∃ v vs, w.cell? ⟨g, 1, none⟩ = some v ∧ Ws 95 w p F v s.pend vs ∧ ∀ i (hv : i < vs.length) b, vs[i].ownBlock = some b → q ≠ some b
  c2 : w.cell? ⟨g, 2, none⟩ = some (.bool (!s.on))
  c3 : w.cell? ⟨g, 3, none⟩ = some (.int .i64 (s.ops : Int))
  c4 : w.cell? ⟨g, 4, none⟩ = some (.int .i64 (s.left : Int))
  c5 : ∃ v pk, w.cell? ⟨g, 5, none⟩ = some v ∧ Bs w v pk ∧ (0 < s.left → pk = s.picks) ∧ pk.length ≤ 140737488355328 ∧ ∀ b, v.ownBlock = some b → F b ∧ p ≠ some b ∧ q ≠ some b
  f0 : w.frozen? ⟨g, 0, none⟩ = false
  f1 : w.frozen? ⟨g, 1, none⟩ = false
  f2 : w.frozen? ⟨g, 2, none⟩ = false
  f3 : w.frozen? ⟨g, 3, none⟩ = false
  f4 : w.frozen? ⟨g, 4, none⟩ = false
  f5 : w.frozen? ⟨g, 5, none⟩ = false
  qF : ∀ b, q = some b → F b ∧ p ≠ some b
  Fg : ¬ F g
  Fl : ∀ k, F k → k < w.heap.size
  ok : s.Ok n

theorem Dr.gl {w : World} {g : Nat} {q p : Option Nat} {F : Nat → Prop} {n : Nat} {s : St} (h : Dr w g q p F n s) : g < w.heap.size := by
  have := World.block_lt_of_cell? w _ h.c2; simpa using this

theorem BRows.keeps {w w' : World} {q p : Option Nat} {F S : Nat → Prop} {v : Value} {n : Nat} {med : List Nat} {vs : List Value} (h : BRows w q p F v n med vs) (hk : Keeps S w w') (hq : ∀ b, q = some b → ¬ S b) (hS : ∀ k, F k → ¬ S k) : BRows w' q p F v n med vs :=
  ⟨hk.owns h.row (fun b hb => hq b (h.own ▸ hb)), h.own, fun i hv => ⟨hk.bs (h.bs i hv).1 (fun b hb => hS b ((h.bs i hv).2 b hb).1), (h.bs i hv).2⟩⟩

theorem Dr.keeps {w w' : World} {g : Nat} {q p : Option Nat} {F S : Nat → Prop} {n : Nat} {s : St} (h : Dr w g q p F n s) (hk : Keeps S w w') (hg : ¬ S g) (hS : ∀ k, F k → ¬ S k) : Dr w' g q p F n s := by
  obtain ⟨v, vs, a1, a2⟩ := h.c0
  obtain ⟨v1, vs1, b1, b2, b3⟩ := h.c1
  obtain ⟨v5, pk, d1, d2, d3, d4, d5⟩ := h.c5
  have hl := h.gl
  exact ⟨⟨v, vs, hk.cell a1 hg, a2.keeps hk (fun b hb => hS b (h.qF b hb).1) hS⟩, ⟨v1, vs1, hk.cell b1 hg, b2.keeps hk hS, b3⟩, hk.cell h.c2 hg, hk.cell h.c3 hg, hk.cell h.c4 hg, ⟨v5, pk, hk.cell d1 hg, hk.bs d2 (fun b hb => hS b (d5 b hb).1), d3, d4, d5⟩,
    by rw [hk.frozen (a := ⟨g, 0, none⟩) hl hg]; exact h.f0, by rw [hk.frozen (a := ⟨g, 1, none⟩) hl hg]; exact h.f1, by rw [hk.frozen (a := ⟨g, 2, none⟩) hl hg]; exact h.f2, by rw [hk.frozen (a := ⟨g, 3, none⟩) hl hg]; exact h.f3, by rw [hk.frozen (a := ⟨g, 4, none⟩) hl hg]; exact h.f4, by rw [hk.frozen (a := ⟨g, 5, none⟩) hl hg]; exact h.f5,
    h.qF, h.Fg, fun k hk' => Nat.lt_of_lt_of_le (h.Fl k hk') hk.size, h.ok⟩

theorem Dr.mono {w w' : World} {g : Nat} {q p : Option Nat} {F : Nat → Prop} {n : Nat} {s : St} (h : Dr w g q p F n s) (hb : Below w.heap.size w w') : Dr w' g q p F n s :=
  h.keeps (S := fun _ => False) (Keeps.of_below hb) id (fun _ _ => id)

theorem BRows.len {w : World} {q p : Option Nat} {F : Nat → Prop} {v : Value} {n : Nat} {med : List Nat} {vs : List Value} (h : BRows w q p F v n med vs) : vs.length = n := by have := h.row.1; omega

theorem BRows.cell {w : World} {q p : Option Nat} {F : Nat → Prop} {v : Value} {n : Nat} {med : List Nat} {vs : List Value} (h : BRows w q p F v n med vs) (i : Nat) (hi : i < n) :
    ∃ b cap, v = .slice (some ⟨b, 0, none⟩) n cap ∧ q = some b ∧ w.cell? ⟨b, i, none⟩ = some (vs[i]'(by have := h.len; omega)) := by
  obtain ⟨ao, cap, rfl, _, hg⟩ := owns_form h.row
  obtain ⟨b, rfl, _⟩ := hg (by omega)
  have hl := h.len
  have e := h.row.cells (g := b) rfl i (vs[i]'(by omega)) (List.getElem?_eq_getElem (by omega))
  rw [Addr.add_lit, Nat.zero_add] at e
  exact ⟨b, cap, rfl, h.own.symm, e⟩

theorem take_block (med : List Nat) (i n : Nat) (hi : i < n) (hl : med.length = 256 * n) : med.take (256 * (i + 1)) = med.take (256 * i) ++ blockL med i := by
  rw [show 256 * (i + 1) = 256 * i + 256 by omega, List.take_add]
  rfl

theorem blockL_len (med : List Nat) (i n : Nat) (hi : i < n) (hl : med.length = 256 * n) : (blockL med i).length = 256 := by
  simp [blockL]; omega

set_option maxRecDepth 100000 in
set_option maxHeartbeats 1000000 in
theorem rimage_yes {w : World} {g : Nat} {q p : Option Nat} {F : Nat → Prop} {n : Nat} {s : St} (h : Dr w g q p F n s) :
    Calls Try.prog 28 #[.pointer (some ⟨g, 0, none⟩)] w (NewBs w s.med) := by
  obtain ⟨i0, hi, hz0, hz1, hz2⟩ := info_parts Try.info5
  obtain ⟨v, vs, c0, hR⟩ := h.c0
  have hn := h.ok.n2
  have hn1 := h.ok.n1
  have hl := h.ok.len
  have hlt := h.ok.lt
  have hvl := hR.len
  obtain ⟨b, cap, rfl⟩ : ∃ b cap, v = .slice (some ⟨b, 0, none⟩) n cap := by
    obtain ⟨b, cap, e, _⟩ := hR.cell 0 (by omega)
    exact ⟨b, cap, e⟩
  have hgl := h.gl
  have HR := hide hR
  have Hl := hide hl
  have Hvl := hide hvl
  clear hR hl hvl h
  go_enter Try.func28, Try.ntmps28
  go_wp2_with fail
  go_loopw [3, 4] (fun o i wr => ∃ k : Nat, k ≤ n ∧ i = .int .i64 k ∧ wr.ownsRow w.heap.size 5 1 o (256 * k) (cellsB (s.med.take (256 * k))) ∧ Below w.heap.size w wr) (fun _ i _ => n - (intOf i).toNat)
  case atStart => exact ⟨0, by omega, rfl, by simpa [cellsB] using World.ownsRow_nil _ _ _ _, Below.refl _ _⟩
  case round =>
    obtain ⟨k, hk, rfl, o1, b1⟩ := hrel
    have c0' := (Keeps.of_below (S := fun _ => False) b1).cell c0 id
    by_cases hkn : k < n
    · obtain ⟨b', cap', e1, _, ck⟩ := HR.out.cell k hkn
      injection e1 with e1 _ e3
      injection e1 with e1
      injection e1 with e1
      subst e1 e3
      have hbk := ((HR.out.bs k (by have := Hvl.out; omega)).1).mono b1
      have ck' := (Keeps.of_below (S := fun _ => False) b1).cell ck id
      generalize (vs[k]'(by have := Hvl.out; omega)) = vk at *
      have hlk := blockL_len s.med k n hkn Hl.out
      have htk := take_block s.med k n hkn Hl.out
      obtain ⟨vao, vcap, rfl, _⟩ := id hbk
      have zb := b1.size
      obtain ⟨oao, ocap, rfl⟩ := owns_slice o1
      rw [hlk] at ck' hbk
      have Hlk := hide hlk
      have Htk := hide htk
      clear hlk htk ck c0
      go_wp2_with (at_builtin; refine wpList_append_bs _ rfl (.tmp 14) (.tmp 21) 37 rfl w.heap.size 5 i0 (.int .u8 0) Try.underlying37 hi hz0 hz1 hz2 rfl _ _ (s.med.take (256 * k)) rfl o1 _ (blockL s.med k) rfl hbk (by rw [Hlk.out]; omega) (by omega) ?_; intro v' w2 hown hgrow)
      have b2 : Below w.heap.size w w2 := b1.grown hgrow zb (fun j hj => (o1.lt j hj).1)
      rw [Hlk.out, ← Htk.out] at hown
      have Hown := hide hown
      clear hown o1 hbk
      go_wp2_with fail
      go_roundw
      case rel => exact ⟨k + 1, by omega, by go_num, by have := Hown.out; rw [show 256 * (k + 1) = 256 * k + 256 by omega]; exact this, b2⟩
      case measure => simp [intOf]; omega
    · obtain rfl : k = n := by omega
      rw [List.take_of_length_le (by rw [Hl.out]; omega)] at o1
      go_wp2_with fail
      go_ret
      exact ⟨_, rfl, by rw [Hl.out]; exact o1, b1⟩

theorem lastW_take (ps : List (Nat × List Nat)) (k i : Nat) (hk : k < ps.length) : lastW (ps.take (k + 1)) i = if (ps[k]).1 = i then some (ps[k]).2 else lastW (ps.take k) i := by
  rw [List.take_add_one, List.getElem?_eq_getElem hk]
  exact lastW_append _ _ _

/-- A new slice and an error. -/
def NewBsD (w : World) (r : List Nat × Int) (e : Ending) (w' : World) : Prop :=
  ∃ v, e = .returned (.tuple #[v, .int .i64 r.2]) ∧ w'.ownsRow w.heap.size 5 1 v r.1.length (cellsB r.1) ∧ Below w.heap.size w w'

set_option maxRecDepth 100000 in
set_option maxHeartbeats 1000000 in
theorem rread_yes {w : World} {g : Nat} {q p : Option Nat} {F : Nat → Prop} {n : Nat} {s : St} (h : Dr w g q p F n s) (i : Int) (hpl : s.pend.length ≤ 1000000) :
    Calls Try.prog 55 #[.pointer (some ⟨g, 0, none⟩), .int .i64 i] w (NewBsD w (readS s n i)) := by
  obtain ⟨i0, hi, hz0, hz1, hz2⟩ := info_parts Try.info5
  obtain ⟨v, vs, c0, hR⟩ := h.c0
  obtain ⟨v1, vs1, c1, hW, _⟩ := h.c1
  have c2 := h.c2
  have hn1 := h.ok.n1
  have hn := h.ok.n2
  cases hon : s.on with
  | false =>
    have e : readS s n i = ([], 5) := by simp [readS, hon]
    rw [e]; clear e
    rw [hon] at c2
    clear hR hW
    go_enter Try.func55, Try.ntmps55
    go_wp2
    go_ret2
    exact ⟨_, rfl, World.ownsRow_nil _ _ _ _, Below.refl _ _⟩
  | true =>
    rw [hon] at c2
    obtain ⟨b, cap, rfl⟩ : ∃ b cap, v = .slice (some ⟨b, 0, none⟩) n cap := by
      obtain ⟨b, cap, e, _⟩ := hR.cell 0 (by omega)
      exact ⟨b, cap, e⟩
    by_cases h1 : i < 0
    · have e : readS s n i = ([], 30) := by
        have : inS n i = false := by simp [inS]; omega
        simp [readS, hon, this]
      rw [e]; clear e
      clear hR hW
      go_enter Try.func55, Try.ntmps55
      go_wp2
      go_ret2
      exact ⟨_, rfl, World.ownsRow_nil _ _ _ _, Below.refl _ _⟩
    · obtain ⟨k, rfl⟩ := Int.eq_ofNat_of_zero_le (show 0 ≤ i by omega)
      by_cases h2 : k < n
      · have e : readS s n (k : Int) = (readL s k, 0) := by
          have : inS n (k : Int) = true := by simp [inS]; omega
          simp [readS, hon, this]
        obtain ⟨rl, hrl⟩ : ∃ rl, readL s k = rl := ⟨_, rfl⟩
        rw [e, hrl]; clear e
        obtain ⟨b', cap', e1, _, ck⟩ := hR.cell k h2
        injection e1 with e1 _ e3
        injection e1 with e1
        injection e1 with e1
        subst e1 e3
        have hbk := (hR.bs k (by have := hR.len; omega)).1
        generalize (vs[k]'(by have := hR.len; omega)) = vk at *
        have hlk := blockL_len s.med k n h2 h.ok.len
        obtain ⟨vao, vcap, rfl, _⟩ := id hbk
        obtain ⟨pao, pcap, rfl⟩ := owns_slice hW.row
        have Hrl := hide hrl
        have HW := hide hW
        have Hlk := hide hlk
        have Hok := hide h.ok
        rw [hlk] at ck hbk
        clear hrl hW hlk hR hon
        have hbk0 : Bs w (.slice vao 256 vcap) ((lastW (s.pend.take 0) k).getD (blockL s.med k)) := by simpa [lastW] using hbk
        go_enter Try.func55, Try.ntmps55
        go_wp2_with fail
        go_loop [6, 7] (fun u j => ∃ m : Nat, m ≤ s.pend.length ∧ j = .int .i64 m ∧ ∃ ua uc, u = .slice ua 256 uc ∧ Bs w u ((lastW (s.pend.take m) k).getD (blockL s.med k))) (fun _ j => s.pend.length - (intOf j).toNat)
        case atStart => exact ⟨0, by omega, rfl, _, _, rfl, hbk0⟩
        case round =>
          obtain ⟨m, hm, rfl, ua, uc, rfl, hu⟩ := hrel
          clear hbk0
          by_cases hml : m < s.pend.length
          · obtain ⟨pb, pcap', e2, _, x1, x2⟩ := HW.out.cells m hml
            injection e2 with e2 _ e3
            subst e2 e3
            have hmv : m < vs1.length := by have := HW.out.len; omega
            have hbm := (HW.out.bs m hml hmv).1
            have hlt := lastW_take s.pend m k hml
            have hpl256 := (Hok.out.pend _ (List.getElem_mem hml)).2.1
            generalize (vs1[m]'hmv) = vm at *
            generalize s.pend[m] = pm at *
            obtain ⟨blk, byt⟩ := pm
            dsimp only at *
            obtain ⟨mao, mcap, rfl, _⟩ := id hbm
            rw [hpl256] at hbm x2
            clear hpl256
            by_cases hbe : blk = k
            · rw [if_pos hbe] at hlt
              subst hbe
              have Hlt := hide hlt
              clear hlt
              go_wp2_with fail
              go_round
              case rel => exact ⟨m + 1, by omega, by go_num, _, _, rfl, by rw [Hlt.out]; exact hbm⟩
              case measure => simp [intOf]; omega
            · rw [if_neg hbe] at hlt
              have hne : ((blk : Int) == (k : Int)) = false := by simp; omega
              have Hlt := hide hlt
              clear hlt
              go_wp2_with fail
              go_round
              case rel => exact ⟨m + 1, by omega, by go_num, _, _, rfl, by rw [Hlt.out]; exact hu⟩
              case measure => simp [intOf]; omega
          · obtain rfl : m = s.pend.length := by omega
            rw [List.take_of_length_le (Nat.le_refl _)] at hu
            have hu2 : Bs w (.slice ua 256 uc) rl := by rw [← Hrl.out]; exact hu
            have hrl256 : rl.length = 256 := hu2.len.symm
            have Hrl256 := hide hrl256
            clear hrl256 hu
            go_wp2_with (at_builtin; refine wpList_append_bs _ rfl (.const (.slice none 0 0)) (.tmp 57) 37 rfl w.heap.size 5 i0 (.int .u8 0) Try.underlying37 hi hz0 hz1 hz2 rfl _ 0 [] rfl (World.ownsRow_nil _ _ _ _) _ rl rfl hu2 (by rw [Hrl256.out]; omega) (Nat.le_refl _) ?_; intro v' w1 hown hgrow)
            have hb : Below w.heap.size w w1 := (Below.refl _ _).grown hgrow (Nat.le_refl _) (by intro k hk; cases hk)
            rw [Nat.zero_add, List.nil_append] at hown
            go_ret2
            exact ⟨_, rfl, hown, hb⟩
      · have e : readS s n (k : Int) = ([], 30) := by
          have : inS n (k : Int) = false := by simp [inS]; omega
          simp [readS, hon, this]
        rw [e]; clear e
        clear hR hW
        go_enter Try.func55, Try.ntmps55
        go_wp2
        go_ret2
        exact ⟨_, rfl, World.ownsRow_nil _ _ _ _, Below.refl _ _⟩


end Go.Proofs.Ytjcmmigbkhiplaa
