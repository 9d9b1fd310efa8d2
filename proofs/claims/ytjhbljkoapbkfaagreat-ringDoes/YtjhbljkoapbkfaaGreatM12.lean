/- The document's own disk in memory (Dr); contracts of its readers: Image, Read. Contracts: the document's num and number. Contracts: the document's Bytes of a record. -/
import Derived.Test.YtjhbljkoapbkfaaGreatM10
import Derived.Test.YtjhbljkoapbkfaaGreatM3
import Derived.Deep.RegionHeld3
import Derived.Deep.RegionHeldLaw
set_option linter.unusedSimpArgs false
set_option linter.unusedVariables false

namespace Go.Proofs.YtjhbljkoapbkfaaGreat
open Go.RowKit Go.Attic

/-- The blocks of the medium stand in a row of slices. -/
structure BRows (w : World) (q p : Option Nat) (F : Nat → Prop) (v : Value) (n : Nat) (med : List Nat) (vs : List Value) : Prop where
  row : w.ownsRow 0 30 1 v n vs
  own : v.ownBlock = q
  bs : ∀ i (hv : i < vs.length), Bs w vs[i] (blockL med i) ∧ ∀ b, vs[i].ownBlock = some b → F b ∧ p ≠ some b ∧ q ≠ some b

/-- The document's disk stands in block g; the row of its blocks in block q, its pending writes in block p; what else it reads lies in F. -/
structure Dr (w : World) (g : Nat) (q p : Option Nat) (F : Nat → Prop) (n : Nat) (s : St) : Prop where
  c0 : ∃ v vs, w.cell? ⟨g, 0, none⟩ = some v ∧ BRows w q p F v n s.med vs
  c1 : ∃ v vs, w.cell? ⟨g, 1, none⟩ = some v ∧ Ws 103 w p F v s.pend vs ∧ ∀ i (hv : i < vs.length) b, vs[i].ownBlock = some b → q ≠ some b
  c2 : w.cell? ⟨g, 2, none⟩ = some (.bool (!s.on))
  c3 : w.cell? ⟨g, 3, none⟩ = some (.int .i64 (s.ops : Int))
  c4 : w.cell? ⟨g, 4, none⟩ = some (.int .i64 (s.left : Int))
  c5 : ∃ v pk, w.cell? ⟨g, 5, none⟩ = some v ∧ Bs w v pk ∧ (0 < s.left → pk = s.picks) ∧ pk.length ≤ 140737488355328 ∧ ∀ b, v.ownBlock = some b → F b ∧ p ≠ some b ∧ q ≠ some b
  f0 : w.frozen? ⟨g, 0, none⟩ = false
  f1 : w.frozen? ⟨g, 1, none⟩ = false
  f2 : w.frozen? ⟨g, 2, none⟩ = false
  f3 : w.frozen? ⟨g, 3, none⟩ = false
  f4 : w.frozen? ⟨g, 4, none⟩ = false
  f5 : w.frozen? ⟨g, 5, none⟩ = false
  qF : ∀ b, q = some b → F b ∧ p ≠ some b
  Fg : ¬ F g
  Fl : ∀ k, F k → k < w.heap.size
  ok : s.Ok n

theorem Dr.gl {w : World} {g : Nat} {q p : Option Nat} {F : Nat → Prop} {n : Nat} {s : St} (h : Dr w g q p F n s) : g < w.heap.size := by
  have := World.block_lt_of_cell? w _ h.c2; simpa using this

theorem BRows.keeps {w w' : World} {q p : Option Nat} {F S : Nat → Prop} {v : Value} {n : Nat} {med : List Nat} {vs : List Value} (h : BRows w q p F v n med vs) (hk : Keeps S w w') (hq : ∀ b, q = some b → ¬ S b) (hS : ∀ k, F k → ¬ S k) : BRows w' q p F v n med vs :=
  ⟨hk.owns h.row (fun b hb => hq b (h.own ▸ hb)), h.own, fun i hv => ⟨hk.bs (h.bs i hv).1 (fun b hb => hS b ((h.bs i hv).2 b hb).1), (h.bs i hv).2⟩⟩

theorem Dr.keeps {w w' : World} {g : Nat} {q p : Option Nat} {F S : Nat → Prop} {n : Nat} {s : St} (h : Dr w g q p F n s) (hk : Keeps S w w') (hg : ¬ S g) (hS : ∀ k, F k → ¬ S k) : Dr w' g q p F n s := by
  obtain ⟨v, vs, a1, a2⟩ := h.c0
  obtain ⟨v1, vs1, b1, b2, b3⟩ := h.c1
  obtain ⟨v5, pk, d1, d2, d3, d4, d5⟩ := h.c5
  have hl := h.gl
  exact ⟨⟨v, vs, hk.cell a1 hg, a2.keeps hk (fun b hb => hS b (h.qF b hb).1) hS⟩, ⟨v1, vs1, hk.cell b1 hg, b2.keeps hk hS, b3⟩, hk.cell h.c2 hg, hk.cell h.c3 hg, hk.cell h.c4 hg, ⟨v5, pk, hk.cell d1 hg, hk.bs d2 (fun b hb => hS b (d5 b hb).1), d3, d4, d5⟩,
    by rw [hk.frozen (a := ⟨g, 0, none⟩) hl hg]; exact h.f0, by rw [hk.frozen (a := ⟨g, 1, none⟩) hl hg]; exact h.f1, by rw [hk.frozen (a := ⟨g, 2, none⟩) hl hg]; exact h.f2, by rw [hk.frozen (a := ⟨g, 3, none⟩) hl hg]; exact h.f3, by rw [hk.frozen (a := ⟨g, 4, none⟩) hl hg]; exact h.f4, by rw [hk.frozen (a := ⟨g, 5, none⟩) hl hg]; exact h.f5,
    h.qF, h.Fg, fun k hk' => Nat.lt_of_lt_of_le (h.Fl k hk') hk.size, h.ok⟩

theorem Dr.mono {w w' : World} {g : Nat} {q p : Option Nat} {F : Nat → Prop} {n : Nat} {s : St} (h : Dr w g q p F n s) (hb : Below w.heap.size w w') : Dr w' g q p F n s :=
  h.keeps (S := fun _ => False) (Keeps.of_below hb) id (fun _ _ => id)

theorem BRows.len {w : World} {q p : Option Nat} {F : Nat → Prop} {v : Value} {n : Nat} {med : List Nat} {vs : List Value} (h : BRows w q p F v n med vs) : vs.length = n := by have := h.row.1; omega

theorem BRows.cell {w : World} {q p : Option Nat} {F : Nat → Prop} {v : Value} {n : Nat} {med : List Nat} {vs : List Value} (h : BRows w q p F v n med vs) (i : Nat) (hi : i < n) :
    ∃ b cap, v = .slice (some ⟨b, 0, none⟩) n cap ∧ q = some b ∧ w.cell? ⟨b, i, none⟩ = some (vs[i]'(by have := h.len; omega)) := by
  obtain ⟨ao, cap, rfl, _, hg⟩ := owns_form h.row
  obtain ⟨b, rfl, _⟩ := hg (by omega)
  have hl := h.len
  have e := h.row.cells (g := b) rfl i (vs[i]'(by omega)) (List.getElem?_eq_getElem (by omega))
  rw [Addr.add_lit, Nat.zero_add] at e
  exact ⟨b, cap, rfl, h.own.symm, e⟩

theorem take_block (med : List Nat) (i n : Nat) (hi : i < n) (hl : med.length = 256 * n) : med.take (256 * (i + 1)) = med.take (256 * i) ++ blockL med i := by
  rw [show 256 * (i + 1) = 256 * i + 256 by omega, List.take_add]
  rfl

theorem blockL_lt {med : List Nat} (h : ∀ x ∈ med, x < 256) (i : Nat) : ∀ x ∈ blockL med i, x < 256 := fun x hx => h x (List.mem_of_mem_drop (List.mem_of_mem_take hx))
theorem blockL_len (med : List Nat) (i n : Nat) (hi : i < n) (hl : med.length = 256 * n) : (blockL med i).length = 256 := by
  simp [blockL]; omega

set_option maxRecDepth 100000 in
set_option maxHeartbeats 1000000 in
theorem rimage_yes {w : World} {g : Nat} {q p : Option Nat} {F : Nat → Prop} {n : Nat} {s : St} (h : Dr w g q p F n s) :
    Calls Tryz.prog 37 #[.pointer (some ⟨g, 0, none⟩)] w (NewBs w s.med) := by
  obtain ⟨i0, hi, hz0, hz1, hz2⟩ := info_parts Tryz.info5
  obtain ⟨v, vs, c0, hR⟩ := h.c0
  have hn := h.ok.n2
  have hn1 := h.ok.n1
  have hl := h.ok.len
  have hlt := h.ok.lt
  have hvl := hR.len
  obtain ⟨b, cap, rfl⟩ : ∃ b cap, v = .slice (some ⟨b, 0, none⟩) n cap := by
    obtain ⟨b, cap, e, _⟩ := hR.cell 0 (by omega)
    exact ⟨b, cap, e⟩
  have hgl := h.gl
  have HR := hide hR
  have Hl := hide hl
  have Hvl := hide hvl
  clear hR hl hvl h
  go_enter Tryz.func37, Tryz.ntmps37
  go_wp2_with fail
  go_loopw [3, 4] (fun o i wr => ∃ k : Nat, k ≤ n ∧ i = .int .i64 k ∧ wr.ownsRow w.heap.size 5 1 o (256 * k) (cellsB (s.med.take (256 * k))) ∧ Below w.heap.size w wr) (fun _ i _ => n - (intOf i).toNat)
  case atStart => exact ⟨0, by omega, rfl, by simpa [cellsB] using World.ownsRow_nil _ _ _ _, Below.refl _ _⟩
  case round =>
    obtain ⟨k, hk, rfl, o1, b1⟩ := hrel
    have c0' := (Keeps.of_below (S := fun _ => False) b1).cell c0 id
    by_cases hkn : k < n
    · obtain ⟨b', cap', e1, _, ck⟩ := HR.out.cell k hkn
      injection e1 with e1 _ e3
      injection e1 with e1
      injection e1 with e1
      subst e1 e3
      have hbk := ((HR.out.bs k (by have := Hvl.out; omega)).1).mono b1
      have ck' := (Keeps.of_below (S := fun _ => False) b1).cell ck id
      generalize (vs[k]'(by have := Hvl.out; omega)) = vk at *
      have hlk := blockL_len s.med k n hkn Hl.out
      have htk := take_block s.med k n hkn Hl.out
      obtain ⟨vao, vcap, rfl, _⟩ := id hbk
      have zb := b1.size
      obtain ⟨oao, ocap, rfl⟩ := owns_slice o1
      rw [hlk] at ck' hbk
      have Hlk := hide hlk
      have Htk := hide htk
      clear hlk htk ck c0
      go_wp2_with (at_builtin; refine wpList_append_bs _ rfl (.tmp 14) (.tmp 21) 30 rfl w.heap.size 5 i0 (.int .u8 0) Tryz.underlying30 hi hz0 hz1 hz2 rfl _ _ (s.med.take (256 * k)) rfl o1 _ (blockL s.med k) rfl hbk (by rw [Hlk.out]; omega) (by omega) ?_; intro v' w2 hown hgrow)
      have b2 : Below w.heap.size w w2 := b1.grown hgrow zb (fun j hj => (o1.lt j hj).1)
      rw [Hlk.out, ← Htk.out] at hown
      have Hown := hide hown
      clear hown o1 hbk
      go_wp2_with fail
      go_roundw
      case rel => exact ⟨k + 1, by omega, by go_num, by have := Hown.out; rw [show 256 * (k + 1) = 256 * k + 256 by omega]; exact this, b2⟩
      case measure => simp [intOf]; omega
    · obtain rfl : k = n := by omega
      rw [List.take_of_length_le (by rw [Hl.out]; omega)] at o1
      go_wp2_with fail
      go_ret
      exact ⟨_, rfl, by rw [Hl.out]; exact o1, b1⟩

theorem lastW_take (ps : List (Nat × List Nat)) (k i : Nat) (hk : k < ps.length) : lastW (ps.take (k + 1)) i = if (ps[k]).1 = i then some (ps[k]).2 else lastW (ps.take k) i := by
  rw [List.take_add_one, List.getElem?_eq_getElem hk]
  exact lastW_append _ _ _

/-- A new slice and an error. -/
def NewBsD (w : World) (r : List Nat × Int) (e : Ending) (w' : World) : Prop :=
  ∃ v, e = .returned (.tuple #[v, .int .i64 r.2]) ∧ w'.ownsRow w.heap.size 5 1 v r.1.length (cellsB r.1) ∧ Below w.heap.size w w'

set_option maxRecDepth 100000 in
set_option maxHeartbeats 1000000 in
theorem rread_yes {w : World} {g : Nat} {q p : Option Nat} {F : Nat → Prop} {n : Nat} {s : St} (h : Dr w g q p F n s) (i : Int) (hpl : s.pend.length ≤ 1000000) :
    Calls Tryz.prog 52 #[.pointer (some ⟨g, 0, none⟩), .int .i64 i] w (NewBsD w (readS s n i)) := by
  obtain ⟨i0, hi, hz0, hz1, hz2⟩ := info_parts Tryz.info5
  obtain ⟨v, vs, c0, hR⟩ := h.c0
  obtain ⟨v1, vs1, c1, hW, _⟩ := h.c1
  have c2 := h.c2
  have hn1 := h.ok.n1
  have hn := h.ok.n2
  cases hon : s.on with
  | false =>
    have e : readS s n i = ([], 5) := by simp [readS, hon]
    rw [e]; clear e
    rw [hon] at c2
    clear hR hW
    go_enter Tryz.func52, Tryz.ntmps52
    go_wp2
    go_ret2
    exact ⟨_, rfl, World.ownsRow_nil _ _ _ _, Below.refl _ _⟩
  | true =>
    rw [hon] at c2
    obtain ⟨b, cap, rfl⟩ : ∃ b cap, v = .slice (some ⟨b, 0, none⟩) n cap := by
      obtain ⟨b, cap, e, _⟩ := hR.cell 0 (by omega)
      exact ⟨b, cap, e⟩
    by_cases h1 : i < 0
    · have e : readS s n i = ([], 30) := by
        have : inS n i = false := by simp [inS]; omega
        simp [readS, hon, this]
      rw [e]; clear e
      clear hR hW
      go_enter Tryz.func52, Tryz.ntmps52
      go_wp2
      go_ret2
      exact ⟨_, rfl, World.ownsRow_nil _ _ _ _, Below.refl _ _⟩
    · obtain ⟨k, rfl⟩ := Int.eq_ofNat_of_zero_le (show 0 ≤ i by omega)
      by_cases h2 : k < n
      · have e : readS s n (k : Int) = (readL s k, 0) := by
          have : inS n (k : Int) = true := by simp [inS]; omega
          simp [readS, hon, this]
        obtain ⟨rl, hrl⟩ : ∃ rl, readL s k = rl := ⟨_, rfl⟩
        rw [e, hrl]; clear e
        obtain ⟨b', cap', e1, _, ck⟩ := hR.cell k h2
        injection e1 with e1 _ e3
        injection e1 with e1
        injection e1 with e1
        subst e1 e3
        have hbk := (hR.bs k (by have := hR.len; omega)).1
        generalize (vs[k]'(by have := hR.len; omega)) = vk at *
        have hlk := blockL_len s.med k n h2 h.ok.len
        obtain ⟨vao, vcap, rfl, _⟩ := id hbk
        obtain ⟨pao, pcap, rfl⟩ := owns_slice hW.row
        have Hrl := hide hrl
        have HW := hide hW
        have Hlk := hide hlk
        have Hok := hide h.ok
        rw [hlk] at ck hbk
        clear hrl hW hlk hR hon
        have hbk0 : Bs w (.slice vao 256 vcap) ((lastW (s.pend.take 0) k).getD (blockL s.med k)) := by simpa [lastW] using hbk
        go_enter Tryz.func52, Tryz.ntmps52
        go_wp2_with fail
        go_loop [6, 7] (fun u j => ∃ m : Nat, m ≤ s.pend.length ∧ j = .int .i64 m ∧ ∃ ua uc, u = .slice ua 256 uc ∧ Bs w u ((lastW (s.pend.take m) k).getD (blockL s.med k))) (fun _ j => s.pend.length - (intOf j).toNat)
        case atStart => exact ⟨0, by omega, rfl, _, _, rfl, hbk0⟩
        case round =>
          obtain ⟨m, hm, rfl, ua, uc, rfl, hu⟩ := hrel
          clear hbk0
          by_cases hml : m < s.pend.length
          · obtain ⟨pb, pcap', e2, _, x1, x2⟩ := HW.out.cells m hml
            injection e2 with e2 _ e3
            subst e2 e3
            have hmv : m < vs1.length := by have := HW.out.len; omega
            have hbm := (HW.out.bs m hml hmv).1
            have hlt := lastW_take s.pend m k hml
            have hpl256 := (Hok.out.pend _ (List.getElem_mem hml)).2.1
            generalize (vs1[m]'hmv) = vm at *
            generalize s.pend[m] = pm at *
            obtain ⟨blk, byt⟩ := pm
            dsimp only at *
            obtain ⟨mao, mcap, rfl, _⟩ := id hbm
            rw [hpl256] at hbm x2
            clear hpl256
            by_cases hbe : blk = k
            · rw [if_pos hbe] at hlt
              subst hbe
              have Hlt := hide hlt
              clear hlt
              go_wp2_with fail
              go_round
              case rel => exact ⟨m + 1, by omega, by go_num, _, _, rfl, by rw [Hlt.out]; exact hbm⟩
              case measure => simp [intOf]; omega
            · rw [if_neg hbe] at hlt
              have hne : ((blk : Int) == (k : Int)) = false := by simp; omega
              have Hlt := hide hlt
              clear hlt
              go_wp2_with fail
              go_round
              case rel => exact ⟨m + 1, by omega, by go_num, _, _, rfl, by rw [Hlt.out]; exact hu⟩
              case measure => simp [intOf]; omega
          · obtain rfl : m = s.pend.length := by omega
            rw [List.take_of_length_le (Nat.le_refl _)] at hu
            have hu2 : Bs w (.slice ua 256 uc) rl := by rw [← Hrl.out]; exact hu
            have hrl256 : rl.length = 256 := hu2.len.symm
            have Hrl256 := hide hrl256
            clear hrl256 hu
            go_wp2_with (at_builtin; refine wpList_append_bs _ rfl (.const (.slice none 0 0)) (.tmp 57) 30 rfl w.heap.size 5 i0 (.int .u8 0) Tryz.underlying30 hi hz0 hz1 hz2 rfl _ 0 [] rfl (World.ownsRow_nil _ _ _ _) _ rl rfl hu2 (by rw [Hrl256.out]; omega) (Nat.le_refl _) ?_; intro v' w1 hown hgrow)
            have hb : Below w.heap.size w w1 := (Below.refl _ _).grown hgrow (Nat.le_refl _) (by intro k hk; cases hk)
            rw [Nat.zero_add, List.nil_append] at hown
            go_ret2
            exact ⟨_, rfl, hown, hb⟩
      · have e : readS s n (k : Int) = ([], 30) := by
          have : inS n (k : Int) = false := by simp [inS]; omega
          simp [readS, hon, this]
        rw [e]; clear e
        clear hR hW
        go_enter Tryz.func52, Tryz.ntmps52
        go_wp2
        go_ret2
        exact ⟨_, rfl, World.ownsRow_nil _ _ _ _, Below.refl _ _⟩


end Go.Proofs.YtjhbljkoapbkfaaGreat

namespace Go.Proofs.YtjhbljkoapbkfaaGreat
open Go.RowKit Go.Attic

theorem div_pow (n k : Nat) : n / 2 ^ (8 * k) / 256 = n / 2 ^ (8 * (k + 1)) := by
  rw [Nat.div_div_eq_div_mul, pow8, Nat.mul_comm]

set_option maxRecDepth 100000 in
set_option maxHeartbeats 400000 in
theorem rnum_own (base : Nat) (v : Value) (xs : List Nat) (n many : Nat) (w : World) (ho : w.ownsRow base 5 1 v xs.length (cellsB xs)) (hbs : base ≤ w.heap.size) (hn : n < 2 ^ 64) (hm : many ≤ 8) (hl : xs.length ≤ 1000) :
    Calls Tryz.prog 76 #[v, .int .u64 n, .int .i64 many] w fun e w' => ∃ v', e = .returned v' ∧ w'.ownsRow base 5 1 v' (xs.length + many) (cellsB (xs ++ numN many n)) ∧ Below base w w' ∧ base ≤ w'.heap.size := by
  obtain ⟨i0, hi, hz0, hz1, hz2⟩ := info_parts Tryz.info5
  have ho0 : w.ownsRow base 5 1 v (xs.length + 0) (cellsB (xs ++ numN 0 n)) := by simpa [numN] using ho
  have hn0 : n = n / 2 ^ (8 * 0) := by simp
  clear ho
  go_enter Tryz.func76, Tryz.ntmps76
  go_wp2_with fail
  go_loopw [0, 1, 7] (fun v n' i wr => ∃ k : Nat, k ≤ many ∧ i = .int .i64 k ∧ n' = .int .u64 (n / 2 ^ (8 * k) : Nat) ∧ wr.ownsRow base 5 1 v (xs.length + k) (cellsB (xs ++ numN k n)) ∧ Below base w wr ∧ base ≤ wr.heap.size) (fun _ _ i _ => many - (intOf i).toNat)
  case atStart => exact ⟨0, Nat.zero_le _, rfl, by rw [← hn0], ho0, Below.refl _ _, hbs⟩
  case round =>
    clear ho0 hn0
    obtain ⟨k, hk, rfl, rfl, hown, hb, hz⟩ := hrel
    by_cases hkn : k < many
    · have hdiv := hide (div_pow n k)
      have hq : n / 2 ^ (8 * k) < 2 ^ 64 := Nat.lt_of_le_of_lt (Nat.div_le_self _ _) hn
      have hsn := hide (numN_succ k n)
      generalize n / 2 ^ (8 * k) = q at *
      go_wp2_with (at_builtin; refine wpList_append_bs _ rfl (.tmp 13) (.tmp 16) 30 rfl base 5 i0 (.int .u8 0) Tryz.underlying30 hi hz0 hz1 hz2 rfl _ _ (xs ++ numN k n) rfl (hown.alloc _) _ [q % 256] rfl (Bs.one _ _ _ _ (by simp) (by omega)) (by simp; omega) (by simp; omega) ?_; intro v' w1 hown' hgrow)
      have hb1 : Below base w w1 := (hb.alloc hz _).grown hgrow (by simp; omega) (owns_lt hown)
      have hz1' : base ≤ w1.heap.size := Nat.le_trans hz (Nat.le_trans (by simp) hgrow.size)
      rw [List.append_assoc, ← hsn.out] at hown'
      clear hgrow hown
      go_wp2_with fail
      go_roundw
      case rel => exact ⟨k + 1, by omega, by go_num, by rw [← hdiv.out]; simp, hown', hb1, hz1'⟩
      case measure => simp [intOf]; omega
    · obtain rfl : k = many := by omega
      go_wp2_with fail
      go_ret
      exact ⟨_, rfl, hown, hb, hz⟩

/-- Bytes as a number, the highest first taken. -/
def hornN : List Nat → Nat
  | [] => 0
  | x :: t => hornN t * 256 + x
theorem hornN_lt {l : List Nat} (h : ∀ x ∈ l, x < 256) : hornN l < 256 ^ l.length := by
  induction l with
  | nil => simp [hornN]
  | cons x t ih =>
    have h1 := ih (fun y hy => h y (by simp [hy]))
    have h2 := h x (by simp)
    simp only [hornN, List.length_cons, Nat.pow_succ]
    omega
theorem getN_cons (x : Nat) (t : List Nat) (k : Nat) : getN (x :: t) 0 (k + 1) = getN t 0 k * 256 + x := by
  induction k with
  | zero => simp [getN]
  | succ k ih =>
    rw [show getN (x :: t) 0 (k + 1 + 1) = getN (x :: t) 0 (k + 1) + (x :: t).getD (0 + (k + 1)) 0 * 2 ^ (8 * (k + 1)) from rfl, ih,
      show getN t 0 (k + 1) = getN t 0 k + t.getD (0 + k) 0 * 2 ^ (8 * k) from rfl, pow8]
    simp only [Nat.zero_add, List.getD_cons_succ, Nat.add_mul]
    rw [Nat.mul_assoc, Nat.mul_comm (2 ^ (8 * k)) 256]
    omega
theorem hornN_get (l : List Nat) : hornN l = getN l 0 l.length := by
  induction l with
  | nil => rfl
  | cons x t ih => rw [List.length_cons, getN_cons, ← ih]; rfl
theorem hornN_drop (l : List Nat) (j : Nat) (h : j < l.length) : hornN (l.drop j) = hornN (l.drop (j + 1)) * 256 + l.getD j 0 := by
  rw [List.drop_eq_getElem_cons h]
  simp [hornN, List.getD, h]
theorem hornN_lt64 {l : List Nat} (h : ∀ x ∈ l, x < 256) (h8 : l.length ≤ 8) (j : Nat) : hornN (l.drop j) < 18446744073709551616 := by
  have h1 := hornN_lt (l := l.drop j) (fun x hx => h x (List.mem_of_mem_drop hx))
  have h2 : 256 ^ (l.drop j).length ≤ 256 ^ 8 := Nat.pow_le_pow_right (by omega) (by simp; omega)
  have h3 : (256 : Nat) ^ 8 = 18446744073709551616 := by decide
  omega

set_option maxRecDepth 100000 in
set_option maxHeartbeats 400000 in
theorem number_any (v : Value) (l : List Nat) (w : World) (h : Bs w v l) (h8 : l.length ≤ 8) :
    Calls Tryz.prog 92 #[v] w fun e w' => e = .returned (.int .u64 (getN l 0 l.length : Nat)) ∧ w = w' := by
  have hlt := h.lt
  rw [← hornN_get]
  obtain ⟨ao, cap, rfl, hl, hnn, hx, hc⟩ := h
  clear hx hnn hl
  go_enter Tryz.func92, Tryz.ntmps92
  go_wp2_with fail
  go_loop [3, 4] (fun s i => ∃ k : Nat, k ≤ l.length ∧ i = .int .i64 ((k : Int) - 1) ∧ s = .int .u64 (hornN (l.drop k) : Nat)) (fun _ i => (intOf i + 1).toNat)
  case atStart => exact ⟨l.length, Nat.le_refl _, by go_num, by simp [hornN]⟩
  case round =>
    obtain ⟨k, hk, rfl, rfl⟩ := hrel
    by_cases hk0 : 0 < k
    · obtain ⟨j, rfl⟩ : ∃ j, k = j + 1 := ⟨k - 1, by omega⟩
      obtain ⟨b, off, rfl, hcell⟩ := hc (by omega)
      have hck := hcell j (by omega)
      have hd := hornN_drop l j (by omega)
      have hb := hornN_lt64 hlt h8 j
      have hcl := getD_lt hlt j
      rw [hd] at hb
      have Hd := hide hd
      clear hd
      generalize hornN (l.drop (j + 1)) = q at *
      generalize l.getD j 0 = x at *
      rw [show ((j + 1 : Nat) : Int) - 1 = (j : Int) by omega]
      clear hcell hc
      go_wp2_with fail
      go_round
      case rel => exact ⟨j, by omega, by go_num, by rw [Hd.out]; go_num⟩
      case measure => simp [intOf]
    · obtain rfl : k = 0 := by omega
      go_wp2_with fail
      go_ret
      exact ⟨rfl, rfl⟩


end Go.Proofs.YtjhbljkoapbkfaaGreat

namespace Go.Proofs.YtjhbljkoapbkfaaGreat
open Go.RowKit Go.Attic

def slLen : Value → Nat
  | .slice _ n _ => n
  | _ => 0

set_option maxRecDepth 100000 in
set_option maxHeartbeats 400000 in
theorem rbytes_arg (p k b o m : Int) (v : Value) (l : List Nat) (w : World) (hv : Bs w v l) (h : placeB p = false) :
    Calls Tryz.prog 53 #[.int .i64 p, .agg #[.int .i64 k, .int .i64 b, .int .i64 o, v, .int .i64 m]] w (NewBsE w [] 1) := by
  obtain ⟨ao, cap, rfl, -⟩ := id hv
  by_cases h1 : p < 0
  · clear h
    go_enter Tryz.func53, Tryz.ntmps53
    go_wp2_with fail
    go_ret2
    exact ⟨_, rfl, World.ownsRow_nil _ _ _ _, (Below.refl _ w).alloc (Nat.le_refl _) _⟩
  · have h2 : 2305843009213693952 < p := by simp [placeB] at h; omega
    clear h
    go_enter Tryz.func53, Tryz.ntmps53
    go_wp2_with fail
    go_ret2
    exact ⟨_, rfl, World.ownsRow_nil _ _ _ _, (Below.refl _ w).alloc (Nat.le_refl _) _⟩

set_option maxRecDepth 100000 in
set_option maxHeartbeats 400000 in
theorem rbytes_rec (p k b o m : Int) (v : Value) (l : List Nat) (w : World) (hv : Bs w v l) (hlen : l.length ≤ 140737488355328) (h : placeB p = true) (h2 : chkR k b o m l.length ≠ 0) :
    Calls Tryz.prog 53 #[.int .i64 p, .agg #[.int .i64 k, .int .i64 b, .int .i64 o, v, .int .i64 m]] w (NewBsE w [] (chkR k b o m l.length)) := by
  obtain ⟨ao, cap, rfl, -⟩ := id hv
  have hc := fun w => rcheck_any k b o m l.length cap ao w hlen
  generalize chkR k b o m l.length = q at *
  have hq : (q != 0) = true := by simp [h2]
  have h3 : 0 ≤ p ∧ p ≤ 2305843009213693952 := by simpa [placeB] using h
  clear h2 h
  obtain ⟨h4, h5⟩ := h3
  go_enter Tryz.func53, Tryz.ntmps53
  go_wp2_with (go_at_call 50; refine (hc _).mono ?_; rintro e w1 ⟨rfl, hb1⟩)
  go_ret2
  exact ⟨_, rfl, World.ownsRow_nil _ _ _ _, ((Below.refl _ w).alloc (Nat.le_refl _) _).trans (hb1.mono (by simp))⟩

theorem RecAt.below {w w' : World} {g B : Nat} {k b o : Int} {v : Value} {m : Int} (h : RecAt w g k b o v m) (hb : Below B w w') (hB : g < B) : RecAt w' g k b o v m := by
  refine ⟨?_, ?_, ?_, ?_, ?_, ?_, ?_, ?_, ?_, ?_, Nat.lt_of_lt_of_le h.lt hb.size⟩
  · rw [hb.cell (p := ⟨g, 0, none⟩) hB]; exact h.c0
  · rw [hb.cell (p := ⟨g, 1, none⟩) hB]; exact h.c1
  · rw [hb.cell (p := ⟨g, 2, none⟩) hB]; exact h.c2
  · rw [hb.cell (p := ⟨g, 3, none⟩) hB]; exact h.c3
  · rw [hb.cell (p := ⟨g, 4, none⟩) hB]; exact h.c4
  · rw [hb.frozen (p := ⟨g, 0, none⟩) hB]; exact h.f0
  · rw [hb.frozen (p := ⟨g, 1, none⟩) hB]; exact h.f1
  · rw [hb.frozen (p := ⟨g, 2, none⟩) hB]; exact h.f2
  · rw [hb.frozen (p := ⟨g, 3, none⟩) hB]; exact h.f3
  · rw [hb.frozen (p := ⟨g, 4, none⟩) hB]; exact h.f4

/-- What stands while the document's bytes are laid: the record in its block, the row behind it. -/
structure Rm (w w1 : World) (k b o : Int) (vr : Value) (m : Int) (v : Value) (X : List Nat) : Prop where
  rcd : RecAt w1 w.heap.size k b o vr m
  own : w1.ownsRow (w.heap.size + 1) 5 1 v X.length (cellsB X)
  bel : Below w.heap.size w w1
  lt : w.heap.size + 1 ≤ w1.heap.size
theorem Rm.go {w w1 w2 : World} {k b o m : Int} {vr v v' : Value} {X Y : List Nat} (h : Rm w w1 k b o vr m v X) (hb : Below (w.heap.size + 1) w1 w2) (ho : w2.ownsRow (w.heap.size + 1) 5 1 v' Y.length (cellsB Y)) : Rm w w2 k b o vr m v' Y :=
  ⟨h.rcd.below hb (Nat.lt_succ_self _), ho, h.bel.trans (hb.mono (Nat.le_succ _)), Nat.le_trans h.lt hb.size⟩
theorem Rm.drew {w w1 : World} {k b o m : Int} {vr v : Value} {X : List Nat} (h : Rm w w1 k b o vr m v X) : Rm w w1.drew k b o vr m v X := h.go (Below.refl _ _).drew (World.ownsRow.drew h.own)
theorem Rm.alloc {w w1 : World} {k b o m : Int} {vr v : Value} {X : List Nat} (h : Rm w w1 k b o vr m v X) (x : Obj) : Rm w (w1.alloc x) k b o vr m v X := h.go ((Below.refl _ _).alloc h.lt x) (h.own.alloc _)
theorem Rm.grown {w w1 w2 : World} {k b o m : Int} {vr v v' : Value} {X Y : List Nat} (h : Rm w w1 k b o vr m v X) (ho : w2.ownsRow (w.heap.size + 1) 5 1 v' (X.length + Y.length) (cellsB (X ++ Y))) (hg : w1.grownBy w2 v.ownBlock) : Rm w w2 k b o vr m v' (X ++ Y) :=
  h.go ((Below.refl _ _).grown hg h.lt (owns_lt h.own)) (by rw [List.length_append]; exact ho)
theorem Rm.held {w w1 : World} {k b o m : Int} {vr v : Value} {X : List Nat} (h : Rm w w1 k b o vr m v X) : w1.cell? ⟨w.heap.size, 2, none⟩ = some (.int .i64 o) ∧ w1.cell? ⟨w.heap.size, 3, none⟩ = some vr := ⟨h.rcd.c2, h.rcd.c3⟩
theorem Rm.num {w w1 : World} {k b o m : Int} {vr v : Value} {X : List Nat} (h : Rm w w1 k b o vr m v X) (n many : Nat) (hn : n < 2 ^ 64) (hm : many ≤ 8) (hl : X.length ≤ 1000) :
    Calls Tryz.prog 76 #[v, .int .u64 n, .int .i64 many] w1 fun e w2 => ∃ v', e = .returned v' ∧ Rm w w2 k b o vr m v' (X ++ numN many n) := by
  refine (rnum_own (w.heap.size + 1) v X n many w1 h.own h.lt hn hm hl).mono ?_
  rintro e w2 ⟨v', rfl, ho, hb, -⟩
  exact ⟨v', rfl, h.go hb (by rw [List.length_append, numN_length]; exact ho)⟩

set_option maxRecDepth 100000 in
set_option maxHeartbeats 400000 in
theorem rbytes_P (p b o : Nat) (l : List Nat) (v : Value) (w : World) (hv : Bs w v l) (hp : p ≤ 2305843009213693952) (hb : b < 2048) (ho : o < 256) (h1 : 1 ≤ l.length) (h44 : l.length ≤ 44) (hok : chkR 1 b o 0 l.length = 0) :
    Calls Tryz.prog 53 #[.int .i64 (p : Nat), .agg #[.int .i64 1, .int .i64 (b : Nat), .int .i64 (o : Nat), v, .int .i64 0]] w (NewBsE w (sealN (bodyR p 1 b o l)) 0) := by
  obtain ⟨i0, hi, hz0, hz1, hz2⟩ := info_parts Tryz.info5
  obtain ⟨ao, cap, rfl, -, -, -, -⟩ := id hv
  have hc := fun w => rcheck_any 1 (b : Nat) (o : Nat) 0 l.length cap ao w (by omega)
  rw [hok] at hc
  clear hok
  have hR0 := RecAt.new w 1 (b : Nat) (o : Nat) (.slice ao l.length cap) 0
  have hwp : IntKind.u64.wrap (p : Int) = p := wrap_u64 _ (by omega)
  have hwq : IntKind.u64.wrap (b : Int) = b := wrap_u64 _ (by omega)
  go_enter Tryz.func53, Tryz.ntmps53
  go_wp2_with fail
  refine (hc _).mono ?_
  rintro e w1 ⟨rfl, hb1⟩
  have z1 : w.heap.size + 1 ≤ w1.heap.size := by have := hb1.size; simpa using this
  have hR1 := hR0.mono hb1
  have B1 : Below w.heap.size w w1 := ((Below.refl _ w).alloc (Nat.le_refl _) _).trans (hb1.mono (by simp))
  have o1 : (w1.alloc (.cells #[.int .u8 1, .int .u8 (l.length : Nat)] 5)).ownsRow (w.heap.size + 1) 5 1 (.slice (some ⟨w1.heap.size, 0, none⟩) 2 2) 2 (cellsB [1, l.length]) := World.ownsRow_lit w1 #[.int .u8 1, .int .u8 (l.length : Nat)] 2 z1 (by decide) rfl
  have hm0 : Rm w (w1.alloc (.cells #[.int .u8 1, .int .u8 (l.length : Nat)] 5)) 1 (b : Nat) (o : Nat) (.slice ao l.length cap) 0 (.slice (some ⟨w1.heap.size, 0, none⟩) 2 2) [1, l.length] := ⟨hR1.alloc _, o1, B1.alloc B1.size _, by simp; omega⟩
  clear hb1 hR0
  obtain ⟨c0, c1, c2, c3, c4, -, -, -, -, -, -⟩ := hR1
  go_wp2_with fail
  refine (hm0.num p 8 (by omega) (by decide) (by simp)).mono ?_
  rintro e w2 ⟨v2, rfl, hm1⟩
  clear hm0 o1 c0 c1 c2 c3 c4
  obtain ⟨c0, c1, c2, c3, c4, -, -, -, -, -, -⟩ := hm1.rcd
  go_wp2_with fail
  refine (hm1.num b 4 (by omega) (by decide) (by simp [numN_length])).mono ?_
  rintro e w3 ⟨v3, rfl, hm2⟩
  clear hm1 c0 c1 c2 c3 c4
  obtain ⟨c0, c1, c2, c3, c4, -, -, -, -, -, -⟩ := hm2.rcd
  go_wp2_with fail
  obtain ⟨X, hX⟩ : ∃ X, X = [1, l.length] ++ numN 8 p ++ numN 4 b := ⟨_, rfl⟩
  rw [← hX] at hm2
  have hlX : X.length = 14 := by rw [hX]; simp [numN_length]
  have HX := hide hX
  have HlX := hide hlX
  have hd := hm2.drew
  have hde := (hm2.alloc (.cells #[.int .u8 (IntKind.u8.wrap (o : Int)), .int .u8 0] 5)).drew
  have hbo : Bs (w3.alloc (.cells #[.int .u8 (IntKind.u8.wrap (o : Int)), .int .u8 0] 5)).drew (.slice (some ⟨w3.heap.size, 0, none⟩) 2 2) [(o : Nat), 0] := (Bs.lit _ 5 [(o : Nat), 0] _ (by rw [show IntKind.u8.wrap (o : Int) = o by rw [IntKind.wrap_u8]; omega]; rfl) (by simp <;> omega)).drew
  have hq1 : X.length + [(o : Nat), 0].length ≤ 140737488355328 := by rw [hlX]; simp
  have hq2 : (X ++ [(o : Nat), 0]).length + l.length ≤ 140737488355328 := by rw [List.length_append, hlX]; simp <;> omega
  clear hX hlX hm2 c0 c1 c2 c3 c4
  go_region_held_law (fun w' => w'.cell? ⟨w.heap.size, 2, none⟩ = some (.int .i64 (o : Nat)) ∧ w'.cell? ⟨w.heap.size, 3, none⟩ = some (.slice ao l.length cap)) (first | exact hd.held | exact hde.held | exact hm5.held | exact hm6.held)
    (first
    | (refine step_append_bs rfl (.tmp 43) (.tmp 47) 30 rfl (w.heap.size + 1) 5 i0 (.int .u8 0) Tryz.underlying30 hi hz0 hz1 hz2 rfl _ _ X rfl hde.own _ [(o : Nat), 0] rfl hbo hq1 hde.lt ?_; intro v5 w5 ho5 hg5; have hm5 := hde.grown ho5 hg5; clear ho5 hg5)
    | (refine step_append_bs rfl (.tmp 48) (.tmp 50) 30 rfl (w.heap.size + 1) 5 i0 (.int .u8 0) Tryz.underlying30 hi hz0 hz1 hz2 rfl _ _ (X ++ [(o : Nat), 0]) rfl hm5.own _ l rfl (hv.mono hm5.bel) hq2 hm5.lt ?_; intro v6 w6 ho6 hg6; have hm6 := hm5.grown ho6 hg6; clear ho6 hg6))
  obtain ⟨Y, hY⟩ : ∃ Y, Y = X ++ [(o : Nat), 0] ++ l := ⟨_, rfl⟩
  rw [← hY] at hm6
  have hlY : Y.length = 16 + l.length := by rw [hY, List.length_append, List.length_append, HlX.out]; rfl
  have hY2 : Y ++ zerosL (44 - l.length) = bodyR p 1 b (o : Nat) l := by
    rw [hY, HX.out]
    unfold bodyR
    simp only [List.append_assoc, List.nil_append]
  have hx : ∀ y ∈ Y ++ zerosL (44 - l.length), y < 256 := by
    rw [hY2]
    exact bodyR_lt _ _ _ _ _ (by omega) (by omega) (by first | omega | simp) hv.lt
  have HY := hide hY2
  have HlY := hide hlY
  have hm7 : Rm w w6 1 (b : Nat) (o : Nat) (.slice ao l.length cap) 0 v6 (Y ++ zerosL 0) := by rw [show zerosL 0 = [] from rfl, List.append_nil]; exact hm6
  clear hY hlY hY2 hm5 hm6 hde hd hbo hq1 hq2 HX HlX hc B1 z1
  go_simp
  go_wp2_with fail
  simp only [show IntKind.u8.wrap (o : Int) = (o : Int) by rw [IntKind.wrap_u8]; omega]
  go_loopw [7] (fun v wr => ∃ j : Nat, j ≤ 44 - l.length ∧ Rm w wr 1 (b : Nat) (o : Nat) (.slice ao l.length cap) 0 v (Y ++ zerosL j)) (fun v _ => 60 - slLen v)
  case atStart => exact ⟨0, by omega, hm7⟩
  case round =>
    clear hm7
    obtain ⟨j, hj, hm⟩ := hrel
    have hlen : (Y ++ zerosL j).length = 16 + l.length + j := by rw [List.length_append, HlY.out, zerosL_length]
    have hon := hm.own
    rw [hlen] at hon
    obtain ⟨ao1, cap1, rfl, hcap, -⟩ := owns_form hon
    clear hon
    have Hlen := hide hlen
    clear hlen
    by_cases hjn : j < 44 - l.length
    · have hma := hm.alloc (.cells #[.int .u8 0] 5)
      have hq1 : (Y ++ zerosL j).length + [0].length ≤ 140737488355328 := by rw [Hlen.out]; simp <;> omega
      go_wp2_with (at_builtin; refine wpList_append_bs _ rfl (.tmp 55) (.tmp 56) 30 rfl (w.heap.size + 1) 5 i0 (.int .u8 0) Tryz.underlying30 hi hz0 hz1 hz2 rfl _ _ (Y ++ zerosL j) rfl hma.own _ [0] rfl (Bs.one _ _ _ _ rfl (by decide)) hq1 hma.lt ?_; intro v' wy hoy hgy)
      have hm8 := hma.grown hoy hgy
      rw [List.append_assoc, ← zerosL_succ] at hm8
      have hs8 : slLen v' = 16 + l.length + (j + 1) := by
        have h8 := hm8.own
        rw [List.length_append, HlY.out, zerosL_length] at h8
        obtain ⟨_, _, rfl, -, -⟩ := owns_form h8
        rfl
      clear hoy hgy hma hm hq1
      go_roundw
      case rel => exact ⟨j + 1, by omega, hm8⟩
      case measure => simp only [slLen] at hs8 ⊢; omega
    · obtain rfl : j = 44 - l.length := by omega
      have hbs := Bs.of_owns hm.own hx
      have hs := sumN_lt (Y ++ zerosL (44 - l.length))
      have hq1 : (Y ++ zerosL (44 - l.length)).length = 60 := by rw [Hlen.out]; omega
      have Hq1 := hide hq1
      clear hq1
      go_wp2_with fail
      refine (rsum_any _ _ _ hbs (by rw [Hq1.out]; omega)).mono ?_
      rintro e wa ⟨rfl, rfl⟩
      go_wp2_with fail
      refine (hm.num _ 4 (by omega) (by decide) (by rw [Hq1.out]; omega)).mono ?_
      rintro e wb ⟨vx, rfl, hm9⟩
      have O1 : wb.ownsRow (w.heap.size + 1) 5 1 vx (sealN (bodyR p 1 b (o : Nat) l)).length (cellsB (sealN (bodyR p 1 b (o : Nat) l))) := by rw [← HY.out]; exact hm9.own
      have O := hide O1
      have B := hm9.bel
      clear O1
      clear hm9 hm hbs
      go_wp2_with fail
      go_ret2
      refine ⟨_, rfl, owns_base O.out (Nat.le_succ _), B⟩

set_option maxRecDepth 100000 in
set_option maxHeartbeats 400000 in
theorem rbytes_C (p m : Nat) (v : Value) (w : World) (hv : Bs w v []) (hp : p ≤ 2305843009213693952) (hm : m ≤ 65536) (hok : chkR 2 0 0 m 0 = 0) :
    Calls Tryz.prog 53 #[.int .i64 (p : Nat), .agg #[.int .i64 2, .int .i64 0, .int .i64 0, v, .int .i64 (m : Nat)]] w (NewBsE w (sealN (bodyR p 2 m 0 [])) 0) := by
  obtain ⟨i0, hi, hz0, hz1, hz2⟩ := info_parts Tryz.info5
  obtain ⟨ao, cap, rfl, -, -, -, -⟩ := id hv
  simp only [List.length_nil] at hv ⊢
  have hc := fun w => rcheck_any 2 0 0 (m : Nat) 0 cap ao w (by omega)
  rw [hok] at hc
  clear hok
  have hR0 := RecAt.new w 2 0 0 (.slice ao 0 cap) (m : Nat)
  have hwp : IntKind.u64.wrap (p : Int) = p := wrap_u64 _ (by omega)
  have hwq : IntKind.u64.wrap (m : Int) = m := wrap_u64 _ (by omega)
  go_enter Tryz.func53, Tryz.ntmps53
  go_wp2_with fail
  refine (hc _).mono ?_
  rintro e w1 ⟨rfl, hb1⟩
  have z1 : w.heap.size + 1 ≤ w1.heap.size := by have := hb1.size; simpa using this
  have hR1 := hR0.mono hb1
  have B1 : Below w.heap.size w w1 := ((Below.refl _ w).alloc (Nat.le_refl _) _).trans (hb1.mono (by simp))
  have o1 : (w1.alloc (.cells #[.int .u8 2, .int .u8 0] 5)).ownsRow (w.heap.size + 1) 5 1 (.slice (some ⟨w1.heap.size, 0, none⟩) 2 2) 2 (cellsB [2, 0]) := World.ownsRow_lit w1 #[.int .u8 2, .int .u8 0] 2 z1 (by decide) rfl
  have hm0 : Rm w (w1.alloc (.cells #[.int .u8 2, .int .u8 0] 5)) 2 0 0 (.slice ao 0 cap) (m : Nat) (.slice (some ⟨w1.heap.size, 0, none⟩) 2 2) [2, 0] := ⟨hR1.alloc _, o1, B1.alloc B1.size _, by simp; omega⟩
  clear hb1 hR0
  obtain ⟨c0, c1, c2, c3, c4, -, -, -, -, -, -⟩ := hR1
  go_wp2_with fail
  refine (hm0.num p 8 (by omega) (by decide) (by simp)).mono ?_
  rintro e w2 ⟨v2, rfl, hm1⟩
  clear hm0 o1 c0 c1 c2 c3 c4
  obtain ⟨c0, c1, c2, c3, c4, -, -, -, -, -, -⟩ := hm1.rcd
  go_wp2_with fail
  refine (hm1.num m 4 (by omega) (by decide) (by simp [numN_length])).mono ?_
  rintro e w3 ⟨v3, rfl, hm2⟩
  clear hm1 c0 c1 c2 c3 c4
  obtain ⟨c0, c1, c2, c3, c4, -, -, -, -, -, -⟩ := hm2.rcd
  go_wp2_with fail
  obtain ⟨X, hX⟩ : ∃ X, X = [2, 0] ++ numN 8 p ++ numN 4 m := ⟨_, rfl⟩
  rw [← hX] at hm2
  have hlX : X.length = 14 := by rw [hX]; simp [numN_length]
  have HX := hide hX
  have HlX := hide hlX
  have hd := hm2.drew
  have hde := (hm2.alloc (.cells #[.int .u8 0, .int .u8 0] 5)).drew
  have hbo : Bs (w3.alloc (.cells #[.int .u8 0, .int .u8 0] 5)).drew (.slice (some ⟨w3.heap.size, 0, none⟩) 2 2) [0, 0] := (Bs.lit _ 5 [0, 0] _ rfl (by simp <;> omega)).drew
  have hq1 : X.length + [0, 0].length ≤ 140737488355328 := by rw [hlX]; simp
  have hq2 : (X ++ [0, 0]).length + 0 ≤ 140737488355328 := by rw [List.length_append, hlX]; simp <;> omega
  clear hX hlX hm2 c0 c1 c2 c3 c4
  go_region_held_law (fun w' => w'.cell? ⟨w.heap.size, 2, none⟩ = some (.int .i64 0) ∧ w'.cell? ⟨w.heap.size, 3, none⟩ = some (.slice ao 0 cap)) (first | exact hd.held | exact hde.held | exact hm5.held | exact hm6.held)
    (first
    | (refine step_append_bs rfl (.tmp 43) (.tmp 47) 30 rfl (w.heap.size + 1) 5 i0 (.int .u8 0) Tryz.underlying30 hi hz0 hz1 hz2 rfl _ _ X rfl hde.own _ [0, 0] rfl hbo hq1 hde.lt ?_; intro v5 w5 ho5 hg5; have hm5 := hde.grown ho5 hg5; clear ho5 hg5)
    | (refine step_append_bs rfl (.tmp 48) (.tmp 50) 30 rfl (w.heap.size + 1) 5 i0 (.int .u8 0) Tryz.underlying30 hi hz0 hz1 hz2 rfl _ _ (X ++ [0, 0]) rfl hm5.own _ [] rfl (hv.mono hm5.bel) hq2 hm5.lt ?_; intro v6 w6 ho6 hg6; have hm6 := hm5.grown ho6 hg6; clear ho6 hg6))
  obtain ⟨Y, hY⟩ : ∃ Y, Y = X ++ [0, 0] ++ [] := ⟨_, rfl⟩
  rw [← hY] at hm6
  have hlY : Y.length = 16 := by rw [hY, List.length_append, List.length_append, HlX.out]; rfl
  have hY2 : Y ++ zerosL 44 = bodyR p 2 m 0 [] := by
    rw [hY, HX.out]
    unfold bodyR
    simp only [List.append_assoc, List.nil_append]
    rfl
  have hx : ∀ y ∈ Y ++ zerosL 44, y < 256 := by
    rw [hY2]
    exact bodyR_lt _ _ _ _ _ (by omega) (by omega) (by first | omega | simp) hv.lt
  have HY := hide hY2
  have HlY := hide hlY
  have hm7 : Rm w w6 2 0 0 (.slice ao 0 cap) (m : Nat) v6 (Y ++ zerosL 0) := by rw [show zerosL 0 = [] from rfl, List.append_nil]; exact hm6
  clear hY hlY hY2 hm5 hm6 hde hd hbo hq1 hq2 HX HlX hc B1 z1
  go_simp
  go_wp2_with fail
  simp only [show IntKind.u8.wrap (0 : Int) = 0 by decide]
  go_loopw [7] (fun v wr => ∃ j : Nat, j ≤ 44 ∧ Rm w wr 2 0 0 (.slice ao 0 cap) (m : Nat) v (Y ++ zerosL j)) (fun v _ => 60 - slLen v)
  case atStart => exact ⟨0, by omega, hm7⟩
  case round =>
    clear hm7
    obtain ⟨j, hj, hm⟩ := hrel
    have hlen : (Y ++ zerosL j).length = 16 + j := by rw [List.length_append, HlY.out, zerosL_length]
    have hon := hm.own
    rw [hlen] at hon
    obtain ⟨ao1, cap1, rfl, hcap, -⟩ := owns_form hon
    clear hon
    have Hlen := hide hlen
    clear hlen
    by_cases hjn : j < 44
    · have hma := hm.alloc (.cells #[.int .u8 0] 5)
      have hq1 : (Y ++ zerosL j).length + [0].length ≤ 140737488355328 := by rw [Hlen.out]; simp <;> omega
      go_wp2_with (at_builtin; refine wpList_append_bs _ rfl (.tmp 55) (.tmp 56) 30 rfl (w.heap.size + 1) 5 i0 (.int .u8 0) Tryz.underlying30 hi hz0 hz1 hz2 rfl _ _ (Y ++ zerosL j) rfl hma.own _ [0] rfl (Bs.one _ _ _ _ rfl (by decide)) hq1 hma.lt ?_; intro v' wy hoy hgy)
      have hm8 := hma.grown hoy hgy
      rw [List.append_assoc, ← zerosL_succ] at hm8
      have hs8 : slLen v' = 16 + (j + 1) := by
        have h8 := hm8.own
        rw [List.length_append, HlY.out, zerosL_length] at h8
        obtain ⟨_, _, rfl, -, -⟩ := owns_form h8
        rfl
      clear hoy hgy hma hm hq1
      go_roundw
      case rel => exact ⟨j + 1, by omega, hm8⟩
      case measure => simp only [slLen] at hs8 ⊢; omega
    · obtain rfl : j = 44 := by omega
      have hbs := Bs.of_owns hm.own hx
      have hs := sumN_lt (Y ++ zerosL 44)
      have hq1 : (Y ++ zerosL 44).length = 60 := by rw [Hlen.out]
      have Hq1 := hide hq1
      clear hq1
      go_wp2_with fail
      refine (rsum_any _ _ _ hbs (by rw [Hq1.out]; omega)).mono ?_
      rintro e wa ⟨rfl, rfl⟩
      go_wp2_with fail
      refine (hm.num _ 4 (by omega) (by decide) (by rw [Hq1.out]; omega)).mono ?_
      rintro e wb ⟨vx, rfl, hm9⟩
      have O1 : wb.ownsRow (w.heap.size + 1) 5 1 vx (sealN (bodyR p 2 m 0 [])).length (cellsB (sealN (bodyR p 2 m 0 []))) := by rw [← HY.out]; exact hm9.own
      have O := hide O1
      have B := hm9.bel
      clear O1
      clear hm9 hm hbs
      go_wp2_with fail
      go_ret2
      refine ⟨_, rfl, owns_base O.out (Nat.le_succ _), B⟩

theorem rbytes_yes (p k b o m : Nat) (v : Value) (l : List Nat) (w : World) (hv : Bs w v l) (hp : p ≤ 2305843009213693952) (h : okR k b o m l.length) :
    Calls Tryz.prog 53 #[.int .i64 (p : Nat), .agg #[.int .i64 (k : Nat), .int .i64 (b : Nat), .int .i64 (o : Nat), v, .int .i64 (m : Nat)]] w (NewBsE w (secR p k b o m l) 0) := by
  have hk := chkR_ok h
  have r := okR_range h
  rcases h with h | h
  · obtain ⟨h1, h2, h3, h4, h5, h6, h7, h8⟩ := h
    obtain rfl : k = 1 := by omega
    obtain rfl : m = 0 := by omega
    exact rbytes_P p b o l v w hv hp (by omega) (by omega) h4 h5 hk
  · obtain ⟨h1, h2, h3, h4, h5, h6⟩ := h
    obtain rfl : k = 2 := by omega
    obtain rfl : b = 0 := by omega
    obtain rfl : o = 0 := by omega
    obtain rfl : l = [] := List.eq_nil_of_length_eq_zero h6
    exact rbytes_C p m v w hv hp (by omega) hk


end Go.Proofs.YtjhbljkoapbkfaaGreat
