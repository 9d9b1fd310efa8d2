/- The document's cache with its disk (RD); contracts: Read, Write. Contract: Write of the document's cache; a buffer turned (RDx.reset). Contract: Dirty of the document's cache. -/
import Derived.Test.YtjcmmigbkhiplaaT3
set_option linter.unusedSimpArgs false
set_option linter.unusedVariables false
namespace Go.Proofs.Ytjcmmigbkhiplaa
open Go.RowKit Go.Attic

theorem comeL_len (room : Nat) (s : St) (A : List En) (i : Nat) : (comeL room s A i).1.length ≤ A.length := by
  unfold comeL
  split
  · exact List.length_filter_le _ _
  · split
    · split
      · exact Nat.le_refl _
      · split
        · exact Nat.le_refl _
        · exact List.length_filter_le _ _
    · split <;> exact Nat.le_refl _

def RD (w : World) (c g : Nat) (S : Nat → Prop) (room n : Nat) (s : St) (A : List En) : Prop :=
  ∃ E F q p Fd, RDx w c g S room n s E F q p Fd ∧ E.map Prod.fst = A

section
variable {w w' : World} {c g : Nat} {S : Nat → Prop} {room n : Nat} {s : St} {A : List En}

theorem RD.mono (h : RD w c g S room n s A) (hb : Below w.heap.size w w') : RD w' c g S room n s A := by
  obtain ⟨E, F, q, p, Fd, h1, h2⟩ := h
  exact ⟨E, F, q, p, Fd, h1.mono hb, h2⟩
theorem RD.keeps {T : Nat → Prop} (h : RD w c g S room n s A) (hk : Keeps T w w') (hT : ∀ k, S k → ¬ T k) : RD w' c g S room n s A := by
  obtain ⟨E, F, q, p, Fd, h1, h2⟩ := h
  exact ⟨E, F, q, p, Fd, h1.keeps hk hT, h2⟩
theorem RD.lt (h : RD w c g S room n s A) : ∀ k, S k → k < w.heap.size := by
  obtain ⟨E, F, q, p, Fd, h1, h2⟩ := h
  exact h1.lt

def RT (w : World) (c g : Nat) (S : Nat → Prop) (room n : Nat) (s : St) (A : List En) (w' : World) (S' : Nat → Prop) : Prop :=
  RD w' c g S' room n s A ∧ Keeps S w w' ∧ ∀ k, S' k → S k ∨ w.heap.size ≤ k

theorem RT.refl (h : RD w c g S room n s A) : RT w c g S room n s A w S := ⟨h, Keeps.refl _ _, fun k hk => .inl hk⟩
theorem RT.below (h : RD w c g S room n s A) (hb : Below w.heap.size w w') : RT w c g S room n s A w' S := ⟨h.mono hb, Keeps.of_below hb, fun k hk => .inl hk⟩

theorem NodupE.of {E : List (En × Value)} (h : (E.map Prod.fst).Pairwise (fun x y => x.i ≠ y.i)) : NodupE E := by
  unfold NodupE
  rwa [List.pairwise_map] at h

/-- comes, by what the cache holds. -/
theorem rcome_ok {E : List (En × Value)} {F : Nat → Prop} {q p : Option Nat} {Fd : Nat → Prop} (i : Nat) (h : RDx w c g S room n s E F q p Fd) (hn : E.length ≤ 256) (hnd : NodupE E) (hi : i < n) (hr0 : 1 ≤ room) (hr2 : room ≤ 256) (hpl : s.pend.length ≤ 1000000) {A1 : List En} {y : En} (hr : comeL room s (E.map Prod.fst) i = (A1, y, 0)) :
    Calls Try.prog 37 #[.pointer (some ⟨c, 0, none⟩), .int .i64 (i : Int)] w (RCame w c g S room n s F q p Fd A1 y) := by
  refine (rcome_any i h hn hnd hi hr0 hr2 hpl).mono ?_
  rintro e w' (⟨_, h1⟩ | ⟨h0, _⟩)
  · rw [hr] at h1; exact h1
  · rw [hr] at h0; exact absurd rfl h0
theorem rcome_bad {E : List (En × Value)} {F : Nat → Prop} {q p : Option Nat} {Fd : Nat → Prop} (i : Nat) (h : RDx w c g S room n s E F q p Fd) (hn : E.length ≤ 256) (hnd : NodupE E) (hi : i < n) (hr0 : 1 ≤ room) (hr2 : room ≤ 256) (hpl : s.pend.length ≤ 1000000) {A1 : List En} {y : En} {er : Int} (hr : comeL room s (E.map Prod.fst) i = (A1, y, er)) (her : er ≠ 0) :
    Calls Try.prog 37 #[.pointer (some ⟨c, 0, none⟩), .int .i64 (i : Int)] w fun e w' => e = .returned (.int .i64 er) ∧ Below w.heap.size w w' := by
  refine (rcome_any i h hn hnd hi hr0 hr2 hpl).mono ?_
  rintro e w' (⟨h0, _⟩ | ⟨_, h1⟩)
  · rw [hr] at h0; exact absurd h0 her
  · rw [hr] at h1; exact h1

theorem Dr.front {w : World} {g : Nat} {q p : Option Nat} {F : Nat → Prop} {n : Nat} {s : St} (h : Dr w g q p F n s) : ∃ ao cap, w.cell? ⟨g, 0, none⟩ = some (.slice ao n cap) := by
  obtain ⟨v, vs, c0, hR⟩ := h.c0
  obtain ⟨b, cap, e, _⟩ := hR.cell 0 (by have := h.ok.n1; omega)
  exact ⟨_, cap, by rw [← e]; exact c0⟩

def RdOut (w : World) (c g : Nat) (S : Nat → Prop) (room n : Nat) (s : St) (r : List En × List Nat × Int) (e : Ending) (w' : World) : Prop :=
  ∃ v S', e = .returned (.tuple #[v, .int .i64 r.2.2]) ∧ w'.ownsRow w.heap.size 5 1 v r.2.1.length (cellsB r.2.1) ∧ RT w c g S room n s r.1 w' S' ∧ ∀ k, v.ownBlock = some k → ¬ S' k

set_option maxRecDepth 100000 in
set_option maxHeartbeats 2000000 in
theorem rread_c (h : RD w c g S room n s A) (hn : A.length ≤ 256) (hnd : A.Pairwise (fun x y => x.i ≠ y.i)) (i : Int) (hpl : s.pend.length ≤ 1000000) (hr0 : 1 ≤ room) (hr2 : room ≤ 256) :
    Calls Try.prog 13 #[.pointer (some ⟨c, 0, none⟩), .int .i64 i] w (RdOut w c g S room n s (readC room n s A i)) := by
  obtain ⟨i5, hi5, hy0, hy1, hy2⟩ := info_parts Try.info5
  have h0 := h
  obtain ⟨E, F, q, p, Fd, h, rfl⟩ := h
  have hnd := NodupE.of hnd
  rw [List.length_map] at hn
  have c0 := h.rc.c0
  obtain ⟨da, dc, g0⟩ := h.dr.front
  have hn2 := h.dr.ok.n2
  by_cases hin0 : i < 0
  · have e : readC room n s (E.map Prod.fst) i = (E.map Prod.fst, [], 30) := by
      have : Go.Attic.inS n i = false := by simp [Go.Attic.inS]; omega
      simp [readC, this]
    rw [e]
    have H0 := hide h0
    clear h h0 e hnd
    go_enter Try.func13, Try.ntmps13
    go_wp2_with fail
    go_ret2
    exact ⟨_, S, rfl, by simpa [cellsB] using World.ownsRow_nil _ _ _ _, RT.refl H0.out, by simp [Value.ownBlock]⟩
  by_cases hin1 : (n : Int) ≤ i
  · have e : readC room n s (E.map Prod.fst) i = (E.map Prod.fst, [], 30) := by
      have : Go.Attic.inS n i = false := by simp [Go.Attic.inS]; omega
      simp [readC, this]
    rw [e]
    have H0 := hide h0
    clear h h0 e hnd
    go_enter Try.func13, Try.ntmps13
    go_wp2_with fail
    go_ret2
    exact ⟨_, S, rfl, by simpa [cellsB] using World.ownsRow_nil _ _ _ _, RT.refl H0.out, by simp [Value.ownBlock]⟩
  have hin : Go.Attic.inS n i = true := by simp [Go.Attic.inS]; omega
  obtain ⟨k, rfl, hk⟩ := in_nat hin
  have hkn : ¬ (n : Int) ≤ (k : Int) := by omega
  have hk0 : ¬ (k : Int) < 0 := by omega
  obtain ⟨A1, y, er, hr⟩ : ∃ A1 y er, comeL room s (E.map Prod.fst) k = (A1, y, er) := ⟨_, _, _, rfl⟩
  by_cases her : er = 0
  · subst her
    have e : readC room n s (E.map Prod.fst) (k : Int) = (A1 ++ [y], y.l, 0) := by simp [readC, hin, hr]
    rw [e]
    have hc := rcome_ok k h hn hnd hk hr0 hr2 hpl hr
    have hap := h.inS
    have Hap := hide hap
    have Hc := hide hc
    have hlA := comeL_len room s (E.map Prod.fst) k
    rw [hr, List.length_map] at hlA
    have hlA2 : A1.length ≤ 256 := Nat.le_trans hlA hn
    clear hlA
    clear h h0 e hr hc hin hnd hap
    go_enter Try.func13, Try.ntmps13
    go_wp2_with fail
    refine Hc.out.mono ?_
    rintro e w1 ⟨rfl, E1, vy, F', S', h1, rfl, hk1, hS1, hF1⟩
    obtain ⟨v, x2, hE⟩ := h1.rc.c2
    obtain ⟨ao, cap, rfl, -⟩ := hE.slice
    have hl1 : (E1 ++ [(y, vy)]).length = E1.length + 1 := by simp
    rw [hl1] at x2 hE
    obtain ⟨b, u, cu, rfl, e2, -, k1, -, hbs, hyl⟩ := hE.at E1.length (by simp)
    rw [List.length_map] at hlA2
    obtain ⟨m, hm⟩ : ∃ m, E1.length = m := ⟨_, rfl⟩
    rw [hm] at hlA2
    have hEm : (E1 ++ [(y, vy)])[E1.length]'(by simp) = (y, vy) := by simp
    rw [hEm] at e2 hbs hyl
    rw [hm] at x2 k1
    simp only at e2 hbs hyl
    subst e2
    obtain ⟨nE, hnE⟩ : ∃ k, m + 1 = k := ⟨_, rfl⟩
    rw [hnE] at x2
    have hm1 : (nE : Int) - 1 = (m : Int) := by omega
    have hm2 : (m : Int) < (nE : Int) := by omega
    have hm3 : (0 : Int) ≤ (m : Int) := by omega
    have hm4 : nE ≤ 257 := by omega
    have hwm : IntKind.i64.wrap (m : Int) = (m : Int) := by rw [IntKind.wrap_i64]; omega
    clear hnE
    have H1 := hide h1
    have Hbs := hide hbs
    have Hyl := hide hyl
    clear h1 hE hbs hyl hEm hl1 hm
    have hw1z := hk1.size
    have hbsd := Hbs.out.drew
    go_wp2_with fail
    go_region_law (first
      | (refine step_append_bs rfl (.const (.slice none 0 0)) (.tmp 39) 37 rfl w1.heap.size 5 i5 (.int .u8 0) Try.underlying37 hi5 hy0 hy1 hy2 rfl (.slice none 0 0) 0 [] rfl (World.ownsRow_nil _ _ _ _) _ y.l rfl hbsd (by rw [Hyl.out]; omega) (Nat.le_refl _) ?_
         intro v2 w2 ho2 hg2
         skip))
    all_goals
      have hb2 : Below w1.heap.size w1 w2 := ⟨hg2.os, hg2.tape, hg2.output, hg2.size, fun k hk => hg2.block k hk (by simp [Value.ownBlock])⟩
      rw [Nat.zero_add, List.nil_append] at ho2
      have Ho2 := hide ho2
      clear ho2 hg2
      go_wp2_with fail
      go_ret2
      refine ⟨v2, S', rfl, owns_base Ho2.out hw1z, ⟨⟨_, _, _, _, _, H1.out.mono hb2, by simp⟩, (hk1.mono (fun j hj => Hap.out j (.inl hj))).trans (Keeps.of_below hb2), hS1⟩, fun j hj hs => ?_⟩
      have := H1.out.lt j hs
      have := owns_lt Ho2.out j hj
      omega
  · have e : readC room n s (E.map Prod.fst) (k : Int) = (E.map Prod.fst, [], er) := by simp [readC, hin, hr, her]
    rw [e]
    have hc := rcome_bad k h hn hnd hk hr0 hr2 hpl hr her
    have hnb : (er != 0) = true := by simp [her]
    have H0 := hide h0
    have Hc := hide hc
    clear h h0 e hr hc hin hnd
    go_enter Try.func13, Try.ntmps13
    go_wp2_with fail
    refine Hc.out.mono ?_
    rintro e w1 ⟨rfl, hb1⟩
    go_wp2_with fail
    go_ret2
    exact ⟨_, S, rfl, by simpa [cellsB] using World.ownsRow_nil _ _ _ _, RT.below H0.out hb1, by simp [Value.ownBlock]⟩

end

end Go.Proofs.Ytjcmmigbkhiplaa

set_option linter.unusedSimpArgs false
set_option linter.unusedVariables false
namespace Go.Proofs.Ytjcmmigbkhiplaa
open Go.RowKit Go.Attic

theorem cellsE_set {E : List (En × Value)} (k : Nat) (hk : k < E.length) (y : En) (v : Value) (hi : y.i = (E[k]).1.i) :
    cellsE (E.set k (y, v)) = ((cellsE E).set (k * 3 + 1) v).set (k * 3 + 2) (.bool y.d) := by
  induction E generalizing k with
  | nil => simp at hk
  | cons x E ih =>
    cases k with
    | zero =>
      simp only [List.getElem_cons_zero] at hi
      simp [cellsE, hi]
    | succ k =>
      have hk' : k < E.length := by simpa using hk
      have := ih k hk' (by simpa using hi)
      simp only [cellsE, List.set_cons_succ, List.flatMap_cons, List.cons_append, List.nil_append] at this ⊢
      have e1 : (k + 1) * 3 = k * 3 + 1 + 1 + 1 := by omega
      rw [this, e1]
      simp only [List.set_cons_succ]

section
variable {w w' : World} {c g : Nat} {S : Nat → Prop} {room n : Nat} {s : St} {E : List (En × Value)} {F : Nat → Prop} {q p : Option Nat} {Fd : Nat → Prop}

/-- A buffer turned where it stood. -/
theorem RDx.reset {w3 : World} {E' : List (En × Value)} {v v' : Value} {y' : En} (h : RDx w c g S room n s E F q p Fd) (hc2 : w.cell? ⟨c, 2, none⟩ = some v) (hE : Es w F v E) (hk : Keeps (fun k => v.ownBlock = some k) w w3)
    (ho : w3.ownsRow 0 86 3 v E'.length (cellsE E')) (hs : ∀ x ∈ E', x ∈ E ∨ x = (y', v')) (hy : Bs w3 v' y'.l ∧ y'.l.length = 256) (hv : ∀ b, v'.ownBlock = some b → (F b ∨ (w.heap.size ≤ b ∧ b < w3.heap.size)) ∧ v.ownBlock ≠ some b) :
    ∃ F' S', RDx w3 c g S' room n s E' F' q p Fd ∧ Keeps (fun k => k = c ∨ F k) w w3 ∧ (∀ k, S' k → S k ∨ w.heap.size ≤ k) ∧ ∀ k, F' k → F k ∨ w.heap.size ≤ k := by
  have hcl := h.rc.cl
  have hz := hk.size
  have hcv : ¬ (v.ownBlock = some c) := fun e => h.rc.Fc (hE.pF c e)
  have hEs : Es w3 (fun k => F k ∨ v'.ownBlock = some k) v E' := by
    refine ⟨ho, fun b hb => .inl (hE.pF b hb), fun x hx => ?_⟩
    rcases hs x hx with hm | rfl
    · obtain ⟨⟨h1, h2⟩, h3⟩ := hE.bs x hm
      exact ⟨⟨hk.bs h1 (fun b hb e => (h3 b hb).2 e), h2⟩, fun b hb => ⟨.inl (h3 b hb).1, (h3 b hb).2⟩⟩
    · exact ⟨hy, fun b hb => ⟨.inr hb, (hv b hb).2⟩⟩
  have hRc : Rc w3 c g room E' (fun k => F k ∨ v'.ownBlock = some k) := by
    refine ⟨hk.cell h.rc.c0 hcv, hk.cell h.rc.c1 hcv, ⟨v, hk.cell hc2 hcv, hEs⟩, by rw [hk.frozen (a := ⟨c, 2, none⟩) hcl hcv]; exact h.rc.f2, ?_, ?_⟩
    · rintro (e | e)
      · exact h.rc.Fc e
      · rcases (hv c e).1 with h1 | h1
        · exact h.rc.Fc h1
        · omega
    · rintro k (e | e)
      · exact Nat.lt_of_lt_of_le (h.rc.Fl k e) hz
      · rcases (hv k e).1 with h1 | h1
        · exact Nat.lt_of_lt_of_le (h.rc.Fl k h1) hz
        · exact h1.2
  have hkk : Keeps (fun k => k = c ∨ F k) w w3 := hk.mono (fun k e => .inr (hE.pF k e))
  have hF' : ∀ k, (F k ∨ v'.ownBlock = some k) → F k ∨ w.heap.size ≤ k := by
    rintro k (e | e)
    · exact .inl e
    · exact (hv k e).1.imp id (fun h => h.1)
  obtain ⟨S', h3, h4⟩ := h.turned hRc hkk hF'
  exact ⟨_, S', h3, hkk, h4, hF'⟩

end

section
variable {w w' : World} {c g : Nat} {S : Nat → Prop} {room n : Nat} {s : St} {A : List En}

/-- What Write leaves. -/
def WrOut (w : World) (c g : Nat) (S : Nat → Prop) (room n : Nat) (s : St) (r : List En × Int) (e : Ending) (w' : World) : Prop :=
  e = .returned (.int .i64 r.2) ∧ ∃ S', RT w c g S room n s r.1 w' S'

set_option maxRecDepth 100000 in
set_option maxHeartbeats 2000000 in
theorem rwrite_c (h : RD w c g S room n s A) (hn : A.length ≤ 256) (hnd : A.Pairwise (fun x y => x.i ≠ y.i)) (i off : Int) (vb : Value) (b : List Nat) (hvb : Bs w vb b) (hvS : 0 < b.length → ∀ k, vb.ownBlock = some k → ¬ S k) (hbl : b.length ≤ 140737488355328) (hpl : s.pend.length ≤ 1000000) (hr0 : 1 ≤ room) (hr2 : room ≤ 256) :
    Calls Try.prog 17 #[.pointer (some ⟨c, 0, none⟩), .int .i64 i, .int .i64 off, vb] w (WrOut w c g S room n s (writeC room n s A i off b)) := by
  obtain ⟨i5, hi5, hy0, hy1, hy2⟩ := info_parts Try.info5
  have h0 := h
  obtain ⟨E, F, q, p, Fd, h, rfl⟩ := h
  have hnd := NodupE.of hnd
  rw [List.length_map] at hn
  have c0 := h.rc.c0
  obtain ⟨da, dc, g0⟩ := h.dr.front
  have hn2 := h.dr.ok.n2
  have hvb0 := hvb
  obtain ⟨ao, cap, rfl, hcap, hvn, hvl, hvc⟩ := hvb
  have Hvb := hide hvb0
  have HvS := hide hvS
  have Hvl := hide hvl
  clear hvb0 hvS hvc hvn
  by_cases hin0 : i < 0
  · have e : writeC room n s (E.map Prod.fst) i off b = (E.map Prod.fst, 30) := by
      have : Go.Attic.inS n i = false := by simp [Go.Attic.inS]; omega
      simp [writeC, this]
    rw [e]
    have H0 := hide h0
    clear h h0 e hnd
    go_enter Try.func17, Try.ntmps17
    go_wp2_with fail
    go_ret
    exact ⟨rfl, S, RT.refl H0.out⟩
  by_cases hin1 : (n : Int) ≤ i
  · have e : writeC room n s (E.map Prod.fst) i off b = (E.map Prod.fst, 30) := by
      have : Go.Attic.inS n i = false := by simp [Go.Attic.inS]; omega
      simp [writeC, this]
    rw [e]
    have H0 := hide h0
    clear h h0 e hnd
    go_enter Try.func17, Try.ntmps17
    go_wp2_with fail
    go_ret
    exact ⟨rfl, S, RT.refl H0.out⟩
  have hin : Go.Attic.inS n i = true := by simp [Go.Attic.inS]; omega
  obtain ⟨k, rfl, hk⟩ := in_nat hin
  have hkn : ¬ (n : Int) ≤ (k : Int) := by omega
  have hk0 : ¬ (k : Int) < 0 := by omega
  by_cases hoff : off < 0 ∨ 256 - (b.length : Int) < off
  · have e : writeC room n s (E.map Prod.fst) (k : Int) off b = (E.map Prod.fst, 1) := by simp [writeC, hin, hoff]
    rw [e]
    have H0 := hide h0
    clear h h0 e hnd hin
    by_cases ho0 : off < 0
    · clear hoff
      go_enter Try.func17, Try.ntmps17
      go_wp2_with fail
      go_ret
      exact ⟨rfl, S, RT.refl H0.out⟩
    · by_cases ho1 : 256 < off
      · clear hoff
        go_enter Try.func17, Try.ntmps17
        go_wp2_with fail
        go_ret
        exact ⟨rfl, S, RT.refl H0.out⟩
      · have hgt : 256 - off < (b.length : Int) := by omega
        clear hoff
        go_enter Try.func17, Try.ntmps17
        go_wp2_with fail
        go_ret
        exact ⟨rfl, S, RT.refl H0.out⟩
  have ho0 : ¬ off < 0 := by omega
  have ho1 : ¬ 256 < off := by omega
  have hgt : ¬ 256 - off < (b.length : Int) := by omega
  obtain ⟨A1, y, er, hr⟩ : ∃ A1 y er, comeL room s (E.map Prod.fst) k = (A1, y, er) := ⟨_, _, _, rfl⟩
  by_cases her : er = 0
  · subst her
    have e : writeC room n s (E.map Prod.fst) (k : Int) off b = (A1 ++ [putE y off.toNat b], 0) := by simp [writeC, hin, hoff, hr]
    rw [e]
    have hc := rcome_ok k h hn hnd hk hr0 hr2 hpl hr
    have hap := h.inS
    have Hap := hide hap
    have Hc := hide hc
    have hlA := comeL_len room s (E.map Prod.fst) k
    rw [hr, List.length_map] at hlA
    have hlA2 : A1.length ≤ 256 := Nat.le_trans hlA hn
    clear h h0 e hr hc hin hnd hap hlA
    by_cases hb0 : b = []
    · subst hb0
      simp only [List.length_nil] at *
      go_enter Try.func17, Try.ntmps17
      go_wp2_with fail
      refine Hc.out.mono ?_
      rintro e w1 ⟨rfl, E1, vy, F', S', h1, rfl, hk1, hS1, hF1⟩
      have H1 := hide h1
      clear h1
      go_wp2_with fail
      go_ret
      exact ⟨rfl, S', ⟨_, _, _, _, _, H1.out, by simp [putE]⟩, hk1.mono (fun j hj => Hap.out j (.inl hj)), hS1⟩
    · have hb1 : 0 < b.length := List.length_pos_iff.2 hb0
      obtain ⟨o, rfl⟩ : ∃ o : Nat, off = o := ⟨off.toNat, by omega⟩
      have ho256 : o + b.length ≤ 256 := by omega
      have Hb0 := hide hb0
      clear hb0 hoff
      go_enter Try.func17, Try.ntmps17
      go_wp2_with fail
      refine Hc.out.mono ?_
      rintro e w1 ⟨rfl, E1, vy, F', S', h1, rfl, hk1, hS1, hF1⟩
      have hkS : Keeps S w w1 := hk1.mono (fun j hj => Hap.out j (.inl hj))
      obtain ⟨v, x2, hE⟩ := h1.rc.c2
      obtain ⟨ra, rcap, rfl, -⟩ := hE.slice
      have hl1 : (E1 ++ [(y, vy)]).length = E1.length + 1 := by simp
      rw [hl1] at x2 hE
      obtain ⟨rb, u, cu, rfl, e2, -, k1, k2, hbs, hyl⟩ := hE.at E1.length (by simp)
      rw [List.length_map] at hlA2
      obtain ⟨m, hm⟩ : ∃ m, E1.length = m := ⟨_, rfl⟩
      rw [hm] at hlA2
      have hEm : (E1 ++ [(y, vy)])[E1.length]'(by simp) = (y, vy) := by simp
      rw [hEm] at e2 hbs hyl k2
      rw [hm] at x2 k1 k2 hE
      simp only at e2 hbs hyl k2
      subst e2
      obtain ⟨nE, hnE⟩ : ∃ k, m + 1 = k := ⟨_, rfl⟩
      rw [hnE] at x2 hE
      have hm1 : (nE : Int) - 1 = (m : Int) := by omega
      have hm2 : (m : Int) < (nE : Int) := by omega
      have hm3 : (0 : Int) ≤ (m : Int) := by omega
      have hm4 : nE ≤ 257 := by omega
      have hwm : IntKind.i64.wrap (m : Int) = (m : Int) := by rw [IntKind.wrap_i64]; omega
      have hv1 := hkS.bs Hvb.out (HvS.out hb1)
      obtain ⟨ad, rfl⟩ : ∃ ad, ao = some ad := by
        cases ao with
        | none => have := hv1.none.1; omega
        | some ad => exact ⟨ad, rfl⟩
      have H1 := hide h1
      have HE := hide hE
      have Hbs := hide hbs
      have Hyl := hide hyl
      have Hv1 := hide hv1
      have HnE := hide hnE
      have Hm := hide hm
      have hw1z := hk1.size
      have hrb : rb < w1.heap.size := owns_lt' hE.row rb rfl
      have hcrb : c ≠ rb := fun e => h1.rc.Fc (hE.pF c (by rw [e]; rfl))
      have hcl1 := h1.rc.cl
      have key : ∀ (g2 cap2 : Nat) (w2 w3 : World), Below w1.heap.size w1 w2 → w1.heap.size ≤ g2 → w2.ownsRow w1.heap.size 5 1 (.slice (some ⟨g2, 0, none⟩) 256 cap2) 256 (cellsB y.l) → w3.ownsRow 0 5 1 (.slice (some ⟨g2, 0, none⟩) 256 cap2) 256 (splice (cellsB y.l) o (cellsB b)) → Keeps (fun k => k = g2) w2 w3 →
          (w3.cell? ⟨c, 2, none⟩ = some (.slice (some ⟨rb, 0, none⟩) nE rcap) ∧ w3.cell? ⟨rb, m * 3 + 1, none⟩ = some (.slice u 256 cu) ∧ w3.frozen? ⟨rb, m * 3 + 1, none⟩ = false ∧ w3.cell? ⟨rb, m * 3 + 2, none⟩ = some (.bool y.d) ∧ w3.frozen? ⟨rb, m * 3 + 2, none⟩ = false) ∧
          (w3.setCell ⟨rb, m * 3 + 1, none⟩ (.slice (some ⟨g2, 0, none⟩) 256 cap2)).cell? ⟨c, 2, none⟩ = some (.slice (some ⟨rb, 0, none⟩) nE rcap) ∧
          ∃ S'', RT w c g S room n s (List.map Prod.fst E1 ++ [putE y o b]) ((w3.setCell ⟨rb, m * 3 + 1, none⟩ (.slice (some ⟨g2, 0, none⟩) 256 cap2)).setCell ⟨rb, m * 3 + 2, none⟩ (.bool true)) S'' := by
        intro g2 cap2 w2 w3 hb2 hg2 ho2 ho3 hk3
        have kk : Keeps (fun k => k = g2) w1 w3 := (Keeps.of_below hb2).trans hk3
        have hcg : ¬ c = g2 := by omega
        have hrg : ¬ rb = g2 := by omega
        have hz3 := kk.size
        have hg3 : g2 < w3.heap.size := owns_lt' ho3 g2 rfl
        have hrow3 : w3.ownsRow 0 86 3 (.slice (some ⟨rb, 0, none⟩) nE rcap) nE (cellsE (E1 ++ [(y, Value.slice u 256 cu)])) := by
          have := kk.owns hE.row (fun b hb e => by have e' : b = g2 := e; cases hb; exact hrg e')
          rw [hl1, hm, hnE] at this
          exact this
        have x3 := kk.cell x2 hcg
        refine ⟨⟨x3, kk.cell k1 hrg, hrow3.frozenAt _, kk.cell k2 hrg, hrow3.frozenAt _⟩, (Keeps.setCell (S := fun k => k = rb) w3 rfl _).cell x3 hcrb, ?_⟩
        have kkR : Keeps (fun k => (Value.slice (some ⟨rb, 0, none⟩) nE rcap).ownBlock = some k) w1 w3 := (Keeps.of_below hb2).trans' hk3 (fun k e => .inr (by have e' : k = g2 := e; omega))
        have hks : Keeps (fun k => k = rb) w3 ((w3.setCell ⟨rb, m * 3 + 1, none⟩ (.slice (some ⟨g2, 0, none⟩) 256 cap2)).setCell ⟨rb, m * 3 + 2, none⟩ (.bool true)) := (Keeps.setCell (S := fun k => k = rb) w3 rfl _).trans (Keeps.setCell (S := fun k => k = rb) _ rfl _)
        have hst := (hrow3.stored (m * 3 + 1) (.slice (some ⟨g2, 0, none⟩) 256 cap2)).1
        have hst2 := (hst.stored (m * 3 + 2) (.bool true)).1
        have hset : (E1 ++ [(y, Value.slice u 256 cu)]).set m ((⟨y.i, splice y.l o b, true⟩ : En), Value.slice (some ⟨g2, 0, none⟩) 256 cap2) = E1 ++ [((⟨y.i, splice y.l o b, true⟩ : En), Value.slice (some ⟨g2, 0, none⟩) 256 cap2)] := by rw [← hm]; simp
        have hce := cellsE_set (E := E1 ++ [(y, Value.slice u 256 cu)]) m (by rw [← hm]; simp) ⟨y.i, splice y.l o b, true⟩ (.slice (some ⟨g2, 0, none⟩) 256 cap2) (by subst hm; simp)
        rw [hset] at hce
        rw [← hce] at hst2
        have hlb : (splice y.l o b).length = 256 := by rw [length_splice _ _ _ (by rw [hyl]; exact ho256)]; exact hyl
        rw [cellsB_splice] at ho3
        have hbs3 : Bs w3 (.slice (some ⟨g2, 0, none⟩) 256 cap2) (splice y.l o b) := Bs.of_owns (show w3.ownsRow 0 5 1 (.slice (some ⟨g2, 0, none⟩) 256 cap2) (splice y.l o b).length (cellsB (splice y.l o b)) by rw [hlb]; exact ho3) (splice_lt hbs.lt Hvl.out)
        obtain ⟨F2, S2, h2, hk2, hS2, -⟩ := h1.reset (E' := E1 ++ [((⟨y.i, splice y.l o b, true⟩ : En), Value.slice (some ⟨g2, 0, none⟩) 256 cap2)]) x2 hE (kkR.trans (hks.mono (fun k e => by have e' : k = rb := e; rw [e']; rfl)))
          (by simpa [hm, hnE] using hst2) (fun x hx => by
            rcases List.mem_append.1 hx with hh | hh
            · exact .inl (by simp [hh])
            · exact .inr (by simpa using hh)) ⟨hks.bs hbs3 (fun j hj e => by have e' : j = rb := e; cases hj; exact hrg e'.symm), hlb⟩ (fun j hj => by cases hj; exact ⟨.inr ⟨hg2, by simpa using hg3⟩, fun e => by cases e; exact hrg rfl⟩)
        refine ⟨S2, ⟨_, _, _, _, _, h2, by simp [putE, if_neg Hb0.out]⟩, hkS.trans' (hk2.mono (fun k hk => h1.inS k (.inl hk))) hS1, fun k hk => ?_⟩
        rcases hS2 k hk with h | h
        · exact hS1 k h
        · exact .inr (by omega)
      have Key := hide key
      generalize y.d = yd at *
      clear h1 hE hbs hyl hEm hl1 hm hv1 hnE key
      go_wp2_with (first
        | (at_builtin
           refine wpList_append_bs _ rfl (.const (.slice none 0 0)) (.tmp 61) 37 rfl w1.heap.size 5 i5 (.int .u8 0) Try.underlying37 hi5 hy0 hy1 hy2 rfl (.slice none 0 0) 0 [] rfl (World.ownsRow_nil _ _ _ _) _ y.l rfl Hbs.out (by rw [Hyl.out]; omega) (Nat.le_refl _) ?_
           intro v2 w2 ho2 hg2
           rw [Nat.zero_add, List.nil_append, Hyl.out] at ho2
           have hb2 : Below w1.heap.size w1 w2 := ⟨hg2.os, hg2.tape, hg2.output, hg2.size, fun k hk => hg2.block k hk (by simp [Value.ownBlock])⟩
           obtain ⟨a2, cap2, rfl, hcap2, hgg⟩ := owns_form ho2
           obtain ⟨g2, rfl, hg2l⟩ := hgg (by omega)
           have hsrc2 := ((Keeps.of_below (S := fun _ => False) hb2).bs Hv1.out (fun _ _ => id))
           clear hgg)
        | (refine wpList_copy_owns rfl (.tmp 65) (.tmp 66) 37 37 rfl 5 Try.underlying37 size5 g2 o (256 - o) (cap2 - o) ad b.length cap rfl rfl 256 cap2 _ (owns_base ho2 (Nat.zero_le _)) (cellsB b) (by rw [cellsB_length]; exact (Nat.min_eq_left (by omega)).symm) (hsrc2.cells ad rfl) (by rw [cellsB_length]; omega) (cellsB_oneCell b) ?_
           intro w3 ho3 hk3
           have Ho3 := hide ho3
           have Hk3 := hide hk3
           obtain ⟨⟨x3, k31, f31, k32, f32⟩, x4, fin⟩ := Key.out g2 cap2 w2 w3 hb2 hg2l ho2 Ho3.out Hk3.out
           have Fin := hide fin
           clear ho3 hk3 fin))
      go_ret
      exact ⟨rfl, Fin.out⟩
  · have e : writeC room n s (E.map Prod.fst) (k : Int) off b = (E.map Prod.fst, er) := by simp [writeC, hin, hoff, hr, her]
    rw [e]
    have hc := rcome_bad k h hn hnd hk hr0 hr2 hpl hr her
    have hnb : (er != 0) = true := by simp [her]
    have H0 := hide h0
    have Hc := hide hc
    clear h h0 e hr hc hin hnd hoff
    go_enter Try.func17, Try.ntmps17
    go_wp2_with fail
    refine Hc.out.mono ?_
    rintro e w1 ⟨rfl, hb1⟩
    go_wp2_with fail
    go_ret
    exact ⟨rfl, S, RT.below H0.out hb1⟩

end

end Go.Proofs.Ytjcmmigbkhiplaa

set_option linter.unusedSimpArgs false
set_option linter.unusedVariables false
namespace Go.Proofs.Ytjcmmigbkhiplaa
open Go.RowKit Go.Attic

/-- The dirty blocks ahead of j. -/
def dlJ (A : List En) (j : Nat) : List Int := ((List.range j).filter fun i => A.any fun x => x.i == i && x.d).map fun i : Nat => (i : Int)

theorem dlJ_succ (A : List En) (j : Nat) : dlJ A (j + 1) = dlJ A j ++ (if (A.any fun x => x.i == j && x.d) = true then [(j : Int)] else []) := by
  unfold dlJ
  rw [List.range_succ, List.filter_append, List.map_append]
  congr 1
  by_cases h : (A.any fun x => x.i == j && x.d) = true
  · simp [h]
  · have h' : (A.any fun x => x.i == j && x.d) = false := by simpa using h
    simp [h']
theorem dlJ_len (A : List En) (j : Nat) : (dlJ A j).length ≤ j := by
  unfold dlJ
  rw [List.length_map]
  have := List.length_filter_le (fun i => A.any fun x => x.i == i && x.d) (List.range j)
  simpa using this
theorem dlJ_rise (A : List En) (j : Nat) : Rise (dlJ A j) := by
  unfold Rise dlJ
  rw [List.pairwise_map]
  refine List.Pairwise.imp ?_ (List.pairwise_lt_range.filter _)
  intro a b h
  omega
theorem dlJ_all {A : List En} (hA : A.Pairwise fun x y => x.i ≠ y.i) {n : Nat} (hin : ∀ x ∈ A, x.i < n) : dlJ A n = dirtyL A := by
  have hs : Rise (dirtyL A) := sortN_rise (dirty_nodup hA)
  refine rise_one (dlJ_rise A n) hs fun z => ?_
  rw [dirtyL_mem]
  unfold dlJ
  constructor
  · intro h
    obtain ⟨i, hi, rfl⟩ := List.mem_map.1 h
    obtain ⟨x, hx, hx2⟩ := List.any_eq_true.1 (List.mem_filter.1 hi).2
    simp only [Bool.and_eq_true, beq_iff_eq] at hx2
    exact ⟨x, hx, hx2.2, by rw [hx2.1]⟩
  · rintro ⟨x, hx, hd, rfl⟩
    exact List.mem_map.2 ⟨x.i, List.mem_filter.2 ⟨by simpa using hin x hx, List.any_eq_true.2 ⟨x, hx, by simp [hd]⟩⟩, rfl⟩

theorem posE_dirty {E : List (En × Value)} (hnd : NodupE E) (j : Nat) : (∃ k, ∃ hk : k < E.length, posE E (j : Int) = (k : Int) ∧ ((E.map Prod.fst).any fun x => x.i == j && x.d) = (E[k]).1.d) ∨ (posE E (j : Int) = -1 ∧ ((E.map Prod.fst).any fun x => x.i == j && x.d) = false) := by
  unfold posE
  cases hf : E.findIdx? (fun x => (x.1.i : Int) == (j : Int)) with
  | some k =>
    obtain ⟨hk, h1, _⟩ := List.findIdx?_eq_some_iff_getElem.1 hf
    have hij : (E[k]).1.i = j := by simp at h1; omega
    refine .inl ⟨k, hk, rfl, ?_⟩
    cases hd : (E[k]).1.d with
    | true => exact List.any_eq_true.2 ⟨(E[k]).1, List.mem_map.2 ⟨_, List.getElem_mem hk, rfl⟩, by simp [hij, hd]⟩
    | false =>
      refine List.any_eq_false.2 fun x hx => ?_
      obtain ⟨y, hy, rfl⟩ := List.mem_map.1 hx
      obtain ⟨m, hm, rfl⟩ := List.getElem_of_mem hy
      by_cases hmk : m = k
      · subst hmk; simp [hd]
      · have hp := List.pairwise_iff_getElem.1 hnd
        have hne : (E[m]).1.i ≠ j := by
          rcases Nat.lt_or_gt_of_ne hmk with h | h
          · have := hp m k hm hk h; omega
          · have := hp k m hk hm h; omega
        simp [hne]
  | none =>
    refine .inr ⟨rfl, List.any_eq_false.2 fun x hx => ?_⟩
    obtain ⟨y, hy, rfl⟩ := List.mem_map.1 hx
    have := List.findIdx?_eq_none_iff.1 hf y hy
    have hne : y.1.i ≠ j := by simp at this; omega
    simp [hne]

section
variable {w w' : World} {c g : Nat} {S : Nat → Prop} {room n : Nat} {s : St} {E : List (En × Value)} {F : Nat → Prop} {q p : Option Nat} {Fd : Nat → Prop}

set_option maxRecDepth 100000 in
set_option maxHeartbeats 2000000 in
theorem rdirty_any (h : RDx w c g S room n s E F q p Fd) (hn : E.length ≤ 256) (hnd : NodupE E) :
    Calls Try.prog 40 #[.pointer (some ⟨c, 0, none⟩)] w fun e w' => ∃ v, e = .returned v ∧ w'.ownsRow w.heap.size 3 1 v (dlJ (E.map Prod.fst) n).length (cellsI (dlJ (E.map Prod.fst) n)) ∧ Below w.heap.size w w' := by
  obtain ⟨i0, hi, hz0, hz1, hz2⟩ := info_parts Try.info3
  have c0 := h.rc.c0
  obtain ⟨da, dc, g0⟩ := h.dr.front
  have hn2 := h.dr.ok.n2
  obtain ⟨v, c2, hE⟩ := h.rc.c2
  obtain ⟨ao, cap, rfl, -⟩ := hE.slice
  obtain ⟨nE, hnE⟩ : ∃ m, E.length = m := ⟨_, rfl⟩
  rw [hnE] at c2 hE hn
  have H := hide h
  have HE := hide hE
  have Hl := hide hnE
  have Hnd := hide hnd
  have hat : ∀ W, Below w.heap.size w W → ∀ j : Nat, Calls Try.prog 41 #[.pointer (some ⟨c, 0, none⟩), .int .i64 (j : Int)] W fun e w' => e = .returned (.int .i64 (posE E (j : Int))) ∧ W = w' := fun W hW j => rat_any (h.rc.mono hW) (j : Int) (by rw [hnE]; omega)
  have Hat := hide hat
  clear h hE hnd hat hnE
  go_enter Try.func40, Try.ntmps40
  go_wp2_with fail
  go_loopw [3, 4] (fun ov iv wr => ∃ j : Nat, j ≤ n ∧ iv = .int .i64 (j : Int) ∧ wr.ownsRow w.heap.size 3 1 ov (dlJ (E.map Prod.fst) j).length (cellsI (dlJ (E.map Prod.fst) j)) ∧ Below w.heap.size w wr) (fun _ iv _ => n - (intOf iv).toNat)
  case atStart => exact ⟨0, Nat.zero_le _, rfl, by simpa [cellsI, dlJ] using World.ownsRow_nil _ _ _ _, Below.refl _ _⟩
  case round =>
    obtain ⟨j, hj, rfl, hown, hbr⟩ := hrel
    obtain ⟨oa, oc, rfl⟩ := owns_slice hown
    have hwz := hbr.size
    have c0' := (Keeps.of_below (S := fun _ => False) hbr).cell c0 id
    have c2' := (Keeps.of_below (S := fun _ => False) hbr).cell c2 id
    have g0' := (Keeps.of_below (S := fun _ => False) hbr).cell g0 id
    by_cases hjn : j < n
    · have hcall := Hat.out wr hbr j
      have hsucc := dlJ_succ (E.map Prod.fst) j
      have hll := dlJ_len (E.map Prod.fst) j
      rcases posE_dirty Hnd.out j with ⟨k, hk, hp, hd⟩ | ⟨hp, hd⟩
      · rw [hp] at hcall
        obtain ⟨b, u, cu, rfl, -, -, -, k2, -, -⟩ := (HE.out.keeps (S := fun _ => False) (Keeps.of_below hbr) (fun _ _ => id)).at k hk
        have hkn : (k : Int) < (nE : Int) := by have := Hl.out; omega
        have hk0 : (0 : Int) ≤ (k : Int) := by omega
        rw [hd] at hsucc
        cases hdd : (E[k]).1.d with
        | false =>
          rw [hdd] at hsucc k2
          rw [if_neg (by simp), List.append_nil] at hsucc
          have Hs := hide hsucc
          have Hown := hide hown
          generalize dlJ (E.map Prod.fst) j = zs at *
          clear hsucc hown hd hdd
          go_wp2_with fail
          refine hcall.mono ?_
          rintro e w2 ⟨rfl, rfl⟩
          go_wp2_with fail
          go_roundw
          case rel => exact ⟨j + 1, by omega, by go_num, by rw [Hs.out]; exact Hown.out, hbr⟩
          case measure => simp [intOf]; omega
        | true =>
          rw [hdd] at hsucc k2
          rw [if_pos rfl] at hsucc
          have Hs := hide hsucc
          generalize dlJ (E.map Prod.fst) j = zs at *
          clear hsucc hd hdd
          go_wp2_with fail
          refine hcall.mono ?_
          rintro e w2 ⟨rfl, rfl⟩
          go_wp2_with (first | (at_builtin; (refine wpList_append_own _ rfl (.tmp 33) (.tmp 35) 58 rfl w.heap.size 3 i0 (.int .i64 0) 1 8 Try.underlying58 hi hz0 hz1 hz2 rfl (by decide) _ _ (cellsI zs) rfl (hown.alloc _) ⟨wr.heap.size, 0, none⟩ 1 1 [.int .i64 (j : Int)] rfl rfl (cell_one_new _ _ _) (by simp [Value.oneCell']) (by unfold maxLen; omega) (by omega) (by simp; omega) ?_; intro v4 w4 hown4 hgrow4 _)))
          have hb4 : Below w.heap.size w w4 := (hbr.alloc hwz _).grown hgrow4 (by simp; omega) (fun k hk => owns_lt hown k hk)
          rw [show cellsI zs ++ [.int .i64 (j : Int)] = cellsI (dlJ (E.map Prod.fst) (j + 1)) by rw [Hs.out, cellsI_app]; rfl] at hown4
          have hl4 : (dlJ (E.map Prod.fst) (j + 1)).length = zs.length + 1 := by rw [Hs.out]; simp
          have Ho4 := hide hown4
          have Hl4 := hide hl4
          clear hown4 hgrow4 hown hl4
          go_roundw
          case rel => exact ⟨j + 1, by omega, by go_num, by rw [Hl4.out]; exact Ho4.out, hb4⟩
          case measure => simp [intOf]; omega
      · rw [hp] at hcall
        rw [hd] at hsucc
        rw [if_neg (by simp), List.append_nil] at hsucc
        have Hs := hide hsucc
        have Hown := hide hown
        generalize dlJ (E.map Prod.fst) j = zs at *
        clear hsucc hown hd
        go_wp2_with fail
        refine hcall.mono ?_
        rintro e w2 ⟨rfl, rfl⟩
        go_wp2_with fail
        go_roundw
        case rel => exact ⟨j + 1, by omega, by go_num, by rw [Hs.out]; exact Hown.out, hbr⟩
        case measure => simp [intOf]; omega
    · obtain rfl : j = n := by omega
      have Hown := hide hown
      clear hown
      go_wp2_with fail
      go_ret
      exact ⟨_, rfl, Hown.out, hbr⟩

end

end Go.Proofs.Ytjcmmigbkhiplaa
