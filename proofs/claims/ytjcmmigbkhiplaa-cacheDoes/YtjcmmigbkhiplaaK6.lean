/- Contracts: Read, Write, Has, New of a cache. -/
import Derived.Test.YtjcmmigbkhiplaaK5
set_option linter.unusedSimpArgs false
set_option linter.unusedVariables false
namespace Go.Proofs.Ytjcmmigbkhiplaa
open Go.RowKit Go.Attic

theorem BufAt.bs {w : World} {x : Bu} (h : BufAt w x) : Bs w (.slice (some ⟨x.r, 0, none⟩) 256 x.cap) x.l :=
  Bs.of_owns (show w.ownsRow 0 5 1 (.slice (some ⟨x.r, 0, none⟩) 256 x.cap) x.l.length (cellsB x.l) by rw [h.len]; exact h.row) h.lt

/-- The cache and its disk, by what they hold. -/
def CD (w : World) (c g : Nat) (S : Nat → Prop) (room n Q : Nat) (s : St) (A : List En) : Prop :=
  ∃ m q B F gm p Fd, CDx w c g S room n s m q B F gm p Fd ∧ B.map Bu.en = A ∧ q ≤ Q

def readC (room n : Nat) (s : St) (A : List En) (i : Int) : List En × List Nat × Int :=
  if inS n i = false then (A, [], 30)
  else if (comeL room s A i.toNat).2.2 = 0 then ((comeL room s A i.toNat).1 ++ [(comeL room s A i.toNat).2.1], (comeL room s A i.toNat).2.1.l, 0)
  else (A, [], (comeL room s A i.toNat).2.2)

def putE (y : En) (off : Nat) (b : List Nat) : En := if b = [] then y else ⟨y.i, splice y.l off b, true⟩

def writeC (room n : Nat) (s : St) (A : List En) (i off : Int) (b : List Nat) : List En × Int :=
  if inS n i = false then (A, 30)
  else if off < 0 ∨ 256 - (b.length : Int) < off then (A, 1)
  else if (comeL room s A i.toNat).2.2 = 0 then ((comeL room s A i.toNat).1 ++ [putE (comeL room s A i.toNat).2.1 off.toNat b], 0)
  else (A, (comeL room s A i.toNat).2.2)

section
variable {w w' : World} {c g : Nat} {S : Nat → Prop} {room n Q : Nat} {s : St} {A : List En}

theorem CD.mono (h : CD w c g S room n Q s A) (hb : Below w.heap.size w w') : CD w' c g S room n Q s A := by
  obtain ⟨m, q, B, F, gm, p, Fd, h1, h2, h3⟩ := h
  exact ⟨m, q, B, F, gm, p, Fd, h1.mono hb, h2, h3⟩
theorem CD.keeps {T : Nat → Prop} (h : CD w c g S room n Q s A) (hk : Keeps T w w') (hT : ∀ k, S k → ¬ T k) : CD w' c g S room n Q s A := by
  obtain ⟨m, q, B, F, gm, p, Fd, h1, h2, h3⟩ := h
  exact ⟨m, q, B, F, gm, p, Fd, h1.keeps hk hT, h2, h3⟩
theorem CD.more {Q' : Nat} (h : CD w c g S room n Q s A) (hQ : Q ≤ Q') : CD w c g S room n Q' s A := by
  obtain ⟨m, q, B, F, gm, p, Fd, h1, h2, h3⟩ := h
  exact ⟨m, q, B, F, gm, p, Fd, h1, h2, by omega⟩
theorem CD.lt (h : CD w c g S room n Q s A) : ∀ k, S k → k < w.heap.size := by
  obtain ⟨m, q, B, F, gm, p, Fd, h1, h2, h3⟩ := h
  exact h1.lt
theorem CD.few (h : CD w c g S room n Q s A) : A.length ≤ room := by
  obtain ⟨m, q, B, F, gm, p, Fd, h1, rfl, h3⟩ := h
  simpa using h1.few
theorem CD.ok (h : CD w c g S room n Q s A) : s.Ok n := by
  obtain ⟨m, q, B, F, gm, p, Fd, h1, h2, h3⟩ := h
  exact h1.dk.ok
theorem CD.en (h : CD w c g S room n Q s A) : ∀ x ∈ A, x.l.length = 256 ∧ (∀ y ∈ x.l, y < 256) := by
  obtain ⟨m, q, B, F, gm, p, Fd, h1, rfl, h3⟩ := h
  intro x hx
  obtain ⟨y, hy, rfl⟩ := List.mem_map.1 hx
  exact ⟨(h1.ca.bu y hy).len, (h1.ca.bu y hy).lt⟩
theorem CD.nodup (h : CD w c g S room n Q s A) : A.Pairwise (fun x y => x.i ≠ y.i) := by
  obtain ⟨m, q, B, F, gm, p, Fd, h1, rfl, h3⟩ := h
  rw [List.pairwise_map]
  exact h1.ca.nodup

/-- What a call leaves: the cache holds A, blocks of its own alone have turned. -/
def CT (w : World) (c g : Nat) (S : Nat → Prop) (room n Q : Nat) (s : St) (A : List En) (w' : World) (S' : Nat → Prop) : Prop :=
  CD w' c g S' room n Q s A ∧ Keeps S w w' ∧ ∀ k, S' k → S k ∨ w.heap.size ≤ k

theorem CT.refl (h : CD w c g S room n Q s A) : CT w c g S room n Q s A w S := ⟨h, Keeps.refl _ _, fun k hk => .inl hk⟩
theorem CT.below (h : CD w c g S room n Q s A) (hb : Below w.heap.size w w') : CT w c g S room n Q s A w' S := ⟨h.mono hb, Keeps.of_below hb, fun k hk => .inl hk⟩
theorem CT.then_below {S' : Nat → Prop} {w'' : World} (h : CT w c g S room n Q s A w' S') (hb : Below w'.heap.size w' w'') : CT w c g S room n Q s A w'' S' :=
  ⟨h.1.mono hb, h.2.1.trans (Keeps.of_below hb), h.2.2⟩

theorem in_nat {n : Nat} {i : Int} (h : inS n i = true) : ∃ k : Nat, i = k ∧ k < n := by
  simp [inS] at h
  exact ⟨i.toNat, by omega, by omega⟩

set_option maxRecDepth 100000 in
set_option maxHeartbeats 1000000 in
theorem cread_any (h : CD w c g S room n Q s A) (i : Int) (hQ : Q ≤ 1000000) (hpl : s.pend.length ≤ 1000000) (h2 : 1 ≤ room) :
    Calls Try.prog 12 #[.pointer (some ⟨c, 0, none⟩), .int .i64 i] w fun e w' => ∃ v S', e = .returned (.tuple #[v, .int .i64 (readC room n s A i).2.2]) ∧ w'.ownsRow w.heap.size 5 1 v (readC room n s A i).2.1.length (cellsB (readC room n s A i).2.1) ∧
      CT w c g S room n (Q + 1) s (readC room n s A i).1 w' S' ∧ ∀ k, v.ownBlock = some k → ¬ S' k := by
  have h0 := h
  obtain ⟨m, q, B, F, gm, p, Fd, h, rfl, hq⟩ := h
  have hf := cfind_yes i h.ca h.dk
  cases hin : inS n i with
  | false =>
    rw [hin, if_neg (by simp)] at hf
    have e : readC room n s (B.map Bu.en) i = (B.map Bu.en, [], 30) := by simp [readC, hin]
    rw [e]
    have H0 := hide h0
    clear h h0 e
    go_enter Try.func12, Try.ntmps12
    go_wp2_with fail
    refine hf.mono ?_
    rintro e w' ⟨rfl, rfl⟩
    go_wp2_with fail
    go_ret2
    exact ⟨_, S, rfl, by simpa [cellsB] using World.ownsRow_nil _ _ _ _, CT.refl (H0.out.more (Nat.le_succ _)), by simp [Value.ownBlock]⟩
  | true =>
    obtain ⟨k, rfl, hk⟩ := in_nat hin
    rw [hin, if_pos rfl] at hf
    obtain ⟨A1, y, er, hr⟩ : ∃ A1 y er, comeL room s (B.map Bu.en) k = (A1, y, er) := ⟨_, _, _, rfl⟩
    by_cases her : er = 0
    · subst her
      have e : readC room n s (B.map Bu.en) (k : Int) = (A1 ++ [y], y.l, 0) := by simp [readC, hin, hr]
      rw [e]
      have hc := comein_ok k h (by omega) hpl hk h2 A1 y hr
      have H := hide h
      have Hc := hide hc
      clear h h0 e hr hc hin
      go_enter Try.func12, Try.ntmps12
      go_wp2_with fail
      refine hf.mono ?_
      rintro e w' ⟨rfl, rfl⟩
      go_wp2_with fail
      refine Hc.out.mono ?_
      rintro e w1 ⟨B0, x, F', S', rfl, h1, e1, e2, hk1, hS1, hF1⟩
      have hb := h1.ca.bu x (by simp)
      have x0 := hb.c0
      have hcl := clone_any _ x.l w1 hb.bs (by rw [hb.len]; omega)
      rw [show x.l = y.l by rw [← e2]; rfl] at hcl
      have H1 := hide h1
      have Hcl := hide hcl
      have He1 := hide e1
      have He2 := hide e2
      clear h1 hb hcl e1 e2
      go_wp2_with fail
      refine Hcl.out.mono ?_
      rintro e w2 ⟨v, rfl, ho, hb2⟩
      go_wp2_with fail
      go_ret2
      have hz := hk1.size
      have hkk : Keeps S w w1 := hk1.mono (fun j hj => H.out.inS j (.inl hj))
      refine ⟨v, S', rfl, owns_base ho hz, ⟨⟨m, _, _, _, _, _, _, H1.out.mono hb2, by rw [List.map_append, He1.out]; simp [He2.out], by omega⟩, hkk.trans (Keeps.of_below hb2), hS1⟩, fun j hj hs => ?_⟩
      have := H1.out.lt j hs
      have := owns_lt ho j hj
      omega
    · have e : readC room n s (B.map Bu.en) (k : Int) = (B.map Bu.en, [], er) := by simp [readC, hin, hr, her]
      rw [e]
      have hc := comein_err k h (by omega) hpl hk A1 y er hr her
      have hnb : (er != 0) = true := by simp [her]
      have H0 := hide h0
      have Hc := hide hc
      clear h h0 e hr hc hin
      go_enter Try.func12, Try.ntmps12
      go_wp2_with fail
      refine hf.mono ?_
      rintro e w' ⟨rfl, rfl⟩
      go_wp2_with fail
      refine Hc.out.mono ?_
      rintro e w1 ⟨rfl, hb1⟩
      go_wp2_with fail
      go_ret2
      exact ⟨_, S, rfl, by simpa [cellsB] using World.ownsRow_nil _ _ _ _, CT.below (H0.out.more (Nat.le_succ _)) hb1, by simp [Value.ownBlock]⟩

theorem size5 : (Try.prog.info? 5).map (·.size) = some 1 := by kernel_rfl

theorem BufAt.pr {w : World} {x : Bu} (h : BufAt w x) : x.p ≠ x.r := by
  intro hpr
  have h1 := h.c0
  have h2 := h.row
  rw [hpr] at h1
  have hc := h2.cells (g := x.r) rfl 0 (.int .u8 (x.l.getD 0 0 : Nat)) (by have := h.len; simp [cellsB, List.getD]; cases hl : x.l with | nil => rw [hl] at this; simp at this | cons y r => simp)
  simp only [Addr.add_lit, Nat.zero_add] at hc
  rw [h1] at hc
  cases hc

theorem BufAt.marked {w : World} {x : Bu} (h : BufAt w x) (d : Bool) : BufAt (w.setCell ⟨x.p, 1, none⟩ (.bool d)) { x with d := d } := by
  have hk : Keeps (fun k => k = x.p) w (w.setCell ⟨x.p, 1, none⟩ (.bool d)) := Keeps.setCell (S := fun k => k = x.p) w rfl _
  exact ⟨cell_set_other h.c0 (by omega), cell_set_same h.c1, cell_set_other h.c2 (by omega), by simpa using h.f1, by simpa using h.f2, hk.owns h.row (fun b hb => by cases hb; exact fun e => h.pr e.symm), h.len, h.lt, h.i⟩

theorem splice_lt {L cs : List Nat} {off : Nat} (h : ∀ y ∈ L, y < 256) (hc : ∀ y ∈ cs, y < 256) : ∀ y ∈ splice L off cs, y < 256 := by
  intro y hy
  unfold splice at hy
  rcases List.mem_append.1 hy with h1 | h1
  · exact h y (List.mem_of_mem_take h1)
  · rcases List.mem_append.1 h1 with h2 | h2
    · exact hc y h2
    · exact h y (List.mem_of_mem_drop h2)

theorem BufAt.copied {w w' : World} {x : Bu} (h : BufAt w x) {off : Nat} {b : List Nat} (hf : off + b.length ≤ 256) (hb : ∀ y ∈ b, y < 256) (hk : Keeps (fun k => k = x.r) w w') (ho : w'.ownsRow 0 5 1 (.slice (some ⟨x.r, 0, none⟩) 256 x.cap) 256 (splice (cellsB x.l) off (cellsB b))) :
    BufAt w' { x with l := splice x.l off b } := by
  have hp : ¬ (fun k => k = x.r) x.p := h.pr
  rw [cellsB_splice] at ho
  exact ⟨hk.cell h.c0 hp, hk.cell h.c1 hp, hk.cell h.c2 hp, by rw [hk.frozen (a := ⟨x.p, 1, none⟩) h.pl hp]; exact h.f1, by rw [hk.frozen (a := ⟨x.p, 2, none⟩) h.pl hp]; exact h.f2, ho, by rw [length_splice _ _ _ (by rw [h.len]; exact hf)]; exact h.len, splice_lt h.lt hb, h.i⟩

theorem Asc.last {B0 : List Bu} {x x' : Bu} {q : Nat} (h : Asc (B0 ++ [x]) q) (e : x'.a = x.a) : Asc (B0 ++ [x']) q := by
  have hp := List.pairwise_append.1 h.1
  refine ⟨?_, fun y hy => ?_⟩
  · rw [List.pairwise_append]
    refine ⟨hp.1, by simp, fun y hy z hz => ?_⟩
    obtain rfl : z = x' := by simpa using hz
    rw [e]
    exact hp.2.2 y hy x (by simp)
  · rcases List.mem_append.1 hy with hm | hm
    · exact h.2 y (by simp [hm])
    · obtain rfl : y = x' := by simpa using hm
      rw [e]; exact h.2 x (by simp)

theorem CDx.upd {m q : Nat} {B0 : List Bu} {x x' : Bu} {F : Nat → Prop} {gm : Nat} {p : Option Nat} {Fd : Nat → Prop} (h : CDx w c g S room n s m q (B0 ++ [x]) F gm p Fd) (ei : x'.i = x.i) (ep : x'.p = x.p) (er : x'.r = x.r) (ea : x'.a = x.a)
    (hk : Keeps (fun k => k = x.p ∨ k = x.r) w w') (hb : BufAt w' x') : CDx w' c g S room n s m q (B0 ++ [x']) F gm p Fd := by
  have hin := h.ca.inF x (by simp)
  have hd : ∀ k, Own g gm Fd k → ¬ (k = x.p ∨ k = x.r) := by
    rintro k ho (e | e)
    · exact h.ap k (.inr (e ▸ hin.1)) ho
    · exact h.ap k (.inr (e ▸ hin.2)) ho
  exact ⟨h.ca.upd ei ep er hk hb, Asc.last h.asc ea, h.dk.keeps hk (hd _ (.inl rfl)) (hd _ (.inr (.inl rfl))) (fun k hf => hd _ (.inr (.inr hf))), h.ap, h.inS, fun k hk' => Nat.lt_of_lt_of_le (h.lt k hk') hk.size, by have := h.few; simpa using this, h.r2⟩

set_option maxRecDepth 100000 in
set_option maxHeartbeats 1000000 in
theorem cwrite_any (h : CD w c g S room n Q s A) (i off : Int) (vb : Value) (b : List Nat) (hvb : Bs w vb b) (hvS : 0 < b.length → ∀ k, vb.ownBlock = some k → ¬ S k) (hbl : b.length ≤ 140737488355328) (hQ : Q ≤ 1000000) (hpl : s.pend.length ≤ 1000000) (h2 : 1 ≤ room) :
    Calls Try.prog 16 #[.pointer (some ⟨c, 0, none⟩), .int .i64 i, .int .i64 off, vb] w fun e w' => e = .returned (.int .i64 (writeC room n s A i off b).2) ∧ ∃ S', CT w c g S room n (Q + 1) s (writeC room n s A i off b).1 w' S' := by
  have h0 := h
  obtain ⟨m, q, B, F, gm, p, Fd, h, rfl, hq⟩ := h
  have hf := cfind_yes i h.ca h.dk
  have hvb0 := hvb
  obtain ⟨ao, cap, rfl, hcap, hvn, hvl, hvc⟩ := hvb
  have Hvb := hide hvb0
  have HvS := hide hvS
  have Hvl := hide hvl
  clear hvb0 hvS hvc hvn
  cases hin : inS n i with
  | false =>
    rw [hin, if_neg (by simp)] at hf
    have e : writeC room n s (B.map Bu.en) i off b = (B.map Bu.en, 30) := by simp [writeC, hin]
    rw [e]
    have H0 := hide h0
    clear h h0 e
    go_enter Try.func16, Try.ntmps16
    go_wp2_with fail
    refine hf.mono ?_
    rintro e w' ⟨rfl, rfl⟩
    go_wp2_with fail
    go_ret
    exact ⟨rfl, S, CT.refl (H0.out.more (Nat.le_succ _))⟩
  | true =>
    obtain ⟨k, rfl, hk⟩ := in_nat hin
    rw [hin, if_pos rfl] at hf
    by_cases hoff : off < 0 ∨ 256 - (b.length : Int) < off
    · have e : writeC room n s (B.map Bu.en) (k : Int) off b = (B.map Bu.en, 1) := by simp [writeC, hin, hoff]
      rw [e]
      have H0 := hide h0
      clear h h0 e hin
      by_cases hn0 : off < 0
      · clear hoff
        go_enter Try.func16, Try.ntmps16
        go_wp2_with fail
        refine hf.mono ?_
        rintro e w' ⟨rfl, rfl⟩
        go_wp2_with fail
        go_ret
        exact ⟨rfl, S, CT.refl (H0.out.more (Nat.le_succ _))⟩
      · have hgt : 256 - (b.length : Int) < off := by omega
        clear hoff
        go_enter Try.func16, Try.ntmps16
        go_wp2_with fail
        refine hf.mono ?_
        rintro e w' ⟨rfl, rfl⟩
        go_wp2_with fail
        go_ret
        exact ⟨rfl, S, CT.refl (H0.out.more (Nat.le_succ _))⟩
    · have hn0 : ¬ off < 0 := by omega
      have hgt : ¬ 256 - (b.length : Int) < off := by omega
      obtain ⟨A1, y, er, hr⟩ : ∃ A1 y er, comeL room s (B.map Bu.en) k = (A1, y, er) := ⟨_, _, _, rfl⟩
      by_cases her : er = 0
      · subst her
        have e : writeC room n s (B.map Bu.en) (k : Int) off b = (A1 ++ [putE y off.toNat b], 0) := by simp [writeC, hin, hoff, hr]
        rw [e]
        have hc := comein_ok k h (by omega) hpl hk h2 A1 y hr
        have H := hide h
        have Hc := hide hc
        clear h h0 e hr hc hin hoff
        obtain ⟨o, rfl⟩ : ∃ o : Nat, off = o := ⟨off.toNat, by omega⟩
        have ho256 : o + b.length ≤ 256 := by omega
        by_cases hb0 : b = []
        · subst hb0
          simp only [List.length_nil] at *
          have hce : ∀ (W : World) (ty : TypeId) (d : Option Addr) (dl dc : Nat), (Builtin.copy_ #[37, 37] ty #[.slice d dl dc, .slice ao 0 cap]).run Try.prog W = .ok (goInt 0) W := fun W ty d dl dc => run_copy_none W 37 37 ty 5 d ao dl dc 0 cap Try.underlying37 size5 (Nat.zero_min _)
          go_enter Try.func16, Try.ntmps16
          go_wp2_with fail
          refine hf.mono ?_
          rintro e w' ⟨rfl, rfl⟩
          go_wp2_with fail
          refine Hc.out.mono ?_
          rintro e w1 ⟨B0, x, F', S', rfl, h1, e1, e2, hk1, hS1, hF1⟩
          have hb := h1.ca.bu x (by simp)
          have x0 := hb.c0
          have x1 := hb.c1
          have xf := hb.f1
          have hkS : Keeps S w w1 := hk1.mono (fun j hj => H.out.inS j (.inl hj))
          have H1 := hide h1
          have He1 := hide e1
          have He2 := hide e2
          have Hb := hide hb
          clear h1 hb e1 e2 hk1
          have hcap2 : 256 ≤ x.cap := by obtain ⟨_, _, e, hc, _⟩ := owns_form Hb.out.row; injection e with _ _ e; omega
          obtain ⟨xd, hxd⟩ : ∃ d, x.d = d := ⟨_, rfl⟩
          rw [hxd] at x1
          have Hxd := hide hxd
          clear hxd
          have fin : ∀ w2, w1.setCell ⟨x.p, 1, none⟩ (.bool xd) = w2 → ∃ S'', CT w c g S room n (Q + 1) s (A1 ++ [putE y o []]) w2 S'' := by
            rintro w2 rfl
            have hm := Hb.out.marked xd
            have hkk : Keeps (fun k => k = x.p ∨ k = x.r) w1 (w1.setCell ⟨x.p, 1, none⟩ (.bool xd)) := Keeps.setCell (S := fun k => k = x.p ∨ k = x.r) w1 (.inl rfl) _
            have h3 := H1.out.upd (x' := { x with d := xd }) rfl rfl rfl rfl hkk hm
            refine ⟨S', ⟨⟨m, _, _, _, _, _, _, h3, ?_, by omega⟩, hkS.trans' hkk ?_, hS1⟩⟩
            · rw [List.map_append, He1.out]
              simp only [List.map_cons, List.map_nil, putE, if_pos]
              rw [← He2.out, ← Hxd.out]
            · have := H1.out.ca.inF x (by simp)
              rintro k (e | e)
              · rw [e]; exact hS1 _ (H1.out.inS _ (.inl (.inr this.1)))
              · rw [e]; exact hS1 _ (H1.out.inS _ (.inl (.inr this.2)))
          have Fin := hide fin
          clear fin
          cases xd with
          | true =>
            go_wp2_with fail
            all_goals
              go_ret
              exact ⟨rfl, Fin.out _ rfl⟩
          | false =>
            go_wp2_with fail
            all_goals
              go_ret
              exact ⟨rfl, Fin.out _ rfl⟩
        · have hb1 : 0 < b.length := List.length_pos_iff.2 hb0
          have Hb0 := hide hb0
          clear hb0
          go_enter Try.func16, Try.ntmps16
          go_wp2_with fail
          refine hf.mono ?_
          rintro e w' ⟨rfl, rfl⟩
          go_wp2_with fail
          refine Hc.out.mono ?_
          rintro e w1 ⟨B0, x, F', S', rfl, h1, e1, e2, hk1, hS1, hF1⟩
          have hb := h1.ca.bu x (by simp)
          have x0 := hb.c0
          have x1 := hb.c1
          have xf := hb.f1
          have hkS : Keeps S w w1 := hk1.mono (fun j hj => H.out.inS j (.inl hj))
          have H1 := hide h1
          have He1 := hide e1
          have He2 := hide e2
          have Hb := hide hb
          clear h1 hb e1 e2 hk1
          have hcap2 : 256 ≤ x.cap := by obtain ⟨_, _, e, hc, _⟩ := owns_form Hb.out.row; injection e with _ _ e; omega
          obtain ⟨xd, hxd⟩ : ∃ d, x.d = d := ⟨_, rfl⟩
          rw [hxd] at x1
          have Hxd := hide hxd
          clear hxd
          have hv1 := hkS.bs Hvb.out (HvS.out hb1)
          obtain ⟨ad, rfl⟩ : ∃ ad, ao = some ad := by
            cases ao with
            | none => have := hv1.none.1; omega
            | some ad => exact ⟨ad, rfl⟩
          have hsrc := hv1.cells ad rfl
          have Hsrc := hide hsrc
          clear hv1 hsrc
          have hoc : o < x.cap := by omega
          have key : ∀ w2, w2.ownsRow 0 5 1 (.slice (some ⟨x.r, 0, none⟩) 256 x.cap) 256 (splice (cellsB x.l) o (cellsB b)) → Keeps (fun k => k = x.r) w1 w2 →
              (w2.cell? ⟨x.p, 1, none⟩ = some (.bool xd) ∧ w2.frozen? ⟨x.p, 1, none⟩ = false) ∧ ∃ S'', CT w c g S room n (Q + 1) s (A1 ++ [putE y o b]) (w2.setCell ⟨x.p, 1, none⟩ (.bool true)) S'' := by
            intro w2 ho2 hk2
            have hm0 := Hb.out.copied ho256 Hvl.out hk2 ho2
            have hm := hm0.marked true
            have hkk : Keeps (fun k => k = x.p ∨ k = x.r) w1 (w2.setCell ⟨x.p, 1, none⟩ (.bool true)) := (hk2.mono (fun k hk => .inr hk)).trans (Keeps.setCell (S := fun k => k = x.p ∨ k = x.r) w2 (.inl rfl) _)
            have h3 := H1.out.upd (x' := { x with l := splice x.l o b, d := true }) rfl rfl rfl rfl hkk hm
            refine ⟨⟨?_, hm0.f1⟩, S', ⟨⟨m, _, _, _, _, _, _, h3, ?_, by omega⟩, hkS.trans' hkk ?_, hS1⟩⟩
            · rw [← Hxd.out]; exact hm0.c1
            · rw [List.map_append, He1.out]
              simp only [List.map_cons, List.map_nil, putE, if_neg Hb0.out]
              rw [← He2.out]
              rfl
            · have := H1.out.ca.inF x (by simp)
              rintro k (e | e)
              · rw [e]; exact hS1 _ (H1.out.inS _ (.inl (.inr this.1)))
              · rw [e]; exact hS1 _ (H1.out.inS _ (.inl (.inr this.2)))
          have Key := hide key
          clear key
          cases xd with
          | true =>
            go_wp2_with (refine wpList_copy_owns rfl (.tmp 41) (.tmp 42) 37 37 rfl 5 Try.underlying37 size5 x.r o (256 - o) (x.cap - o) ad b.length cap rfl rfl 256 x.cap _ Hb.out.row (cellsB b) (by rw [cellsB_length]; exact (Nat.min_eq_left (by omega)).symm) Hsrc.out (by rw [cellsB_length]; omega) (cellsB_oneCell b) ?_; intro w2 ho2 hk2; obtain ⟨⟨x1', xf'⟩, fin⟩ := Key.out w2 ho2 hk2; have Fin := hide fin; clear fin ho2 hk2)
            go_ret
            exact ⟨rfl, Fin.out⟩
          | false =>
            go_wp2_with (refine wpList_copy_owns rfl (.tmp 41) (.tmp 42) 37 37 rfl 5 Try.underlying37 size5 x.r o (256 - o) (x.cap - o) ad b.length cap rfl rfl 256 x.cap _ Hb.out.row (cellsB b) (by rw [cellsB_length]; exact (Nat.min_eq_left (by omega)).symm) Hsrc.out (by rw [cellsB_length]; omega) (cellsB_oneCell b) ?_; intro w2 ho2 hk2; obtain ⟨⟨x1', xf'⟩, fin⟩ := Key.out w2 ho2 hk2; have Fin := hide fin; clear fin ho2 hk2)
            go_ret
            exact ⟨rfl, Fin.out⟩
      · have e : writeC room n s (B.map Bu.en) (k : Int) off b = (B.map Bu.en, er) := by simp [writeC, hin, hoff, hr, her]
        rw [e]
        have hc := comein_err k h (by omega) hpl hk A1 y er hr her
        have hnb : (er != 0) = true := by simp [her]
        have H0 := hide h0
        have Hc := hide hc
        clear h h0 e hr hc hin hoff
        go_enter Try.func16, Try.ntmps16
        go_wp2_with fail
        refine hf.mono ?_
        rintro e w' ⟨rfl, rfl⟩
        go_wp2_with fail
        refine Hc.out.mono ?_
        rintro e w1 ⟨rfl, hb1⟩
        go_wp2_with fail
        go_ret
        exact ⟨rfl, S, CT.below (H0.out.more (Nat.le_succ _)) hb1⟩

end

end Go.Proofs.Ytjcmmigbkhiplaa
