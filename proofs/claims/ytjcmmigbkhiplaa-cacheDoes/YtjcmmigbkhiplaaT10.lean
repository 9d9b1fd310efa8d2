/- Contracts: New of the document's cache; the disk's calls past both caches. Both caches side by side (Tx); contract: same. What stands between two operations of CacheDoes. -/
import Derived.Test.YtjcmmigbkhiplaaT6
import Derived.Test.YtjcmmigbkhiplaaL1
import Derived.Test.YtjcmmigbkhiplaaQ9
import Derived.Test.YtjcmmigbkhiplaaT7
import Derived.Test.YtjcmmigbkhiplaaN2
import Derived.Test.YtjcmmigbkhiplaaCameO
set_option linter.unusedSimpArgs false
set_option linter.unusedVariables false
namespace Go.Proofs.Ytjcmmigbkhiplaa
open Go.RowKit Go.Attic

section
variable {w w' : World} {c g : Nat} {S : Nat → Prop} {room n Q : Nat} {s s' : St} {A : List En}

theorem RDx.made {q p : Option Nat} {Fd : Nat → Prop} (hd : Dr w g q p Fd n s) :
    RDx (w.alloc (.cells #[.pointer (some ⟨g, 0, none⟩), .int .i64 (room : Int), .slice none 0 0] 78)) w.heap.size g (fun k => k = w.heap.size ∨ OwnR g Fd k) room n s [] (fun _ => False) q p Fd := by
  have ho := hd.ownLt
  refine ⟨⟨?_, ?_, ⟨.slice none 0 0, ?_, Es.nil _ _⟩, ?_, id, fun k hk => hk.elim⟩, ?_, ?_, ?_, ?_⟩
  · simp
  · simp
  · simp
  · simp
  · exact hd.mono ((Below.refl _ w).alloc (Nat.le_refl _) _)
  · rintro k (e | e) hk
    · have := ho k hk; omega
    · exact e
  · rintro k ((e | e) | e)
    · exact .inl e
    · exact e.elim
    · exact .inr e
  · rintro k (e | e)
    · simp; omega
    · have := ho k e; simp; omega

def NewRD (w : World) (g : Nat) (Fd : Nat → Prop) (room n : Nat) (s : St) (e : Ending) (w' : World) : Prop :=
  ∃ c S, e = .returned (.tuple #[.pointer (some ⟨c, 0, none⟩), .int .i64 0]) ∧ RD w' c g S room n s [] ∧ Below w.heap.size w w' ∧ ∀ k, S k → OwnR g Fd k ∨ w.heap.size ≤ k

set_option maxRecDepth 100000 in
set_option maxHeartbeats 1000000 in
theorem rcnew_yes {q p : Option Nat} {Fd : Nat → Prop} (hd : Dr w g q p Fd n s) (h2 : 2 ≤ room) (hr : room ≤ 256) :
    Calls Try.prog 11 #[.pointer (some ⟨g, 0, none⟩), .int .i64 (room : Int)] w (NewRD w g Fd room n s) := by
  have hM := RDx.made (room := room) hd
  have HM := hide hM
  clear hd hM
  go_enter Try.func11, Try.ntmps11
  go_wp2_with fail
  go_ret2
  refine ⟨w.heap.size, _, rfl, ⟨_, _, _, _, _, HM.out, rfl⟩, (Below.refl _ w).alloc (Nat.le_refl _) _, ?_⟩
  rintro k (e | e)
  · exact .inr (by omega)
  · exact .inl e

set_option maxRecDepth 100000 in
set_option maxHeartbeats 1000000 in
theorem rcnew_no (a : Value) (r : Int) (h : ¬ (2 ≤ r ∧ r ≤ 256)) :
    Calls Try.prog 11 #[a, .int .i64 r] w fun e w' => e = .returned (.tuple #[.pointer none, .int .i64 1]) ∧ w = w' := by
  by_cases h1 : r < 2
  · clear h
    go_enter Try.func11, Try.ntmps11
    go_wp2_with fail
    go_ret2
    exact ⟨rfl, rfl⟩
  · have h3 : 256 < r := by omega
    clear h
    go_enter Try.func11, Try.ntmps11
    go_wp2_with fail
    go_ret2
    exact ⟨rfl, rfl⟩

/-- The disk turned under a cache. -/
theorem CD.turned {f : FuncId} {args : Array Value} {r : Int} (h : CD w c g S room n Q s A) (hc : ∀ gm p Fd, Dk w g gm p Fd n s → Calls Try.prog f args w fun e w' => e = .returned (.int .i64 r) ∧ Turn w g gm Fd n s' w') :
    Calls Try.prog f args w fun e w' => e = .returned (.int .i64 r) ∧ ∃ S1, CT w c g S room n Q s' A w' S1 := by
  obtain ⟨m, q, B, F, gm, p, Fd, h1, rfl, h3⟩ := h
  refine (hc _ _ _ h1.dk).mono ?_
  rintro e w' ⟨rfl, hT⟩
  obtain ⟨p', Fd', S', h4, h5, h6⟩ := h1.dturn hT
  exact ⟨rfl, S', ⟨m, q, B, F, gm, p', Fd', h4, rfl, h3⟩, h5, h6⟩

end

end Go.Proofs.Ytjcmmigbkhiplaa

set_option linter.unusedSimpArgs false
set_option linter.unusedVariables false
namespace Go.Proofs.Ytjcmmigbkhiplaa
open Go.RowKit Go.Attic

/-- The cache and the document's, their blocks apart from each other and from those of P. -/
def Tx (P : Nat → Prop) (w : World) (c g c' g' room n Q : Nat) (s : St) (A : List En) (s' : St) (A' : List En) : Prop :=
  ∃ S S', CD w c g S room n Q s A ∧ RD w c' g' S' room n s' A' ∧ (∀ k, S k → ¬ S' k) ∧ ∀ k, P k → k < w.heap.size ∧ ¬ S k ∧ ¬ S' k

section
variable {P : Nat → Prop} {w w' : World} {c g c' g' room n Q : Nat} {s : St} {A : List En} {s' : St} {A' : List En}

theorem Tx.mono (h : Tx P w c g c' g' room n Q s A s' A') (hb : Below w.heap.size w w') : Tx P w' c g c' g' room n Q s A s' A' := by
  obtain ⟨S, S', h1, h2, h3, h4⟩ := h
  exact ⟨S, S', h1.mono hb, h2.mono hb, h3, fun k hk => ⟨Nat.lt_of_lt_of_le (h4 k hk).1 hb.size, (h4 k hk).2⟩⟩
theorem Tx.more {Q' : Nat} (h : Tx P w c g c' g' room n Q s A s' A') (hQ : Q ≤ Q') : Tx P w c g c' g' room n Q' s A s' A' := by
  obtain ⟨S, S', h1, h2, h3, h4⟩ := h
  exact ⟨S, S', h1.more hQ, h2, h3, h4⟩
theorem Tx.sub {P' : Nat → Prop} (h : Tx P w c g c' g' room n Q s A s' A') (hP : ∀ k, P' k → P k) : Tx P' w c g c' g' room n Q s A s' A' := by
  obtain ⟨S, S', h1, h2, h3, h4⟩ := h
  exact ⟨S, S', h1, h2, h3, fun k hk => h4 k (hP k hk)⟩
theorem Tx.add (h : Tx P w c g c' g' room n Q s A s' A') (hb : Below w.heap.size w w') : Tx (fun k => P k ∨ (w.heap.size ≤ k ∧ k < w'.heap.size)) w' c g c' g' room n Q s A s' A' := by
  obtain ⟨S, S', h1, h2, h3, h4⟩ := h
  have l1 := h1.lt
  have l2 := h2.lt
  refine ⟨S, S', h1.mono hb, h2.mono hb, h3, fun k hk => ?_⟩
  rcases hk with hk | hk
  · exact ⟨Nat.lt_of_lt_of_le (h4 k hk).1 hb.size, (h4 k hk).2⟩
  · exact ⟨hk.2, fun e => by have := l1 k e; omega, fun e => by have := l2 k e; omega⟩
theorem Tx.keeps {T : Nat → Prop} (h : Tx P w c g c' g' room n Q s A s' A') (hk : Keeps T w w') (hT : ∀ k, T k → P k) : Tx P w' c g c' g' room n Q s A s' A' := by
  obtain ⟨S, S', h1, h2, h3, h4⟩ := h
  exact ⟨S, S', h1.keeps hk (fun k hk' ht => (h4 k (hT k ht)).2.1 hk'), h2.keeps hk (fun k hk' ht => (h4 k (hT k ht)).2.2 hk'), h3, fun k hk' => ⟨Nat.lt_of_lt_of_le (h4 k hk').1 hk.size, (h4 k hk').2⟩⟩

theorem Tx.stepA {f : FuncId} {args : Array Value} {Z : Ending → World → Prop} {Q1 : Nat} {s1 : St} {A1 : List En} (h : Tx P w c g c' g' room n Q s A s' A')
    (hc : ∀ S, CD w c g S room n Q s A → (∀ k, P k → ¬ S k) → Calls Try.prog f args w fun e w' => Z e w' ∧ ∃ S1, CT w c g S room n Q1 s1 A1 w' S1) :
    Calls Try.prog f args w fun e w' => Z e w' ∧ Tx P w' c g c' g' room n Q1 s1 A1 s' A' ∧ Keeps (fun k => ¬ P k) w w' := by
  obtain ⟨S, S', h1, h2, h3, h4⟩ := h
  refine (hc S h1 (fun k hk => (h4 k hk).2.1)).mono ?_
  rintro e w' ⟨hZ, S1, h5, h6, h7⟩
  refine ⟨hZ, ⟨S1, S', h5, h2.keeps h6 (fun k hk hs => h3 k hs hk), fun k hk hk' => ?_, fun k hk => ⟨Nat.lt_of_lt_of_le (h4 k hk).1 h6.size, fun hs => ?_, (h4 k hk).2.2⟩⟩, h6.mono (fun k hk hp => (h4 k hp).2.1 hk)⟩
  · rcases h7 k hk with h | h
    · exact h3 k h hk'
    · have := h2.lt k hk'; omega
  · rcases h7 k hs with h | h
    · exact (h4 k hk).2.1 h
    · have := (h4 k hk).1; omega

theorem Tx.stepB {f : FuncId} {args : Array Value} {Z : Ending → World → Prop} {s1 : St} {A1 : List En} (h : Tx P w c g c' g' room n Q s A s' A')
    (hc : ∀ S, RD w c' g' S room n s' A' → (∀ k, P k → ¬ S k) → Calls Try.prog f args w fun e w' => Z e w' ∧ ∃ S1, RT w c' g' S room n s1 A1 w' S1) :
    Calls Try.prog f args w fun e w' => Z e w' ∧ Tx P w' c g c' g' room n Q s A s1 A1 ∧ Keeps (fun k => ¬ P k) w w' := by
  obtain ⟨S, S', h1, h2, h3, h4⟩ := h
  refine (hc S' h2 (fun k hk => (h4 k hk).2.2)).mono ?_
  rintro e w' ⟨hZ, S1, h5, h6, h7⟩
  refine ⟨hZ, ⟨S, S1, h1.keeps h6 (fun k hk hs => h3 k hk hs), h5, fun k hk hk' => ?_, fun k hk => ⟨Nat.lt_of_lt_of_le (h4 k hk).1 h6.size, (h4 k hk).2.1, fun hs => ?_⟩⟩, h6.mono (fun k hk hp => (h4 k hp).2.2 hk)⟩
  · rcases h7 k hk' with h | h
    · exact h3 k hk h
    · have := h1.lt k hk; omega
  · rcases h7 k hs with h | h
    · exact (h4 k hk).2.2 h
    · have := (h4 k hk).1; omega

theorem Tx.readA (h : Tx P w c g c' g' room n Q s A s' A') (i : Int) (hQ : Q ≤ 1000000) (hpl : s.pend.length ≤ 1000000) (h2 : 1 ≤ room) :
    Calls Try.prog 12 #[.pointer (some ⟨c, 0, none⟩), .int .i64 i] w fun e w' => ∃ v, e = .returned (.tuple #[v, .int .i64 (readC room n s A i).2.2]) ∧ w'.ownsRow w.heap.size 5 1 v (readC room n s A i).2.1.length (cellsB (readC room n s A i).2.1) ∧
      Tx (fun k => P k ∨ v.ownBlock = some k) w' c g c' g' room n (Q + 1) s (readC room n s A i).1 s' A' ∧ Keeps (fun k => ¬ P k) w w' := by
  obtain ⟨S, S', h1, h2', h3, h4⟩ := h
  refine (cread_any h1 i hQ hpl h2).mono ?_
  rintro e w' ⟨v, S1, rfl, ho, ⟨h5, h6, h7⟩, hv⟩
  refine ⟨v, rfl, ho, ⟨S1, S', h5, h2'.keeps h6 (fun k hk hs => h3 k hs hk), fun k hk hk' => ?_, fun k hk => ?_⟩, h6.mono (fun k hk hp => (h4 k hp).2.1 hk)⟩
  · rcases h7 k hk with h | h
    · exact h3 k h hk'
    · have := h2'.lt k hk'; omega
  · rcases hk with hk | hk
    · refine ⟨Nat.lt_of_lt_of_le (h4 k hk).1 h6.size, fun hs => ?_, (h4 k hk).2.2⟩
      rcases h7 k hs with h | h
      · exact (h4 k hk).2.1 h
      · have := (h4 k hk).1; omega
    · exact ⟨owns_lt' ho k hk, hv k hk, fun hs => by have := h2'.lt k hs; have := owns_lt ho k hk; omega⟩

theorem Tx.readB (h : Tx P w c g c' g' room n Q s A s' A') (hn : A'.length ≤ 256) (hnd : A'.Pairwise (fun x y => x.i ≠ y.i)) (i : Int) (hpl : s'.pend.length ≤ 1000000) (hr0 : 1 ≤ room) (hr2 : room ≤ 256) :
    Calls Try.prog 13 #[.pointer (some ⟨c', 0, none⟩), .int .i64 i] w fun e w' => ∃ v, e = .returned (.tuple #[v, .int .i64 (readC room n s' A' i).2.2]) ∧ w'.ownsRow w.heap.size 5 1 v (readC room n s' A' i).2.1.length (cellsB (readC room n s' A' i).2.1) ∧
      Tx (fun k => P k ∨ v.ownBlock = some k) w' c g c' g' room n Q s A s' (readC room n s' A' i).1 ∧ Keeps (fun k => ¬ P k) w w' := by
  obtain ⟨S, S', h1, h2, h3, h4⟩ := h
  refine (rread_c h2 hn hnd i hpl hr0 hr2).mono ?_
  rintro e w' ⟨v, S1, rfl, ho, ⟨h5, h6, h7⟩, hv⟩
  refine ⟨v, rfl, ho, ⟨S, S1, h1.keeps h6 (fun k hk hs => h3 k hk hs), h5, fun k hk hk' => ?_, fun k hk => ?_⟩, h6.mono (fun k hk hp => (h4 k hp).2.2 hk)⟩
  · rcases h7 k hk' with h | h
    · exact h3 k hk h
    · have := h1.lt k hk; omega
  · rcases hk with hk | hk
    · refine ⟨Nat.lt_of_lt_of_le (h4 k hk).1 h6.size, (h4 k hk).2.1, fun hs => ?_⟩
      rcases h7 k hs with h | h
      · exact (h4 k hk).2.2 h
      · have := (h4 k hk).1; omega
    · exact ⟨owns_lt' ho k hk, fun hs => by have := h1.lt k hs; have := owns_lt ho k hk; omega, hv k hk⟩

end

section
variable {w w' : World} {c g c' g' : Nat} {S S' : Nat → Prop} {room n Q : Nat} {s s' : St} {A : List En}

theorem any_fst (E : List (En × Value)) (f : En → Bool) : (E.map Prod.fst).any f = E.any fun x => f x.1 := by rw [List.any_map]; rfl

set_option maxRecDepth 100000 in
set_option maxHeartbeats 2000000 in
theorem same_any (h : CD w c g S room 9 Q s A) (h' : RD w c' g' S' room 9 s' A) (hr : room ≤ 256) (hin : ∀ x ∈ A, x.i < 9) :
    Calls Try.prog 26 #[.pointer (some ⟨c, 0, none⟩), .pointer (some ⟨c', 0, none⟩)] w fun e w' => e = .returned (.bool true) ∧ Below w.heap.size w w' := by
  have hnd := h.nodup
  have hfew := h.few
  have hdl : (dirtyL A).length ≤ A.length := by
    rw [dirtyL_len]
    exact List.length_filter_le (fun x : En => x.d) A
  have hlen := clen_any h hr
  have hA : ∀ W, Below w.heap.size w W → ∃ E F q p Fd, RDx W c' g' S' room 9 s' E F q p Fd ∧ E.map Prod.fst = A := fun W hW => h'.mono hW
  have hdr : ∀ W, Below w.heap.size w W → Calls Try.prog 40 #[.pointer (some ⟨c', 0, none⟩)] W fun e w' => ∃ v, e = .returned v ∧ w'.ownsRow W.heap.size 3 1 v (dirtyL A).length (cellsI (dirtyL A)) ∧ Below W.heap.size W w' := fun W hW => by
    obtain ⟨E, F, q, p, Fd, hx, hE⟩ := hA W hW
    have := rdirty_any hx (by rw [← List.length_map (f := Prod.fst), hE]; omega) (NodupE.of (by rw [hE]; exact hnd))
    rw [hE, dlJ_all hnd hin] at this
    exact this
  have hc2 : ∃ ao cap, w.cell? ⟨c', 2, none⟩ = some (.slice ao A.length cap) := by
    obtain ⟨E, F, q, p, Fd, hx, hE⟩ := hA w (Below.refl _ _)
    obtain ⟨v, x2, hEs⟩ := hx.rc.c2
    obtain ⟨ao, cap, rfl, -⟩ := hEs.slice
    exact ⟨ao, cap, by rw [← hE, List.length_map]; exact x2⟩
  have hdd : ∀ W, Below w.heap.size w W → ∀ most : Nat, most ≤ 4611686018427387904 → Calls Try.prog 32 #[.pointer (some ⟨c, 0, none⟩), .int .i64 (most : Int)] W fun e w' => ∃ v, e = .returned v ∧ w'.ownsRow W.heap.size 3 1 v ((dirtyL A).take most).length (cellsI ((dirtyL A).take most)) ∧ Below W.heap.size W w' := fun W hW most hm => dirty_any (h.mono hW) hr most hm
  have hha : ∀ W, Below w.heap.size w W → ∀ i : Int, -9223372036854775808 ≤ i ∧ i ≤ 9223372036854775807 → Calls Try.prog 31 #[.pointer (some ⟨c, 0, none⟩), .int .i64 i] W fun e w' => e = .returned (.bool (A.any fun x => (x.i : Int) == i)) ∧ W = w' := fun W hW i hi => has_any (h.mono hW) i hi
  have hhb : ∀ W, Below w.heap.size w W → ∀ i : Int, Calls Try.prog 50 #[.pointer (some ⟨c', 0, none⟩), .int .i64 i] W fun e w' => e = .returned (.bool (A.any fun x => (x.i : Int) == i)) ∧ W = w' := fun W hW i => by
    obtain ⟨E, F, q, p, Fd, hx, hE⟩ := hA W hW
    have := rhas_any hx.rc i (by rw [← List.length_map (f := Prod.fst), hE]; omega)
    have e : A.any (fun x => (x.i : Int) == i) = E.any (fun x => (x.1.i : Int) == i) := by rw [← hE, List.any_map]; rfl
    rw [e]
    exact this
  obtain ⟨ao, cap, x2⟩ := hc2
  obtain ⟨zs, hzs⟩ : ∃ zs, dirtyL A = zs := ⟨_, rfl⟩
  rw [hzs] at hlen hdl
  simp only [hzs] at hdr hdd
  obtain ⟨a, ha⟩ : ∃ a, A.length = a := ⟨_, rfl⟩
  obtain ⟨z, hz⟩ : ∃ z, zs.length = z := ⟨_, rfl⟩
  rw [ha] at hlen x2 hdl hfew
  rw [hz] at hlen hdl
  simp only [hz] at hdr
  have Hdr := hide hdr
  have Hdd := hide hdd
  have Hha := hide hha
  have Hhb := hide hhb
  have Hz := hide hz
  clear hA hdr hdd hha hhb h h' hzs hz ha hnd hin
  have hza : (a : Int) - (z : Int) ≤ 256 := by omega
  go_enter Try.func26, Try.ntmps26
  go_wp2_with fail
  refine hlen.mono ?_
  rintro e w1 ⟨rfl, hb1⟩
  have hz1 := hb1.size
  go_wp2_with fail
  refine (Hdr.out w1 hb1).mono ?_
  rintro e w2 ⟨v2, rfl, ho2, hb2⟩
  obtain ⟨a2, c2, rfl⟩ := owns_slice ho2
  have hb02 : Below w.heap.size w w2 := hb1.trans (hb2.mono hz1)
  have x2' := (Keeps.of_below (S := fun _ => False) hb02).cell x2 id
  have hi2 := Is.of_owns ho2
  have hz2 := hb02.size
  have Hi2 := hide hi2
  clear ho2 hi2
  go_wp2_with fail
  refine (Hdd.out w2 hb02 999 (by omega)).mono ?_
  rintro e w3 ⟨v3, rfl, ho3, hb3⟩
  rw [List.take_of_length_le (by have := Hz.out; omega)] at ho3
  have hi3 := Is.of_owns ho3
  rw [Hz.out] at ho3
  obtain ⟨a3, c3, rfl⟩ := owns_slice ho3
  have hb03 : Below w.heap.size w w3 := hb02.trans (hb3.mono hz2)
  have hz3 := hb03.size
  have heq := iequal_yes hi3 (Hi2.out.mono hb3) (by have := Hz.out; omega)
  have Heq := hide heq
  clear ho3 hi3 heq
  go_wp2_with fail
  refine Heq.out.mono ?_
  rintro e w4 ⟨rfl, hb4⟩
  have hb04 : Below w.heap.size w w4 := hb03.trans (hb4.mono hz3)
  have hz4 := hb04.size
  go_wp2_with fail
  refine (Hdd.out w4 hb04 1 (by omega)).mono ?_
  rintro e w5 ⟨v5, rfl, ho5, hb5⟩
  have hl5 : (zs.take 1).length = min 1 z := by rw [List.length_take, Hz.out]
  rw [hl5] at ho5
  obtain ⟨a5, c5, rfl⟩ := owns_slice ho5
  have hb05 : Below w.heap.size w w5 := hb04.trans (hb5.mono hz4)
  have hz5 := hb05.size
  clear ho5 hl5
  have hmn : min (1 : Int) (z : Int) = ((min 1 z : Nat) : Int) := by omega
  go_wp2_with fail
  go_loopw [48] (fun iv wr => ∃ j : Nat, j ≤ 11 ∧ iv = .int .i64 (j : Int) ∧ w5 = wr) (fun iv _ => 11 - (intOf iv).toNat)
  case atStart => exact ⟨0, by omega, rfl, rfl⟩
  case round =>
    obtain ⟨j, hj, rfl, rfl⟩ := hrel
    by_cases hj11 : j < 11
    · have hA := Hha.out w5 hb05 ((j : Int) - 1) (by omega)
      have hB := Hhb.out w5 hb05 ((j : Int) - 1)
      generalize (A.any fun x => (x.i : Int) == (j : Int) - 1) = bb at *
      have hji : (j : Int) < 11 := by omega
      go_wp2_with fail
      refine hA.mono ?_
      rintro e w' ⟨rfl, rfl⟩
      go_wp2_with fail
      refine hB.mono ?_
      rintro e w' ⟨rfl, rfl⟩
      go_wp2_with fail
      go_roundw
      case rel => exact ⟨j + 1, by omega, by go_num, trivial⟩
      case measure => simp [intOf]; omega
    · obtain rfl : j = 11 := by omega
      go_wp2_with fail
      go_ret
      exact ⟨by simp, hb05⟩

end

end Go.Proofs.Ytjcmmigbkhiplaa

set_option linter.unusedSimpArgs false
set_option linter.unusedVariables false
namespace Go.Proofs.Ytjcmmigbkhiplaa
open Go.RowKit Go.Attic

theorem cleanC_lt {n : Nat} {s : St} {A : List En} {N : Nat} (hn : ∀ x ∈ A, x.i < N) : ∀ x ∈ (cleanC n s A).2.1, x.i < N := by
  intro x hx
  have h1 : x.i ∈ (cleanC n s A).2.1.map En.i := List.mem_map.2 ⟨x, hx, rfl⟩
  rw [show (cleanC n s A).2.1.map En.i = A.map En.i from cleanF_i n s A _] at h1
  obtain ⟨y, hy, e⟩ := List.mem_map.1 h1
  rw [← e]
  exact hn y hy
theorem cleanC_few {n : Nat} {s : St} {A : List En} (h : A.length ≤ 256) : (cleanC n s A).1.pend.length ≤ s.pend.length + 256 ∧ (cleanC n s A).1.ops ≤ s.ops + 256 := by
  have := cleanF_pend n s A (dirtyL A)
  have h2 : (dirtyL A).length ≤ 256 := by
    rw [dirtyL_len]
    have := List.length_filter_le (fun x : En => x.d) A
    omega
  unfold cleanC
  omega
theorem armS_few (s : St) (i : Int) (p : List Nat) : (armS s i p).1.pend.length ≤ s.pend.length ∧ (armS s i p).1.ops ≤ s.ops := by
  unfold armS
  split
  · exact ⟨Nat.le_refl _, Nat.le_refl _⟩
  · split
    · exact ⟨Nat.le_refl _, Nat.le_refl _⟩
    · split <;> exact ⟨Nat.le_refl _, Nat.le_refl _⟩
theorem restartS_few (s : St) : (restartS s).1.pend.length ≤ s.pend.length ∧ (restartS s).1.ops ≤ s.ops := by
  unfold restartS
  split <;> exact ⟨Nat.le_refl _, Nat.le_refl _⟩

theorem readC_bs {room n : Nat} {s : St} {A : List En} {i : Int} (h : ∀ x ∈ (readC room n s A i).1, x.l.length = 256 ∧ ∀ y ∈ x.l, y < 256) : (readC room n s A i).2.1.length ≤ 256 ∧ ∀ y ∈ (readC room n s A i).2.1, y < 256 := by
  unfold readC at h ⊢
  split
  · simp
  · rename_i h1
    rw [if_neg h1] at h
    split
    · rename_i h2
      rw [if_pos h2] at h
      have := h (comeL room s A i.toNat).2.1 (by simp)
      exact ⟨by simp [this.1], this.2⟩
    · simp

/-- What stands between two operations of the script. -/
def DI (w wr : World) (c g c' g' room k : Nat) : Prop :=
  ∃ s A, Tx (fun b => b < w.heap.size) wr c g c' g' room 9 k s A s A ∧ (∀ x ∈ A, x.i < 9) ∧ s.pend.length ≤ 300 * k ∧ s.ops ≤ 300 * k ∧ Below w.heap.size w wr

theorem DI.mono {w wr w' : World} {c g c' g' room k : Nat} (h : DI w wr c g c' g' room k) (hb : Below wr.heap.size wr w') : DI w w' c g c' g' room k := by
  obtain ⟨s, A, h1, h2, h3, h4, h5⟩ := h
  exact ⟨s, A, h1.mono hb, h2, h3, h4, h5.trans (hb.mono h5.size)⟩

theorem nb {P : Nat → Prop} {w a b : World} (hk : Keeps (fun k => ¬ P k) a b) (hP : ∀ k, k < w.heap.size → P k) (hz : w.heap.size ≤ a.heap.size) : Below w.heap.size a b :=
  hk.below (fun k hk' => by by_cases h : k < w.heap.size; exact absurd (hP k h) hk'; omega) hz

section
variable {P : Nat → Prop} {w w' : World} {c g c' g' room n Q : Nat} {s : St} {A : List En} {s' : St} {A' : List En}

theorem Tx.cd (h : Tx P w c g c' g' room n Q s A s' A') : ∃ S, CD w c g S room n Q s A := by
  obtain ⟨S, S', h1, _⟩ := h
  exact ⟨S, h1⟩
theorem Tx.few (h : Tx P w c g c' g' room n Q s A s' A') : A.length ≤ room := by
  obtain ⟨S, h1⟩ := h.cd
  exact h1.few
theorem Tx.nodup (h : Tx P w c g c' g' room n Q s A s' A') : A.Pairwise (fun x y => x.i ≠ y.i) := by
  obtain ⟨S, h1⟩ := h.cd
  exact h1.nodup

theorem DI.next {P : Nat → Prop} {wr wb w4 : World} {k : Nat} {s1 : St} {A1 : List En} (hB : Below w.heap.size w wr) (kb : Below wr.heap.size wr wb) (hb : Below w.heap.size wb w4) (hT : Tx P w4 c g c' g' room 9 (k + 1) s1 A1 s1 A1) (hP : ∀ b, b < w.heap.size → P b) (hlt : ∀ x ∈ A1, x.i < 9) (hp : s1.pend.length ≤ 300 * (k + 1)) (ho : s1.ops ≤ 300 * (k + 1)) :
    DI w w4 c g c' g' room (k + 1) :=
  ⟨s1, A1, hT.sub hP, hlt, hp, ho, (hB.trans (kb.mono hB.size)).trans hb⟩

theorem Tx.writeA (h : Tx P w c g c' g' room n Q s A s' A') (i off : Int) (vb : Value) (b : List Nat) (hvb : Bs w vb b) (hvP : 0 < b.length → ∀ k, vb.ownBlock = some k → P k) (hbl : b.length ≤ 140737488355328) (hQ : Q ≤ 1000000) (hpl : s.pend.length ≤ 1000000) (h2 : 1 ≤ room) :
    Calls Try.prog 16 #[.pointer (some ⟨c, 0, none⟩), .int .i64 i, .int .i64 off, vb] w fun e w' => e = .returned (.int .i64 (writeC room n s A i off b).2) ∧ Tx P w' c g c' g' room n (Q + 1) s (writeC room n s A i off b).1 s' A' ∧ Keeps (fun k => ¬ P k) w w' :=
  h.stepA (Z := fun e w' => e = .returned (.int .i64 (writeC room n s A i off b).2)) fun S hC hP => cwrite_any hC i off vb b hvb (fun hp k hk => hP k (hvP hp k hk)) hbl hQ hpl h2
theorem Tx.writeB (h : Tx P w c g c' g' room n Q s A s' A') (hn : A'.length ≤ 256) (hnd : A'.Pairwise (fun x y => x.i ≠ y.i)) (i off : Int) (vb : Value) (b : List Nat) (hvb : Bs w vb b) (hvP : 0 < b.length → ∀ k, vb.ownBlock = some k → P k) (hbl : b.length ≤ 140737488355328) (hpl : s'.pend.length ≤ 1000000) (h2 : 1 ≤ room) (hr2 : room ≤ 256) :
    Calls Try.prog 17 #[.pointer (some ⟨c', 0, none⟩), .int .i64 i, .int .i64 off, vb] w fun e w' => e = .returned (.int .i64 (writeC room n s' A' i off b).2) ∧ Tx P w' c g c' g' room n Q s A s' (writeC room n s' A' i off b).1 ∧ Keeps (fun k => ¬ P k) w w' :=
  h.stepB (Z := fun e w' => e = .returned (.int .i64 (writeC room n s' A' i off b).2)) fun S hR hP => rwrite_c hR hn hnd i off vb b hvb (fun hp k hk => hP k (hvP hp k hk)) hbl hpl h2 hr2

theorem Tx.cleanA (h : Tx P w c g c' g' room n Q s A s' A') (hr : room ≤ 256) (hpl : s.pend.length ≤ 900000) (ho : s.ops ≤ 900000) :
    Calls Try.prog 18 #[.pointer (some ⟨c, 0, none⟩)] w fun e w' => e = .returned (.int .i64 (cleanC n s A).2.2) ∧ Tx P w' c g c' g' room n Q (cleanC n s A).1 (cleanC n s A).2.1 s' A' ∧ Keeps (fun k => ¬ P k) w w' :=
  h.stepA (Z := fun e w' => e = .returned (.int .i64 (cleanC n s A).2.2)) fun S hC hP => cclean_any hC hr hpl ho
theorem Tx.cleanB (h : Tx P w c g c' g' room n Q s A s' A') (hn : A'.length ≤ 256) (hnd : A'.Pairwise (fun x y => x.i ≠ y.i)) (hin : ∀ x ∈ A', x.i < n) (hpl : s'.pend.length ≤ 900000) (ho : s'.ops ≤ 900000) :
    Calls Try.prog 19 #[.pointer (some ⟨c', 0, none⟩)] w fun e w' => e = .returned (.int .i64 (cleanC n s' A').2.2) ∧ Tx P w' c g c' g' room n Q s A (cleanC n s' A').1 (cleanC n s' A').2.1 ∧ Keeps (fun k => ¬ P k) w w' :=
  h.stepB (Z := fun e w' => e = .returned (.int .i64 (cleanC n s' A').2.2)) fun S hR hP => rclean_any hR hn hnd hin hpl ho

theorem RD.turned {S : Nat → Prop} {f : FuncId} {args : Array Value} {r : Int} {s1 : St} (h : RD w c g S room n s A) (hc : ∀ q p Fd, Dr w g q p Fd n s → Calls Try.prog f args w fun e w' => e = .returned (.int .i64 r) ∧ TurnR w g Fd n s1 w') :
    Calls Try.prog f args w fun e w' => e = .returned (.int .i64 r) ∧ ∃ S1, RT w c g S room n s1 A w' S1 := by
  obtain ⟨E, F, q, p, Fd, h1, rfl⟩ := h
  refine (hc _ _ _ h1.dr).mono ?_
  rintro e w' ⟨rfl, hT⟩
  obtain ⟨q', p', Fd', S', h4, _, h5, h6⟩ := h1.dturn hT
  exact ⟨rfl, S', ⟨_, _, _, _, _, h4, rfl⟩, h5, h6⟩

theorem Tx.diskA (h : Tx P w c g c' g' room n Q s A s' A') (i : Int) (vb : Value) (b : List Nat) (hvb : Bs w vb b) (hbl : b.length ≤ 140737488355328) (hpl : s.pend.length < 1000000) (ho : s.ops ≤ 1000000) :
    Calls Try.prog 20 #[.pointer (some ⟨g, 0, none⟩), .int .i64 i, vb] w fun e w' => e = .returned (.int .i64 (writeS s n i b).2) ∧ Tx P w' c g c' g' room n Q (writeS s n i b).1 A s' A' ∧ Keeps (fun k => ¬ P k) w w' :=
  h.stepA (Z := fun e w' => e = .returned (.int .i64 (writeS s n i b).2)) fun S hC hP => hC.turned fun gm p Fd hd => write_yes hd i vb b hvb hbl hpl ho
theorem Tx.diskB (h : Tx P w c g c' g' room n Q s A s' A') (i : Int) (vb : Value) (b : List Nat) (hvb : Bs w vb b) (hbl : b.length ≤ 140737488355328) (hpl : s'.pend.length < 1000000) (ho : s'.ops ≤ 1000000) :
    Calls Try.prog 21 #[.pointer (some ⟨g', 0, none⟩), .int .i64 i, vb] w fun e w' => e = .returned (.int .i64 (writeS s' n i b).2) ∧ Tx P w' c g c' g' room n Q s A (writeS s' n i b).1 A' ∧ Keeps (fun k => ¬ P k) w w' :=
  h.stepB (Z := fun e w' => e = .returned (.int .i64 (writeS s' n i b).2)) fun S hR hP => hR.turned fun q p Fd hd => rwrite_yes hd i vb b hvb hbl hpl ho
theorem Tx.armA (h : Tx P w c g c' g' room n Q s A s' A') (i : Int) (hi : i ≤ 9223372036854775807) :
    Calls Try.prog 22 #[.pointer (some ⟨g, 0, none⟩), .int .i64 i, .slice none 0 0] w fun e w' => e = .returned (.int .i64 (armS s i []).2) ∧ Tx P w' c g c' g' room n Q (armS s i []).1 A s' A' ∧ Keeps (fun k => ¬ P k) w w' :=
  h.stepA (Z := fun e w' => e = .returned (.int .i64 (armS s i []).2)) fun S hC hP => hC.turned fun gm p Fd hd => arm_yes hd i _ [] (Bs.nil w) (by simp [Value.ownBlock]) (by simp) hi
theorem Tx.armB (h : Tx P w c g c' g' room n Q s A s' A') (i : Int) (hi : i ≤ 9223372036854775807) :
    Calls Try.prog 23 #[.pointer (some ⟨g', 0, none⟩), .int .i64 i, .slice none 0 0] w fun e w' => e = .returned (.int .i64 (armS s' i []).2) ∧ Tx P w' c g c' g' room n Q s A (armS s' i []).1 A' ∧ Keeps (fun k => ¬ P k) w w' :=
  h.stepB (Z := fun e w' => e = .returned (.int .i64 (armS s' i []).2)) fun S hR hP => hR.turned fun q p Fd hd => rarm_yes hd i _ [] (Bs.nil w) (by simp [Value.ownBlock]) (by simp) hi
theorem Tx.powerA (h : Tx P w c g c' g' room n Q s A s' A') :
    Calls Try.prog 24 #[.pointer (some ⟨g, 0, none⟩)] w fun e w' => e = .returned (.int .i64 (restartS s).2) ∧ Tx P w' c g c' g' room n Q (restartS s).1 A s' A' ∧ Keeps (fun k => ¬ P k) w w' :=
  h.stepA (Z := fun e w' => e = .returned (.int .i64 (restartS s).2)) fun S hC hP => hC.turned fun gm p Fd hd => restart_yes hd
theorem Tx.powerB (h : Tx P w c g c' g' room n Q s A s' A') :
    Calls Try.prog 25 #[.pointer (some ⟨g', 0, none⟩)] w fun e w' => e = .returned (.int .i64 (restartS s').2) ∧ Tx P w' c g c' g' room n Q s A (restartS s').1 A' ∧ Keeps (fun k => ¬ P k) w w' :=
  h.stepB (Z := fun e w' => e = .returned (.int .i64 (restartS s').2)) fun S hR hP => hR.turned fun q p Fd hd => rrestart_yes hd

/-- The images. -/
theorem Tx.images (h : Tx P w c g c' g' room n Q s A s' A') : (∀ W, Below w.heap.size w W → Calls Try.prog 27 #[.pointer (some ⟨g, 0, none⟩)] W (NewBs W s.med)) ∧ (∀ W, Below w.heap.size w W → Calls Try.prog 28 #[.pointer (some ⟨g', 0, none⟩)] W (NewBs W s'.med)) ∧ ∀ y ∈ s.med, y < 256 := by
  obtain ⟨S, S', h1, h2, h3, h4⟩ := h
  obtain ⟨m, q, B, F, gm, p, Fd, hx, -, -⟩ := h1
  obtain ⟨E, F2, q2, p2, Fd2, hy, -⟩ := h2
  exact ⟨fun W hW => image_yes (hx.dk.mono hW), fun W hW => rimage_yes (hy.dr.mono hW), hx.dk.ok.lt⟩
theorem Tx.same (h : Tx P w c g c' g' room 9 Q s A s' A) (hr : room ≤ 256) (hin : ∀ x ∈ A, x.i < 9) :
    Calls Try.prog 26 #[.pointer (some ⟨c, 0, none⟩), .pointer (some ⟨c', 0, none⟩)] w fun e w' => e = .returned (.bool true) ∧ Below w.heap.size w w' := by
  obtain ⟨S, S', h1, h2, h3, h4⟩ := h
  exact same_any h1 h2 hr hin

end

end Go.Proofs.Ytjcmmigbkhiplaa
