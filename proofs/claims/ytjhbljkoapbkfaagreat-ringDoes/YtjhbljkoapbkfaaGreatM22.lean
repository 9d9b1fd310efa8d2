/- Contracts: Same of two records, and the document's; Clone, and the document's. Contracts: SameAll, patch. Append where the power is on; a crash behind records that were not synced. -/
import Derived.Test.YtjhbljkoapbkfaaGreatM2
import Derived.Test.YtjhbljkoapbkfaaGreatM21
set_option linter.unusedSimpArgs false
set_option linter.unusedVariables false

namespace Go.Proofs.YtjhbljkoapbkfaaGreat
open Go.RowKit Go.Attic

def sameB (k b o m : Int) (l : List Nat) (k' b' o' m' : Int) (l' : List Nat) : Bool := decide (k = k' ∧ b = b' ∧ o = o' ∧ m = m' ∧ l = l')

set_option maxRecDepth 100000 in
set_option maxHeartbeats 400000 in
theorem rsame_any (k b o m k' b' o' m' : Int) (v v' : Value) (l l' : List Nat) (w : World) (hv : Bs w v l) (hv' : Bs w v' l') :
    Calls Tryz.prog 18 #[.agg #[.int .i64 k, .int .i64 b, .int .i64 o, v, .int .i64 m], .agg #[.int .i64 k', .int .i64 b', .int .i64 o', v', .int .i64 m']] w fun e w2 => e = .returned (.bool (sameB k b o m l k' b' o' m' l')) ∧ Below w.heap.size w w2 := by
  obtain ⟨ao, cap, rfl, -⟩ := id hv
  obtain ⟨ao', cap', rfl, -⟩ := id hv'
  have c1 := fun o1 o2 => ((hv.alloc o1).alloc o2).convert (P := Tryz.prog) 30 5 9 Tryz.underlying30 Tryz.underlying5 Tryz.underlying9
  have c2 := fun o1 o2 => ((hv'.alloc o1).alloc o2).convert (P := Tryz.prog) 30 5 9 Tryz.underlying30 Tryz.underlying5 Tryz.underlying9
  have hb := strB_beq hv.lt hv'.lt
  clear hv hv'
  by_cases h0 : k = k'
  case neg =>
    have hq : (k == k') = false := by simp [h0]
    rw [show sameB k b o m l k' b' o' m' l' = false by simp [sameB, h0]]
    clear c1 c2 hb
    go_enter Tryz.func18, Tryz.ntmps18
    go_wp2_with fail
    go_ret
    exact ⟨rfl, ((Below.refl _ w).alloc (Nat.le_refl _) _).alloc (by simp) _⟩
  subst h0
  by_cases h1 : b = b'
  case neg =>
    have hq : (b == b') = false := by simp [h1]
    rw [show sameB k b o m l k b' o' m' l' = false by simp [sameB, h1]]
    clear c1 c2 hb
    go_enter Tryz.func18, Tryz.ntmps18
    go_wp2_with fail
    go_ret
    exact ⟨rfl, ((Below.refl _ w).alloc (Nat.le_refl _) _).alloc (by simp) _⟩
  subst h1
  by_cases h2 : o = o'
  case neg =>
    have hq : (o == o') = false := by simp [h2]
    rw [show sameB k b o m l k b o' m' l' = false by simp [sameB, h2]]
    clear c1 c2 hb
    go_enter Tryz.func18, Tryz.ntmps18
    go_wp2_with fail
    go_ret
    exact ⟨rfl, ((Below.refl _ w).alloc (Nat.le_refl _) _).alloc (by simp) _⟩
  subst h2
  by_cases hl : l = l'
  case neg =>
    rw [decide_eq_false hl] at hb
    rw [show sameB k b o m l k b o m' l' = false by simp [sameB, hl]]
    clear hl
    go_enter Tryz.func18, Tryz.ntmps18
    go_wp2_with fail
    go_ret
    exact ⟨rfl, ((Below.refl _ w).alloc (Nat.le_refl _) _).alloc (by simp) _⟩
  rw [decide_eq_true hl] at hb
  by_cases h4 : m = m'
  case neg =>
    have hq : (m == m') = false := by simp [h4]
    rw [show sameB k b o m l k b o m' l' = false by simp [sameB, h4]]
    clear hl h4
    go_enter Tryz.func18, Tryz.ntmps18
    go_wp2_with fail
    go_ret
    exact ⟨rfl, ((Below.refl _ w).alloc (Nat.le_refl _) _).alloc (by simp) _⟩
  subst h4
  rw [show sameB k b o m l k b o m l' = true by simp [sameB, hl]]
  clear hl
  go_enter Tryz.func18, Tryz.ntmps18
  go_wp2_with fail
  go_ret
  exact ⟨rfl, ((Below.refl _ w).alloc (Nat.le_refl _) _).alloc (by simp) _⟩


end Go.Proofs.YtjhbljkoapbkfaaGreat

namespace Go.Proofs.YtjhbljkoapbkfaaGreat
open Go.RowKit Go.Attic Go.Shelf

theorem RcAt.held {w : World} {b off : Nat} {r : Rc} {v : Value} (h : RcAt w b off r v) : w.cell? ⟨b, off, none⟩ = some (.int .i64 r.k) ∧ w.cell? ⟨b, off + 1, none⟩ = some (.int .i64 r.b) ∧ w.cell? ⟨b, off + 2, none⟩ = some (.int .i64 r.o) ∧ w.cell? ⟨b, off + 3, none⟩ = some v ∧ w.cell? ⟨b, off + 4, none⟩ = some (.int .i64 r.m) := ⟨h.c0, h.c1, h.c2, h.c3, h.c4⟩
theorem RcAt.mono {w w' : World} {b off : Nat} {r : Rc} {v : Value} (h : RcAt w b off r v) (hb : Below w.heap.size w w') : RcAt w' b off r v := h.keeps (S := fun _ => False) (Keeps.of_below hb) id

set_option maxRecDepth 100000 in
set_option maxHeartbeats 1000000 in
theorem sameAll_yes (w : World) (F1 F2 : Nat → Prop) (v1 v2 : Value) (rs : List Rc) (h1 : Rs w F1 v1 rs) (h2 : Rs w F2 v2 rs) (hlen : rs.length ≤ 140737488355328) :
    Calls Tryz.prog 32 #[v1, v2] w fun e w' => e = .returned (.bool true) ∧ Below w.heap.size w w' := by
  obtain ⟨a1, c1, e1, hc1⟩ := h1.slice
  obtain ⟨a2, c2, e2, hc2⟩ := h2.slice
  obtain ⟨L, hL⟩ : ∃ L, rs.length = L := ⟨_, rfl⟩
  rw [hL] at e1 e2 hlen hc1 hc2
  subst e1 e2
  have HL := hide hL
  have H1 := hide h1
  have H2 := hide h2
  clear h1 h2 hL
  go_enter Tryz.func32, Tryz.ntmps32
  go_wp2_with fail
  go_loopw [5] (fun i wr => ∃ k : Nat, k ≤ L ∧ i = .int .i64 (k : Int) ∧ Below w.heap.size w wr) (fun i _ => L - (intOf i).toNat)
  case atStart => exact ⟨0, Nat.zero_le _, rfl, Below.refl _ _⟩
  case round =>
    obtain ⟨k, hk, rfl, hbr⟩ := hrel
    by_cases hkL : k < L
    · have hkl : k < rs.length := by have := HL.out; omega
      obtain ⟨-, b1, o1, u1, rfl, -, hat1, hub1, -⟩ := (H1.out.mono hbr).at k hkl
      obtain ⟨-, b2, o2, u2, rfl, -, hat2, hub2, -⟩ := (H2.out.mono hbr).at k hkl
      generalize rs[k] = x at *
      have hsm : sameB x.k x.b x.o x.m x.l x.k x.b x.o x.m x.l = true := by simp [sameB]
      obtain ⟨ua1, uc1, rfl, -⟩ := id hub1
      obtain ⟨ua2, uc2, rfl, -⟩ := id hub2
      have x0 := hat1.c0
      have x1 := hat1.c1
      have x2 := hat1.c2
      have x3 := hat1.c3
      have x4 := hat1.c4
      have y0 := hat2.c0
      have y1 := hat2.c1
      have y2 := hat2.c2
      have y3 := hat2.c3
      have y4 := hat2.c4
      have hcall := rsame_any x.k x.b x.o x.m x.k x.b x.o x.m (.slice ua1 x.l.length uc1) (.slice ua2 x.l.length uc2) x.l x.l wr.drew hub1.drew hub2.drew
      rw [hsm] at hcall
      have Ht1 := hide hat1
      have Ht2 := hide hat2
      clear hat1 hat2 hsm
      go_wp2_with fail
      go_region_held3 (fun w' => (w'.cell? ⟨b1, o1 + k * 5, none⟩ = some (.int .i64 x.k) ∧ w'.cell? ⟨b1, o1 + k * 5 + 1, none⟩ = some (.int .i64 x.b) ∧ w'.cell? ⟨b1, o1 + k * 5 + 2, none⟩ = some (.int .i64 x.o) ∧ w'.cell? ⟨b1, o1 + k * 5 + 3, none⟩ = some (.slice ua1 x.l.length uc1) ∧ w'.cell? ⟨b1, o1 + k * 5 + 4, none⟩ = some (.int .i64 x.m)) ∧ (w'.cell? ⟨b2, o2 + k * 5, none⟩ = some (.int .i64 x.k) ∧ w'.cell? ⟨b2, o2 + k * 5 + 1, none⟩ = some (.int .i64 x.b) ∧ w'.cell? ⟨b2, o2 + k * 5 + 2, none⟩ = some (.int .i64 x.o) ∧ w'.cell? ⟨b2, o2 + k * 5 + 3, none⟩ = some (.slice ua2 x.l.length uc2) ∧ w'.cell? ⟨b2, o2 + k * 5 + 4, none⟩ = some (.int .i64 x.m)))
        (first | exact ⟨Ht1.out.held, Ht2.out.held⟩ | exact ⟨(Ht1.out.mono hb4').held, (Ht2.out.mono hb4').held⟩)
        (first | (go_at_call 18; refine hcall.mono ?_; rintro e w4 ⟨rfl, hb4⟩; have hb4' : Below wr.heap.size wr w4 := ⟨hb4.os, hb4.tape, hb4.output, hb4.size, hb4.block⟩))
      rename_i hHeld
      clear hHeld hcall
      go_wp2_with fail
      go_roundw
      case rel => exact ⟨k + 1, by omega, by go_num, hbr.trans (hb4'.mono hbr.size)⟩
      case measure => simp [intOf]; omega
    · obtain rfl : k = L := by omega
      go_wp2_with fail
      go_ret
      exact ⟨by simp, hbr⟩

/-- The statement's record of a number. -/
def patchR (n : Nat) : Rc := ⟨1, n, 3, 0, [n, 7]⟩

theorem bs_two (w : World) (o : Obj) (a : Nat) (ha : a < 256) : Bs ((w.alloc o).alloc (.cells #[.int .u8 (a : Int), .int .u8 7] 5)) (.slice (some ⟨w.heap.size + 1, 0, none⟩) 2 2) [a, 7] := by
  have hb : ((w.alloc o).alloc (.cells #[.int .u8 (a : Int), .int .u8 7] 5)).heap[w.heap.size + 1]? = some (.cells #[.int .u8 (a : Int), .int .u8 7] 5 (0, 0)) := by
    have := World.alloc_heap_new (w.alloc o) (.cells #[.int .u8 (a : Int), .int .u8 7] 5)
    simpa using this
  refine ⟨some ⟨w.heap.size + 1, 0, none⟩, 2, rfl, by simp, by simp, by simp; omega, fun _ => ⟨w.heap.size + 1, 0, rfl, fun i hi => ?_⟩⟩
  unfold World.cell?
  rw [hb]
  match i, hi with
  | 0, _ => rfl
  | 1, _ => rfl

set_option maxRecDepth 100000 in
set_option maxHeartbeats 400000 in
theorem patch_1 (w : World) : Calls Tryz.prog 15 #[.int .i64 1] w fun e w' => ∃ ub, e = .returned (.agg #[.int .i64 1, .int .i64 1, .int .i64 3, .slice (some ⟨ub, 0, none⟩) 2 2, .int .i64 0]) ∧ Bs w' (.slice (some ⟨ub, 0, none⟩) 2 2) [1, 7] ∧ w.heap.size ≤ ub ∧ ub < w'.heap.size ∧ Below w.heap.size w w' := by
  go_enter Tryz.func15, Tryz.ntmps15
  go_wp2
  refine bodyPost_ret (v := .agg #[.int .i64 1, .int .i64 1, .int .i64 3, .slice (some ⟨w.heap.size + 1, 0, none⟩) 2 2, .int .i64 0]) (by simp [results, Tryz.results15, go_sem]) rfl ⟨_, rfl, ?_, by omega, by simp, ((Below.refl _ _).alloc (Nat.le_refl _) _).alloc (by simp) _⟩
  exact bs_two w _ 1 (by omega)
set_option maxRecDepth 100000 in
set_option maxHeartbeats 400000 in
theorem patch_2 (w : World) : Calls Tryz.prog 15 #[.int .i64 2] w fun e w' => ∃ ub, e = .returned (.agg #[.int .i64 1, .int .i64 2, .int .i64 3, .slice (some ⟨ub, 0, none⟩) 2 2, .int .i64 0]) ∧ Bs w' (.slice (some ⟨ub, 0, none⟩) 2 2) [2, 7] ∧ w.heap.size ≤ ub ∧ ub < w'.heap.size ∧ Below w.heap.size w w' := by
  go_enter Tryz.func15, Tryz.ntmps15
  go_wp2
  refine bodyPost_ret (v := .agg #[.int .i64 1, .int .i64 2, .int .i64 3, .slice (some ⟨w.heap.size + 1, 0, none⟩) 2 2, .int .i64 0]) (by simp [results, Tryz.results15, go_sem]) rfl ⟨_, rfl, ?_, by omega, by simp, ((Below.refl _ _).alloc (Nat.le_refl _) _).alloc (by simp) _⟩
  exact bs_two w _ 2 (by omega)

/-- A disk of noughts holds no record; one on which a log was laid from its head on, and whose other sectors are old, holds that log. -/
theorem scanned_new {n base blocks head : Nat} {rs : List Rc} (hfit : base + blocks ≤ n) (hb : 1 ≤ blocks) (h : Scanned (secAt (newS n) base blocks) head (4 * blocks) rs) : rs = [] := by
  refine h.one ⟨fun i hi => by simp at hi, by simp, .inr ?_⟩
  have hlt : (head + 0) / 4 % blocks < blocks := Nat.mod_lt _ (by omega)
  show NoRc (secAt (newS n) base blocks (head + 0)) (head + 0)
  unfold secAt
  have e : readL (newS n) (base + (head + 0) / 4 % blocks) = blockL (newS n).med (base + (head + 0) / 4 % blocks) := by simp [readL, newS, ofS, lastW]
  rw [e, blockL_new n _ (by omega)]
  exact zeros_no _


end Go.Proofs.YtjhbljkoapbkfaaGreat

namespace Go.Proofs.YtjhbljkoapbkfaaGreat
open Go.RowKit Go.Attic Go.Shelf

theorem first_bad (l : List Rc) : (∀ x ∈ l, okRc x) ∨ ∃ j, ∃ hj : j < l.length, (∀ i (hi : i < l.length), i < j → okRc l[i]) ∧ ¬ okRc l[j] := by
  induction l with
  | nil => exact .inl (by simp)
  | cons x l ih =>
    by_cases hx : okRc x
    · rcases ih with h | ⟨j, hj, h1, h2⟩
      · exact .inl (fun y hy => by rcases List.mem_cons.1 hy with rfl | hy; exact hx; exact h y hy)
      · refine .inr ⟨j + 1, by simp; omega, fun i hi hij => ?_, by simpa using h2⟩
        cases i with
        | zero => simpa using hx
        | succ i => simpa using h1 i (by simpa using hi) (by omega)
    · exact .inr ⟨0, by simp, fun i hi hij => by omega, by simpa using hx⟩

/-- Append, where the power is on and nothing is armed: what is appended is l', which is l, or nothing. -/
theorem app_calm {w : World} {r g m : Nat} {p : Option Nat} {F Fr : Nat → Prop} {n base blocks head : Nat} {s : St} {rs : List Rc} (h : RD w r g m p F Fr n base blocks head s rs) (v : Value) (l : List Rc) (Fl : Nat → Prop) (hL : Rs w Fl v l) (hlen : l.length ≤ 140737488355328) (hlens : ∀ x ∈ l, x.l.length ≤ 140737488355328)
    (hFl : ∀ k, Fl k → k < w.heap.size ∧ ¬ OwnR r g m F Fr k) (hpl : s.pend.length + 2000 ≤ 1000000) (hops : s.ops + 2000 ≤ 1000000) (hon : s.on = true) (hleft : s.left = 0) :
    ∃ (l' : List Rc) (er : Int) (s' : St), ((er = 0 ∧ l' = l) ∨ ((er != 0) = true ∧ l' = [])) ∧ ((er = 70) ↔ ((∀ x ∈ l, okRc x) ∧ 4 * blocks < rs.length + l.length)) ∧ (∀ x ∈ l', okRc x) ∧ (∀ x ∈ l', ∀ y ∈ x.l, y < 256) ∧ rs.length + l'.length ≤ 4 * blocks ∧ (l' ≠ [] → head + rs.length + l'.length ≤ 1152921504606846976) ∧
      layN n base blocks l'.length s (head + rs.length) l' = (s', 0) ∧ Calls Tryz.prog 14 #[.pointer (some ⟨r, 0, none⟩), v] w fun e w' => e = .returned (.int .i64 er) ∧ RTurn w r g m F Fr n base blocks head s' (rs ++ l') w' := by
  have still : ∀ (er : Int), (er != 0) = true → ((er = 70) ↔ ((∀ x ∈ l, okRc x) ∧ 4 * blocks < rs.length + l.length)) → (Calls Tryz.prog 14 #[.pointer (some ⟨r, 0, none⟩), v] w fun e w' => e = .returned (.int .i64 er) ∧ Below w.heap.size w w') → _ := fun er he h70 hc =>
    (⟨[], er, s, .inr ⟨he, rfl⟩, h70, by simp, by simp, by have := h.rk.ln; simpa using this, by simp, layN_nil rfl, hc.mono (fun e w' hh => ⟨hh.1, by rw [List.append_nil]; exact h.still hh.2⟩)⟩ :
    ∃ (l' : List Rc) (er : Int) (s' : St), ((er = 0 ∧ l' = l) ∨ ((er != 0) = true ∧ l' = [])) ∧ ((er = 70) ↔ ((∀ x ∈ l, okRc x) ∧ 4 * blocks < rs.length + l.length)) ∧ (∀ x ∈ l', okRc x) ∧ (∀ x ∈ l', ∀ y ∈ x.l, y < 256) ∧ rs.length + l'.length ≤ 4 * blocks ∧ (l' ≠ [] → head + rs.length + l'.length ≤ 1152921504606846976) ∧
      layN n base blocks l'.length s (head + rs.length) l' = (s', 0) ∧ Calls Tryz.prog 14 #[.pointer (some ⟨r, 0, none⟩), v] w fun e w' => e = .returned (.int .i64 er) ∧ RTurn w r g m F Fr n base blocks head s' (rs ++ l') w')
  rcases first_bad l with hok | ⟨j, hj, h1, h2⟩
  · by_cases hro : 4 * blocks < rs.length + l.length
    · exact still 70 rfl ⟨fun _ => ⟨hok, hro⟩, fun _ => rfl⟩ (app_ring h v l Fl hL hlen hok hro)
    · by_cases hlo : 1152921504606846976 < head + rs.length + l.length
      · exact still 3 rfl ⟨fun e => by omega, fun e => by omega⟩ (app_long h v l Fl hL hlen hok (by omega) hlo)
      · obtain ⟨s', e1, _⟩ := lay_view (n := n) (base := base) (blocks := blocks) h.rk.b1 h.fit l.length s (head + rs.length) l (Nat.le_refl _) h.dk.ok hon hleft hok hL.lt (by omega)
        refine ⟨l, 0, s', .inl ⟨rfl, rfl⟩, ⟨fun e => by omega, fun e => by omega⟩, hok, hL.lt, by omega, fun _ => by omega, e1, ?_⟩
        have q := app_ok h v l Fl hL hlen hFl hpl hops hok (by omega) (by omega) (by rw [e1])
        rw [e1] at q
        exact q
  · exact still 60 rfl ⟨fun e => by omega, fun e => absurd (e.1 _ (List.getElem_mem hj)) h2⟩ (app_bad h v l Fl hL hlen j hj h1 h2 hlens)

/-- Flush, where the power is on and nothing is armed. -/
theorem flush_calm {s : St} (hon : s.on = true) (hl : s.left = 0) : (flushS s).2 = 0 ∧ (flushS s).1 = { s with ops := s.ops + 1, med := settleL s.med s.pend (List.replicate s.pend.length 15), pend := [] } := by
  simp [flushS, operS, hon, hl]

def Z64 : List Nat := List.replicate 64 0

/-- A crash behind records that were not synced. -/
theorem torn_pure {A M rs : List Rc} {s1 s3 : St} {picks : List Nat} (hA : ∀ x ∈ A, okRc x) (hAl : ∀ x ∈ A, ∀ y ∈ x.l, y < 256) (hM : ∀ x ∈ M, okRc x) (hMl : ∀ x ∈ M, ∀ y ∈ x.l, y < 256) (h0 : (newS 12).Ok 12) (hlen : A.length + M.length ≤ 40)
    (e1 : layN 12 2 10 A.length (newS 12) 40 A = (s1, 0)) (hs2 : (flushS s1).1.Ok 12) (e3 : layN 12 2 10 M.length (flushS s1).1 (40 + A.length) M = (s3, 0)) (hs3 : s3.Ok 12) (hsc : Scanned (secAt (restartS (crashS s3 picks).1).1 2 10) 40 (4 * 10) rs) :
    A.length ≤ rs.length ∧ rs.length ≤ A.length + M.length ∧ rs = (A ++ M).take rs.length := by
  obtain ⟨s1', q1, q2, q3, q4, q5, q6, q7, q8, q9⟩ := lay_view (n := 12) (base := 2) (blocks := 10) (by omega) (by omega) A.length (newS 12) 40 A (Nat.le_refl _) h0 rfl rfl hA hAl (by omega)
  rw [e1] at q1
  injection q1 with q1 _
  subst q1
  obtain ⟨f1, f2⟩ := flush_calm q3 q4
  have hz : ∀ m, secAt (newS 12) 2 10 m = Z64 := fun m => by
    have hlt : m / 4 % 10 < 10 := Nat.mod_lt _ (by omega)
    unfold secAt
    have e : readL (newS 12) (2 + m / 4 % 10) = blockL (newS 12).med (2 + m / 4 % 10) := rfl
    rw [e, blockL_new 12 _ (by omega)]
    rfl
  let Q : Nat → Nat → List Nat → Prop := fun b k c => 2 ≤ b → ((∀ h : 4 * (b - 2) + k < A.length, c = secRc (40 + (4 * (b - 2) + k)) A[4 * (b - 2) + k]) ∧ (A.length ≤ 4 * (b - 2) + k → ∀ h : 4 * (b - 2) + k < (A ++ M).length, c = Z64 ∨ c = secRc (40 + (4 * (b - 2) + k)) (A ++ M)[4 * (b - 2) + k]) ∧ ((A ++ M).length ≤ 4 * (b - 2) + k → c = Z64))
  have hview2 : ∀ b, b < 12 → ∀ k, k < 4 → secOf (blockL (flushS s1).1.med b) k = secOf (readL s1 b) k := fun b hb k hk => by
    rw [f2]
    show secOf (blockL (settleL s1.med s1.pend (List.replicate s1.pend.length 15)) b) k = _
    rw [blockL_settle s1.pend s1.med b 12 hb q2.len (fun x hx => (q2.pend x hx).2.1)]
    rfl
  have hAll2 : AllSec 12 Q (flushS s1).1 := by
    refine ⟨fun b hb k hk => ?_, fun x hx => by rw [f2] at hx; simp at hx⟩
    rw [hview2 b hb k hk]
    intro hb2
    have e : secOf (readL s1 b) k = secAt s1 2 10 (40 + (4 * (b - 2) + k)) := by
      unfold secAt
      rw [show 2 + (40 + (4 * (b - 2) + k)) / 4 % 10 = b by omega, ← secOf_mod _ (40 + (4 * (b - 2) + k)), show (40 + (4 * (b - 2) + k)) % 4 = k by omega]
    rw [e]
    refine ⟨fun h => q8 _ h, fun h _ => .inl ?_, fun h => ?_⟩
    · rw [q9 _ (fun i hi => by omega), hz]
    · rw [q9 _ (fun i hi => by simp at h; omega), hz]
  have hAll3 : AllSec 12 Q s3 := by
    have := lay_all (n := 12) (base := 2) (blocks := 10) (Q := Q) (by omega) (by omega) M.length (flushS s1).1 (40 + A.length) M hs2 hAll2 hM hMl (fun i hi => by
      intro hb2
      have ei : 4 * (2 + (40 + A.length + i) / 4 % 10 - 2) + (40 + A.length + i) % 4 = A.length + i := by omega
      refine ⟨fun h => by omega, fun h1 h2 => .inr ?_, fun h => by simp at h; omega⟩
      have e2 : 40 + (4 * (2 + (40 + A.length + i) / 4 % 10 - 2) + (40 + A.length + i) % 4) = 40 + A.length + i := by omega
      rw [e2]
      congr 1
      simp only [ei]
      rw [List.getElem_append_right (by omega)]
      congr 1
      omega)
    rw [e3] at this
    exact this
  have hAll5 : AllSec 12 Q (restartS (crashS s3 picks).1).1 := restartS_all (crashS_all hAll3 hs3 picks)
  have hQ : ∀ i, i < 40 → Q (2 + i / 4) (i % 4) (secAt (restartS (crashS s3 picks).1).1 2 10 (40 + i)) := fun i hi => by
    have := view_all hAll5 (b := 2 + i / 4) (k := i % 4) (by omega) (by omega)
    have e : secAt (restartS (crashS s3 picks).1).1 2 10 (40 + i) = secOf (readL (restartS (crashS s3 picks).1).1 (2 + i / 4)) (i % 4) := by
      unfold secAt
      rw [show 2 + (40 + i) / 4 % 10 = 2 + i / 4 by omega, ← secOf_mod _ (40 + i), show (40 + i) % 4 = i % 4 by omega]
    rw [e]; exact this
  have hidx : ∀ i, 4 * (2 + i / 4 - 2) + i % 4 = i := fun i => by omega
  have hok : ∀ x ∈ A ++ M, okRc x := fun x hx => by rcases List.mem_append.1 hx with h | h; exact hA x h; exact hM x h
  have hlt : ∀ x ∈ A ++ M, ∀ y ∈ x.l, y < 256 := fun x hx => by rcases List.mem_append.1 hx with h | h; exact hAl x h; exact hMl x h
  have hlr := hsc.2.1
  have each : ∀ i (hi : i < rs.length), ∃ h : i < (A ++ M).length, rs[i] = (A ++ M)[i] := fun i hi => by
    obtain ⟨g1, g2, g3⟩ := hQ i (by omega) (by omega)
    have hr := hsc.1 i hi
    rw [hidx] at g3
    rcases Nat.lt_or_ge i (A ++ M).length with h | h
    · refine ⟨h, ?_⟩
      have hsec : secAt (restartS (crashS s3 picks).1).1 2 10 (40 + i) = secRc (40 + i) (A ++ M)[i] := by
        rcases Nat.lt_or_ge i A.length with hi' | hi'
        · have := g1 (by rw [hidx]; exact hi')
          simp only [hidx] at this
          rw [this, List.getElem_append_left hi']
        · have := g2 (by rw [hidx]; exact hi') (by rw [hidx]; exact h)
          simp only [hidx] at this
          rcases this with h' | h'
          · rw [h'] at hr
            exact absurd hr (zeros_no _ _)
          · exact h'
      rw [hsec] at hr
      exact (hr.one (secRc_is (hok _ (List.getElem_mem h)) (by omega) (hlt _ (List.getElem_mem h)))).2
    · rw [g3 h] at hr
      exact absurd hr (zeros_no _ _)
  have hup : rs.length ≤ A.length + M.length := by
    rcases Nat.lt_or_ge (A.length + M.length) rs.length with h | h
    · obtain ⟨h', _⟩ := each (A.length + M.length) h
      simp at h'
    · exact h
  refine ⟨?_, hup, ?_⟩
  · rcases Nat.lt_or_ge rs.length A.length with h | h
    · exfalso
      rcases hsc.2.2 with h' | h'
      · omega
      · obtain ⟨g1, -, -⟩ := hQ rs.length (by omega) (by omega)
        have := g1 (by rw [hidx]; exact h)
        simp only [hidx] at this
        rw [this] at h'
        exact h' _ (secRc_is (hA _ (List.getElem_mem h)) (by omega) (hAl _ (List.getElem_mem h)))
    · exact h
  · apply List.ext_getElem
    · simp; omega
    · intro i h1 h2
      obtain ⟨h, e⟩ := each i h1
      rw [e]
      simp


end Go.Proofs.YtjhbljkoapbkfaaGreat
