/- What stands between two operations of a script on which nothing crashed. -/
import Derived.Test.YtjhbljkoapbkfaaCameO
import Derived.Test.YtjhbljkoapbkfaaLv
import Derived.Test.YtjhbljkoapbkfaaLw
set_option linter.unusedSimpArgs false
set_option linter.unusedVariables false
namespace Go.Proofs.Ytjhbljkoapbkfaa
open Go.RowKit Go.Attic Go.ChangeShapes Go.WideShapes Go.Shelf

theorem RD.lt2 {w : World} {r g m : Nat} {p : Option Nat} {F Fr : Nat → Prop} {n base blocks head : Nat} {s : St} {rs : List Rc} (h : RD w r g m p F Fr n base blocks head s rs) (b : Nat) (hb : OwnR r g m F Fr b) : b < w.heap.size := by
  rcases hb with (e | e | e) | e | e
  · exact e ▸ h.dk.gl
  · exact e ▸ h.dk.ml
  · exact h.dk.Fl b e
  · exact e ▸ h.rk.rl
  · exact h.rk.Fl b e

/-- The law's own row: apart from the ring. -/
def Wn (w wr : World) (O : Nat → Prop) (wv : Value) (ws : List Rc) : Prop :=
  ∃ ao cap wb vs, wv = .slice ao ws.length cap ∧ Wt wr wb (fun k => k < w.heap.size) ao cap ws vs ∧ (ao = none → cap = 0) ∧ (0 < cap → w.heap.size ≤ wb ∧ ¬ O wb)

/-- The ring, on its disk, since w. -/
def Rn (w wr : World) (r g m : Nat) (F Fr : Nat → Prop) (nb c head : Nat) (rs : List Rc) : Prop :=
  ∃ p s, RD wr r g m p F Fr 8 1 nb head s rs ∧ Cal s nb head rs ∧ head ≤ 100 + c ∧ s.pend.length ≤ c ∧ s.ops ≤ c ∧ (∀ b, OwnR r g m F Fr b → w.heap.size ≤ b) ∧ Below w.heap.size w wr

theorem Wn.nil (w wr : World) (O : Nat → Prop) : Wn w wr O (.slice none 0 0) [] := ⟨none, 0, 0, [], rfl, Wt.nil _ _, fun _ => rfl, fun h => by omega⟩

theorem Wn.keeps {w wr w' : World} {O O' S : Nat → Prop} {wv : Value} {ws : List Rc} (h : Wn w wr O wv ws) (hk : Keeps S wr w') (hS : ∀ k, S k → O k) (hw : ∀ k, O k → w.heap.size ≤ k) (hO : ∀ k, O' k → O k ∨ wr.heap.size ≤ k) : Wn w w' O' wv ws := by
  obtain ⟨ao, cap, wb, vs, e, hW, hn, ha⟩ := h
  refine ⟨ao, cap, wb, vs, e, hW.keeps hk (fun hc hs => (ha hc).2 (hS _ hs)) (fun k hk hs => ?_), hn, fun hc => ⟨(ha hc).1, fun h => ?_⟩⟩
  · have := hw k (hS k hs); omega
  · rcases hO _ h with h | h
    · exact (ha hc).2 h
    · obtain ⟨off, e', hl, _⟩ := hW.spot hc
      omega

theorem Wn.still {w wr w' : World} {O : Nat → Prop} {wv : Value} {ws : List Rc} (h : Wn w wr O wv ws) (hk : Below wr.heap.size wr w') : Wn w w' O wv ws := by
  obtain ⟨ao, cap, wb, vs, e, hW, hn, ha⟩ := h
  exact ⟨ao, cap, wb, vs, e, hW.keeps (S := fun _ => False) (Keeps.of_below hk) (fun _ h => h) (fun _ _ h => h), hn, ha⟩

theorem Rn.still {w wr w' : World} {r g m : Nat} {F Fr : Nat → Prop} {nb c c' head : Nat} {rs : List Rc} (h : Rn w wr r g m F Fr nb c head rs) (hk : Below wr.heap.size wr w') (hc : c ≤ c') : Rn w w' r g m F Fr nb c' head rs := by
  obtain ⟨p, s, h1, h2, h3, h4, h5, h6, h7⟩ := h
  exact ⟨p, s, h1.mono hk, h2, by omega, by omega, by omega, h6, h7.trans (hk.mono h7.size)⟩

theorem Wn.narrow {w wr : World} {O O' : Nat → Prop} {wv : Value} {ws : List Rc} (h : Wn w wr O wv ws) (hO : ∀ k, O' k → O k) : Wn w wr O' wv ws := by
  obtain ⟨ao, cap, wb, vs, e, hW, hn, ha⟩ := h
  exact ⟨ao, cap, wb, vs, e, hW, hn, fun hc => ⟨(ha hc).1, fun h => (ha hc).2 (hO _ h)⟩⟩

theorem Wn.wide {w wr : World} {O : Nat → Prop} {wv : Value} {ws : List Rc} (h : Wn w wr O wv ws) : Wn w wr (fun k => O k ∨ k = wr.heap.size) wv ws := by
  obtain ⟨ao, cap, wb, vs, e, hW, hn, ha⟩ := h
  refine ⟨ao, cap, wb, vs, e, hW, hn, fun hc => ⟨(ha hc).1, fun h => ?_⟩⟩
  rcases h with h | h
  · exact (ha hc).2 h
  · obtain ⟨off, e', hl, _⟩ := hW.spot hc
    omega

/-- The ring was turned: appended to, or trimmed. -/
theorem rn_turn {w wr w' : World} {r g m T : Nat} {F Fr : Nat → Prop} {nb c head : Nat} {s' : St} {rs' : List Rc} (hT : w.heap.size ≤ T) (hB : Below w.heap.size w wr) (hO : ∀ b, OwnR r g m F Fr b → w.heap.size ≤ b) (ht : RTurn wr r g m F Fr 8 1 nb head s' rs' w') (hcal : Cal s' nb head rs') (hh : head ≤ 100 + c) (hp : s'.pend.length ≤ c) (ho : s'.ops ≤ c) {wv : Value} {ws : List Rc} (hW : Wn w wr (fun k => OwnR r g m F Fr k ∨ k = T) wv ws) :
    Keeps (OwnR r g m F Fr) wr w' ∧ ∃ F' Fr', Rn w w' r g m F' Fr' nb c head rs' ∧ Wn w w' (fun k => OwnR r g m F' Fr' k ∨ k = T) wv ws := by
  obtain ⟨p', F', Fr', hRD, hk, hF⟩ := ht
  have hz := hB.size
  have key : ∀ b, F' b ∨ Fr' b → w.heap.size ≤ b := fun b hb => by
    rcases hF b hb with h | h | h
    · exact hO b (.inl (.inr (.inr h)))
    · exact hO b (.inr (.inr h))
    · omega
  have key2 : ∀ b, OwnR r g m F' Fr' b → OwnR r g m F Fr b ∨ wr.heap.size ≤ b := fun b hb => by
    have hf : ∀ b, F' b ∨ Fr' b → OwnR r g m F Fr b ∨ wr.heap.size ≤ b := fun b hb => by
      rcases hF b hb with h | h | h
      · exact .inl (.inl (.inr (.inr h)))
      · exact .inl (.inr (.inr h))
      · exact .inr h
    rcases hb with (h | h | h) | h | h
    · exact .inl (.inl (.inl h))
    · exact .inl (.inl (.inr (.inl h)))
    · exact hf b (.inl h)
    · exact .inl (.inr (.inl h))
    · exact hf b (.inr h)
  refine ⟨hk, F', Fr', ⟨p', s', hRD, hcal, hh, hp, ho, fun b hb => ?_, hB.trans (hk.below hO hz)⟩, hW.keeps hk (fun k h => .inl h) (fun k hk => hk.elim (hO k) (fun e => e ▸ hT)) (fun k hk => hk.elim (fun h => (key2 k h).imp .inl id) (fun e => .inl (.inr e)))⟩
  rcases key2 b hb with h | h
  · exact hO b h
  · omega

theorem Rn.keeps {w wr w' : World} {r g m : Nat} {F Fr S : Nat → Prop} {nb c head : Nat} {rs : List Rc} (h : Rn w wr r g m F Fr nb c head rs) (hk : Keeps S wr w') (hS : ∀ k, S k → w.heap.size ≤ k ∧ ¬ OwnR r g m F Fr k) : Rn w w' r g m F Fr nb c head rs := by
  obtain ⟨p, s, h1, h2, h3, h4, h5, h6, h7⟩ := h
  exact ⟨p, s, h1.keeps hk (fun k hk hs => (hS k hs).2 hk), h2, h3, h4, h5, h6, h7.trans (hk.below (fun k hk => (hS k hk).1) h7.size)⟩

theorem Wn.rs {w wr : World} {O : Nat → Prop} {wv : Value} {ws : List Rc} (h : Wn w wr O wv ws) : ∃ F, Rs wr F wv ws := by
  obtain ⟨ao, cap, wb, vs, e, hW, hn, ha⟩ := h
  exact ⟨_, e ▸ hW.rs⟩

/-- Append, on a disk that nothing crashed. -/
theorem rn_app {w wr : World} {r g m T : Nat} (hT : w.heap.size ≤ T) {F Fr : Nat → Prop} {nb c head : Nat} {rs : List Rc} (h : Rn w wr r g m F Fr nb c head rs) (hc : c ≤ 100000) {wv : Value} (hW : Wn w wr (fun k => OwnR r g m F Fr k ∨ k = T) wv rs) (v : Value) (l : List Rc) (hL : Rs wr (fun k => k < w.heap.size) v l) (hlen : l.length ≤ 140737488355328) (hlens : ∀ x ∈ l, x.l.length ≤ 140737488355328) :
    (rs.length + l.length ≤ 4 * nb ∧ Calls Try.prog 10 #[.pointer (some ⟨r, 0, none⟩), v] wr fun e w' => e = .returned (.int .i64 0) ∧ Rs w' (fun k => k < w.heap.size) v l ∧ Keeps (OwnR r g m F Fr) wr w' ∧ ∃ F' Fr', Rn w w' r g m F' Fr' nb (c + 28) head (rs ++ l) ∧ Wn w w' (fun k => OwnR r g m F' Fr' k ∨ k = T) wv rs) ∨
    (∃ er : Int, (er = 60 ∨ er = 70 ∧ 4 * nb < rs.length + l.length) ∧ Calls Try.prog 10 #[.pointer (some ⟨r, 0, none⟩), v] wr fun e w' => e = .returned (.int .i64 er) ∧ Below wr.heap.size wr w') := by
  obtain ⟨p, s, h1, h2, h3, h4, h5, h6, h7⟩ := h
  have hb1 := h1.rk.b1
  have hft := h1.fit
  have hz := h7.size
  rcases first_bad l with hok | ⟨j, hj, g1, g2⟩
  · by_cases hro : 4 * nb < rs.length + l.length
    · exact .inr ⟨70, .inr ⟨rfl, hro⟩, app_ring h1 v l _ hL hlen hok hro⟩
    · refine .inl ⟨by omega, ?_⟩
      obtain ⟨s1, q1, q2⟩ := lay_view (n := 8) (base := 1) (blocks := nb) hb1 hft l.length s (head + rs.length) l (Nat.le_refl _) h1.dk.ok h2.on h2.left hok hL.lt (by omega)
      obtain ⟨k1, k2, k3⟩ := h2.app (s' := s1) h1.dk.ok hb1 hft hok hL.lt (by omega) (by omega) q1
      have hA := app_ok h1 v l _ hL hlen (fun k hk => ⟨by omega, fun ho => by have := h6 k ho; omega⟩) (by omega) (by omega) hok (by omega) (by omega) (by rw [q1])
      rw [q1] at hA
      refine hA.mono (fun e w' hh => ⟨hh.1, ?_, rn_turn hT h7 h6 hh.2 k1 (by omega) (by show s1.pend.length ≤ _; omega) (by show s1.ops ≤ _; omega) hW⟩)
      obtain ⟨p', F', Fr', hRD, hk, hF⟩ := hh.2
      exact hL.keeps hk (fun k hk ho => by have := h6 k ho; omega)
  · exact .inr ⟨60, .inl rfl, app_bad h1 v l _ hL hlen j hj g1 g2 hlens⟩

/-- Trim. -/
theorem rn_trim {w wr : World} {r g m T : Nat} (hT : w.heap.size ≤ T) {F Fr : Nat → Prop} {nb c head : Nat} {rs : List Rc} (h : Rn w wr r g m F Fr nb c head rs) (hc : c ≤ 100000) {wv : Value} (hW : Wn w wr (fun k => OwnR r g m F Fr k ∨ k = T) wv rs) (k : Nat) (hk : k ≤ rs.length) :
    Calls Try.prog 18 #[.pointer (some ⟨r, 0, none⟩), .int .i64 ((head + k : Nat) : Int)] wr fun e w' => e = .returned (.int .i64 0) ∧ Keeps (OwnR r g m F Fr) wr w' ∧ ∃ F' Fr', Rn w w' r g m F' Fr' nb (c + 28) (head + k) (rs.drop k) ∧ Wn w w' (fun k => OwnR r g m F' Fr' k ∨ k = T) wv rs := by
  obtain ⟨p, s, h1, h2, h3, h4, h5, h6, h7⟩ := h
  have hln := h1.rk.ln
  have hft := h1.fit
  exact (trim_yes h1 k hk (by omega)).mono (fun e w' hh => ⟨hh.1, rn_turn hT h7 h6 hh.2 (h2.cut k hk) (by omega) (by omega) (by omega) hW⟩)

/-- want[k:] -/
theorem Wn.cut {w wr : World} {O : Nat → Prop} {ao : Option Addr} {n cap : Nat} {ws : List Rc} (h : Wn w wr O (.slice ao n cap) ws) (k : Nat) (hk : k ≤ ws.length) : Wn w wr O (.slice (if cap = k then ao else ao.map (·.add (k * 5))) (ws.drop k).length (cap - k)) (ws.drop k) := by
  obtain ⟨ao', cap', wb, vs, e, hW, hn, ha⟩ := h
  cases e
  refine ⟨_, _, wb, vs.drop k, rfl, hW.cut k hk, fun e => ?_, fun hc => ha (by omega)⟩
  split at e
  · omega
  · cases ao with
    | none => have := hn rfl; omega
    | some a => simp at e

/-- append(want, l...) -/
theorem wpList_append_wn {ops : Array Oper} {rest : List Oper} {o : Oper} {a : Act} {Q : Exit → Act → World → Prop} (w wr : World) (hz : w.heap.size ≤ wr.heap.size) (hgd : o.guard = none) (s x : Operand) (ho : o.op = .call { callee := .builtin .append, args := #[s, x], argTypes := #[22, 22] })
    {O : Nat → Prop} {wv : Value} {ws : List Rc} (hs : a.eval s = wv) (hW : Wn w wr O wv ws) (hO : ∀ k, O k → k < wr.heap.size) (vx : Value) (rs : List Rc) (hx : a.eval x = vx) (hr : Rs wr (fun k => k < w.heap.size) vx rs) (hb : ws.length + rs.length ≤ 4096)
    (h : ∀ wv' w', Wn w w' O wv' (ws ++ rs) → Keeps (fun k => w.heap.size ≤ k ∧ ¬ O k) wr w' → wpList Try.prog ops Q rest (a.put o.dst wv') w') : wpList Try.prog ops Q (o :: rest) a wr := by
  obtain ⟨ao, cap, wb, vs, rfl, hWt, hn, ha⟩ := hW
  refine wpList_append_want wr hgd s x ho hs hWt (fun hc hk => by have := (ha hc).1; omega) (fun k hk => by omega) hn vx rs hx hr hb (fun ao' cap' wb' vs' w' g1 g2 g3 g4 => ?_)
  refine h _ w' ⟨ao', cap', wb', vs', by simp, g1, g3, fun hc => ?_⟩ (g2.mono (fun k hk => hk.2 ▸ ha hk.1))
  rcases g4 hc with ⟨h1, h2⟩ | h1
  · exact h2 ▸ ha h1
  · exact ⟨by omega, fun ho => by have := hO _ ho; omega⟩

end Go.Proofs.Ytjhbljkoapbkfaa
