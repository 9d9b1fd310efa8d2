/- A script's operations as they came in. Append, Sync, Trim, Arm, Crash, Restart: what both sides answer. -/
import Derived.Test.YtjhbljkoapbkfaaGreatM39
import Derived.Test.YtjhbljkoapbkfaaGreatM26
set_option linter.unusedSimpArgs false
set_option linter.unusedVariables false

namespace Go.Proofs.YtjhbljkoapbkfaaGreat
open Go.RowKit Go.Attic Go.ChangeShapes Go.WideShapes

structure OpX where
  d : Int
  L : List Rc
  n : Int
  picks : List Nat

/-- An operation of a script stands at a place. -/
structure OpAt (w : World) (F : Nat → Prop) (bl o : Nat) (x : OpX) (vl vp : Value) : Prop where
  c0 : w.cell? ⟨bl, o, none⟩ = some (.int .i64 x.d)
  c1 : w.cell? ⟨bl, o + 1, none⟩ = some vl
  c2 : w.cell? ⟨bl, o + 2, none⟩ = some (.int .i64 x.n)
  c3 : w.cell? ⟨bl, o + 3, none⟩ = some vp
  rs : Rs w F vl x.L
  rn : ∀ n c, vl = .slice none n c → c = 0
  bs : Bs w vp x.picks
  bF : 0 < x.picks.length → ∀ k, vp.ownBlock = some k → F k
  ll : x.L.length ≤ 140737488355328
  ls : ∀ r ∈ x.L, r.l.length ≤ 140737488355328
  n0 : -9223372036854775808 ≤ x.n
  n1 : x.n ≤ 9223372036854775807
  pl : x.picks.length ≤ 140737488355328
  bl : F bl

/-- The slice value v holds the operations l; what is read for them lies in F. -/
def Ops (w : World) (F : Nat → Prop) (v : Value) (l : List OpX) : Prop :=
  ∃ ao cap, v = .slice ao l.length cap ∧ l.length ≤ cap ∧ (0 < l.length → ∃ b off, ao = some ⟨b, off, none⟩ ∧ ∀ i (hi : i < l.length), ∃ vl vp, OpAt w F b (off + i * 4) l[i] vl vp)

theorem OpAt.keeps {S F : Nat → Prop} {w w' : World} {bl o : Nat} {x : OpX} {vl vp : Value} (h : OpAt w F bl o x vl vp) (hk : Keeps S w w') (hS : ∀ k, F k → ¬ S k) : OpAt w' F bl o x vl vp :=
  ⟨hk.cell h.c0 (hS _ h.bl), hk.cell h.c1 (hS _ h.bl), hk.cell h.c2 (hS _ h.bl), hk.cell h.c3 (hS _ h.bl), h.rs.keeps hk hS, h.rn, keeps_bs hk h.bs (fun hp b hb => hS b (h.bF hp b hb)), h.bF, h.ll, h.ls, h.n0, h.n1, h.pl, h.bl⟩

theorem Ops.nil (w : World) (F : Nat → Prop) : Ops w F (.slice none 0 0) [] := ⟨none, 0, rfl, Nat.le_refl _, by simp⟩

set_option maxRecDepth 100000 in
set_option maxHeartbeats 1000000 in
theorem Ops.came {H : Type} {enc : TypeId × Value → H} {W : World} {base : Nat} {v : Value} {d : DataW H} {p : List MemPlace} {ts : List TypeId} {ds : List (DataW H)} {j : Nat} (hok : Value.okWide Tryz.prog W .any base 24 v)
    (h : DataW.Trod enc Tryz.prog W 0 (fun _ => true) true 24 v d p) (hsz : (DataW.weightsEach Tryz.prog ts ds).all (· ≤ reachBytes) = true) (ht : ts[j]? = some 24) (hd : ds[j]? = some d) : ∃ l, Ops W (fun k => k < W.heap.size) v l ∧ l.length ≤ 140737488355328 := by
  obtain ⟨a0, len0, cap0, rfl⟩ := okWide_slice Tryz.underlying24 hok
  obtain ⟨fuel, hf⟩ := h
  have hce : Tryz.prog.cellsOf 32 = 4 := by kernel_rfl
  have hwt : ∀ n ∈ d.weights Tryz.prog 24, n ≤ reachBytes := fun n hn => by
    have := List.all_eq_true.1 hsz _ (DataW.weights_mem_each ht hd n hn)
    simpa using this
  rcases Deep.open_slice Tryz.underlying24 hf with ⟨hcs, _⟩ | ⟨a, len, cap, m, n, D, Pl, hcs, _, hl, hm, hmm, hx, hel⟩
  · simp [Value.cells] at hcs
    obtain ⟨rfl, rfl, rfl⟩ := hcs
    exact ⟨[], Ops.nil W _, by simp⟩
  · simp [Value.cells] at hcs
    obtain ⟨rfl, rfl, rfl⟩ := hcs
    simp at hmm
    simp only [Prod.mk.injEq] at hx
    have hll : len0 ≤ 140737488355328 := by
      have hbe : Tryz.prog.bytesOf 32 = 64 := by kernel_rfl
      have := hwt ((((List.range len0).map D).length + ((List.range (m - len0)).map fun j => D (len0 + j)).length) * Tryz.prog.bytesOf 32) (by rw [hx.1]; simp only [DataW.weights, Tryz.underlying24]; exact List.mem_cons_self)
      rw [hbe] at this
      simp [reachBytes] at this
      omega
    by_cases hp : 0 < len0
    · obtain ⟨b, off, spot⟩ := a
      have hspot : spot = Option.none := by
        obtain ⟨cs', h1, _⟩ := hel 0 (by omega)
        rw [hce] at h1
        obtain ⟨_, hlen, hcell⟩ := World.cells?_some h1
        have e0 := hcell 0 (by omega)
        rw [List.getElem?_eq_getElem (by omega)] at e0
        have := World.cell?_spot e0
        simpa [Addr.add] using this
      subst hspot
      have each : ∀ i, i < len0 → ∃ q : OpX, ∃ vl vp, OpAt W (fun k => k < W.heap.size) b (off + i * 4) q vl vp := by
        intro i hi
        obtain ⟨cs', h1, h2⟩ := hel i (by omega)
        rw [hce] at h1
        obtain ⟨_, hlen, hcell⟩ := World.cells?_some h1
        obtain ⟨xs, k, hk, hxy, _, hxl, hfl⟩ := DataW.trod_struct Tryz.underlying32 h2
        have hwi : ∀ n ∈ (D i).weights Tryz.prog 32, n ≤ reachBytes := fun n hn => by
          refine hwt n ?_
          rw [hx.1]
          simp only [DataW.weights, Tryz.underlying24, List.mem_cons, List.mem_append]
          exact .inr (.inl (weightsAll_mem (List.mem_map.2 ⟨i, by simpa using hi, rfl⟩) n hn))
        match cs', hlen, xs, hxl with
        | [v0, v1, v2, v3], _, [y0, y1, y2, y3], _ =>
          have g0 := hfl 0 _ rfl
          have g1 := hfl 1 _ rfl
          have g2 := hfl 2 _ rfl
          have g3 := hfl 3 _ rfl
          have c2 : Tryz.prog.cellsOf 2 = 1 := by kernel_rfl
          have c3 : Tryz.prog.cellsOf 3 = 1 := by kernel_rfl
          have c22 : Tryz.prog.cellsOf 29 = 1 := by kernel_rfl
          have c23 : Tryz.prog.cellsOf 30 = 1 := by kernel_rfl
          simp [c2, c3, c22, c23] at g0 g1 g2 g3
          obtain ⟨n0, rfl, w0⟩ := int_trod Tryz.underlying3 g0
          obtain ⟨n2, rfl, w2⟩ := int_trod Tryz.underlying2 g2
          have hb2 := bounds_i64 w2
          have e : D i = DataW.agg [y0.1, y1.1, y2.1, y3.1] := by have := congrArg Prod.fst hxy; simpa using this
          obtain ⟨l1, hrs1, hl1, hls1, hn1⟩ := rs_trod g1 (fun n hn => by
            refine hwi n ?_
            rw [e]
            simp only [DataW.weights, Tryz.underlying32]
            refine DataW.weights_mem_each (j := 1) (t := 29) (d := y1.1) ?_ ?_ n hn
            · rfl
            · rfl)
          obtain ⟨l3, hbs3, hl3⟩ := bs_trod Tryz.underlying30 Tryz.underlying5 (by kernel_rfl) (by kernel_rfl) g3 (fun n hn => by
            refine hwi n ?_
            rw [e]
            simp only [DataW.weights, Tryz.underlying32]
            refine DataW.weights_mem_each (j := 3) (t := 30) (d := y3.1) ?_ ?_ n hn
            · rfl
            · rfl)
          have e0 := hcell 0 (by omega)
          have e1 := hcell 1 (by omega)
          have e2 := hcell 2 (by omega)
          have e3 := hcell 3 (by omega)
          rw [Addr.add_lit, Addr.add_lit] at e0 e1 e2 e3
          have hbl : b < W.heap.size := by have := World.block_lt_of_cell? W _ e0; simpa using this
          exact ⟨⟨n0, l1, n2, l3⟩, v1, v3, ⟨by simpa using e0, by simpa using e1, by simpa using e2, by simpa using e3, hrs1, hn1, hbs3, fun hp k hk => bs_lt2 hbs3 hp k hk, hl1, hls1, hb2.1, hb2.2, hl3, hbl⟩⟩
      obtain ⟨q, hq⟩ := @Deep.choose_lt OpX ⟨⟨0, [], 0, []⟩⟩ _ _ each
      refine ⟨(List.range len0).map q, ⟨some ⟨b, off, none⟩, cap0, by simp, by simp; omega, fun _ => ⟨b, off, rfl, fun i hi => ?_⟩⟩, by simpa using hll⟩
      simp at hi
      simpa using hq i hi
    · obtain rfl : len0 = 0 := by omega
      exact ⟨[], ⟨some a, cap0, rfl, by simp, by simp⟩, by simp⟩


end Go.Proofs.YtjhbljkoapbkfaaGreat

namespace Go.Proofs.YtjhbljkoapbkfaaGreat
open Go.RowKit Go.Attic Go.Shelf

/-- No number is written that is as great as the greatest head. -/
def Max : Nat := 1152921504606846976

theorem scanned_max {n base blocks hd : Nat} {s : St} {rs : List Rc} (h : AllSec n (Low Max) s) (hh : hd ≤ Max) (hb : 1 ≤ blocks) (hfit : base + blocks ≤ n) (hsc : Scanned (secAt s base blocks) hd (4 * blocks) rs) : hd + rs.length ≤ Max := by
  rcases Nat.lt_or_ge Max (hd + rs.length) with hlt | hle
  · exfalso
    have hp : 0 < rs.length := by omega
    have hg := hsc.1 (rs.length - 1) (by omega)
    have hml : (hd + (rs.length - 1)) / 4 % blocks < blocks := Nat.mod_lt _ (by omega)
    have hv := view_all h (b := base + (hd + (rs.length - 1)) / 4 % blocks) (k := (hd + (rs.length - 1)) % 4) (by omega) (by omega) (hd + (rs.length - 1)) (by omega)
    unfold secAt at hg
    rw [← secOf_mod] at hg
    exact hv _ hg
  · exact hle

/-- Append, on both sides: one answer, one state. -/
theorem app_two (n base blocks hd : Nat) (s : St) (rs l : List Rc) (hlen : l.length ≤ 140737488355328) (hlens : ∀ x ∈ l, x.l.length ≤ 140737488355328) (hln : rs.length ≤ 4 * blocks) (hb2 : blocks ≤ 256) (hpl : s.pend.length + 2000 ≤ 1000000) (hops : s.ops + 2000 ≤ 1000000) (hb1 : 1 ≤ blocks) (hfit : base + blocks ≤ n) (hsok : s.Ok n) (hall : AllSec n (Low Max) s) (hbd : hd + rs.length ≤ Max) (hlt : ∀ x ∈ l, ∀ y ∈ x.l, y < 256) :
    ∃ (er : Int) (s' : St) (rs' : List Rc), AllSec n (Low Max) s' ∧ hd + rs'.length ≤ Max ∧ s'.pend.length ≤ s.pend.length + 1024 ∧ s'.ops ≤ s.ops + 1024 ∧
      (∀ (w : World) (r g m : Nat) (p : Option Nat) (F Fr : Nat → Prop) (v : Value) (Fl : Nat → Prop), RD w r g m p F Fr n base blocks hd s rs → Rs w Fl v l → (∀ k, Fl k → k < w.heap.size ∧ ¬ OwnR r g m F Fr k) →
        Calls Tryz.prog 14 #[.pointer (some ⟨r, 0, none⟩), v] w fun e w' => e = .returned (.int .i64 er) ∧ RTurn w r g m F Fr n base blocks hd s' rs' w') ∧
      (∀ (w : World) (x g : Nat) (q p : Option Nat) (F Fx : Nat → Prop) (v : Value) (Fl : Nat → Prop), WD w x g q p F Fx n base blocks hd s rs → Rs w Fl v l → (∀ k, Fl k → k < w.heap.size ∧ ¬ OwnX g F k ∧ k ≠ x) →
        Calls Tryz.prog 19 #[.pointer (some ⟨x, 0, none⟩), v] w fun e w' => e = .returned (.int .i64 er) ∧ WTurn w x g F Fx Fl n base blocks hd s' rs' w') := by
  rcases first_bad l with hok | ⟨j, hj, h1, h2⟩
  · by_cases hro : 4 * blocks < rs.length + l.length
    · exact ⟨70, s, rs, hall, hbd, by omega, by omega, fun w r g m p F Fr v Fl h hL hF => (app_ring h v l Fl hL hlen hok hro).mono (fun e w' hh => ⟨hh.1, h.still hh.2⟩), fun w x g q p F Fx v Fl h hL hF => (rapp_ring h v l Fl hL hlen hok hro).mono (fun e w' hh => ⟨hh.1, h.still hh.2⟩)⟩
    · by_cases hlo : 1152921504606846976 < hd + rs.length + l.length
      · exact ⟨3, s, rs, hall, hbd, by omega, by omega, fun w r g m p F Fr v Fl h hL hF => (app_long h v l Fl hL hlen hok (by omega) hlo).mono (fun e w' hh => ⟨hh.1, h.still hh.2⟩), fun w x g q p F Fx v Fl h hL hF => (rapp_long h v l Fl hL hlen hok (by omega) hlo).mono (fun e w' hh => ⟨hh.1, h.still hh.2⟩)⟩
      · have hG := layN_grows (n := n) (base := base) (blocks := blocks) l.length s (hd + rs.length) l
        obtain ⟨Z, hZ⟩ : ∃ Z, layN n base blocks l.length s (hd + rs.length) l = Z := ⟨_, rfl⟩
        rw [hZ] at hG
        have hA := lay_all (n := n) (base := base) (blocks := blocks) (Q := Low Max) hb1 hfit l.length s (hd + rs.length) l hsok hall hok hlt (fun i hi N hN r' hr' => by
          have := (hr'.one (secRc_is (n := hd + rs.length + i) (hok _ (List.getElem_mem hi)) (by omega) (hlt _ (List.getElem_mem hi)))).1
          have hM : Max = 1152921504606846976 := rfl
          omega)
        rw [hZ] at hA
        by_cases hz : Z.2 = 0
        · refine ⟨Z.2, Z.1, rs ++ l, hA, (by have hM : Max = 1152921504606846976 := rfl; simp; omega), by omega, by omega, fun w r g m p F Fr v Fl h hL hF => ?_, fun w x g q p F Fx v Fl h hL hF => rapp_go h v l Fl hL hlen hF hpl hops hok (by omega) (by omega) Z hZ _ (by rw [if_pos hz])⟩
          have := app_ok h v l Fl hL hlen hF hpl hops hok (by omega) (by omega) (by rw [hZ]; exact hz)
          rw [hZ] at this
          rw [hz]
          exact this
        · refine ⟨Z.2, Z.1, rs, hA, hbd, by omega, by omega, fun w r g m p F Fr v Fl h hL hF => ?_, fun w x g q p F Fx v Fl h hL hF => rapp_go h v l Fl hL hlen hF hpl hops hok (by omega) (by omega) Z hZ _ (by rw [if_neg hz])⟩
          have := app_err h v l Fl hL hlen hF hpl hops hok (by omega) (by omega) (by rw [hZ]; exact hz)
          rw [hZ] at this
          exact this
  · exact ⟨60, s, rs, hall, hbd, by omega, by omega, fun w r g m p F Fr v Fl h hL hF => (app_bad h v l Fl hL hlen j hj h1 h2 hlens).mono (fun e w' hh => ⟨hh.1, h.still hh.2⟩), fun w x g q p F Fx v Fl h hL hF => (rapp_bad h v l Fl hL hlen j hj h1 h2 hlens).mono (fun e w' hh => ⟨hh.1, h.still hh.2⟩)⟩

/-- Trim, on both sides. -/
theorem trim_two (n base blocks hd : Nat) (s : St) (rs : List Rc) (i : Int) (hln : rs.length ≤ 4 * blocks) (hb2 : blocks ≤ 256) (hbd : hd + rs.length ≤ Max) :
    ∃ (er : Int) (hd' : Nat) (rs' : List Rc), hd' + rs'.length ≤ Max ∧
      (∀ (w : World) (r g m : Nat) (p : Option Nat) (F Fr : Nat → Prop), RD w r g m p F Fr n base blocks hd s rs →
        Calls Tryz.prog 24 #[.pointer (some ⟨r, 0, none⟩), .int .i64 i] w fun e w' => e = .returned (.int .i64 er) ∧ RTurn w r g m F Fr n base blocks hd' s rs' w') ∧
      (∀ (w : World) (x g : Nat) (q p : Option Nat) (F Fx Fl : Nat → Prop), WD w x g q p F Fx n base blocks hd s rs →
        Calls Tryz.prog 25 #[.pointer (some ⟨x, 0, none⟩), .int .i64 i] w fun e w' => e = .returned (.int .i64 er) ∧ WTurn w x g F Fx Fl n base blocks hd' s rs' w') := by
  by_cases hi : i < (hd : Int) ∨ ((hd + rs.length : Nat) : Int) < i
  · exact ⟨1, hd, rs, hbd, fun w r g m p F Fr h => (trim_arg h.rk i hi).mono (fun e w' hh => ⟨hh.1, h.still hh.2⟩), fun w x g q p F Fx Fl h => (rtrim_arg h.rk i hi).mono (fun e w' hh => ⟨hh.1, h.still hh.2⟩)⟩
  · have hM : Max = 1152921504606846976 := rfl
    obtain ⟨k, hk⟩ : ∃ k : Nat, i = ((hd + k : Nat) : Int) := ⟨(i - (hd : Int)).toNat, by omega⟩
    have hkl : k ≤ rs.length := by omega
    subst hk
    refine ⟨0, hd + k, rs.drop k, by simp; omega, fun w r g m p F Fr h => trim_yes h k hkl (by omega), fun w x g q p F Fx Fl h => (rtrim_yes h.rk k hkl (by omega)).mono (fun e w' hh => ⟨hh.1, q, p, F, Fx, ⟨h.dk.keeps hh.2.2 (fun e => h.xO (.inl e.symm)) (fun j hj e => h.xO (.inr (by have e' : j = x := e; exact e' ▸ hj))), hh.2.1, h.xO, h.ap, h.fit⟩, hh.2.2.mono (fun j hj => .inr hj), fun j hj => .inl hj, fun j hj => .inl hj⟩)⟩

end Go.Proofs.YtjhbljkoapbkfaaGreat
