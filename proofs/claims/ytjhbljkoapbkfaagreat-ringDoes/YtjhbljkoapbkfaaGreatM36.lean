/- Contract: what the law is told of a ring's records: all of them, or the first ones. Contract: the image of the program's disk. Both rings, the program's and the document's, on their disks, side by side, and the struct that holds them. -/
import Derived.Test.YtjhbljkoapbkfaaGreatM24
import Derived.Test.YtjhbljkoapbkfaaGreatM6
import Derived.Test.YtjhbljkoapbkfaaGreatM30
import Derived.Test.YtjhbljkoapbkfaaGreatM35
import Derived.Test.YtjhbljkoapbkfaaGreatM26
set_option linter.unusedSimpArgs false
set_option linter.unusedVariables false

namespace Go.Proofs.YtjhbljkoapbkfaaGreat
open Go.RowKit Go.Attic Go.Shelf

attribute [local go_sem] Oper.semAt_some

/-- What stands in the loop over a ring's records. -/
def ToldI (V : World) (B T head most : Nat) (pre : List (Nat × Rc × Option Addr × Nat)) (U : World) : Prop :=
  Keeps (fun k => k = B ∨ k = B + 1) V U ∧ RowAt B (V.heap.size + 2 + 0) U (recs pre) ∧ Boxed U (B + 1) 2 (.int .i64 ((head + pre.length : Nat) : Int)) ∧ pre.length ≤ most

set_option maxRecDepth 100000 in
set_option maxHeartbeats 2000000 in
theorem told_yes {w : World} {r g base blocks head : Nat} {F : Nat → Prop} {rs : List Rc} (h : Rk w r g base blocks head F rs) (most : Nat) (hm1 : most ≤ 1048576) (hps : ∀ x ∈ rs, x.l.length ≤ 44) :
    Calls Tryz.prog 31 #[.pointer (some ⟨r, 0, none⟩), .int .i64 (most : Int)] w fun e w' => ∃ v, e = .returned (.tuple #[v, .bool true]) ∧ Rs w' (fun k => w.heap.size ≤ k) v (rs.take most) ∧ Below w.heap.size w w' := by
  obtain ⟨i0, hi, hz0, hz1', hz2'⟩ := info_parts Tryz.info52
  have hhd0 := h.hd
  have hln := h.ln
  have hb2 := h.b2
  obtain ⟨T, hT⟩ : ∃ T, w.heap.size = T := ⟨_, rfl⟩
  obtain ⟨w1, hw1⟩ : ∃ w1, ((w.alloc (.cells #[.int .i64 (most : Int)] 3)).alloc (.cells #[.slice none 0 0] 29)).alloc (.cells #[.bool false] 4) = w1 := ⟨_, rfl⟩
  have hb1 : Below w.heap.size w w1 := by rw [← hw1]; exact (((Below.refl _ w).alloc (Nat.le_refl _) _).alloc (by simp) _).alloc (by simp; omega) _
  have hz1 : w1.heap.size = T + 3 := by rw [← hw1, ← hT]; simp
  have b0 : Boxed w1 T 3 (.int .i64 (most : Int)) := by
    rw [← hw1, ← hT]
    exact ((Boxed.new w 3 (.int .i64 (most : Int))).alloc _).alloc _
  have b1 : Boxed w1 (T + 1) 29 (.slice none 0 0) := by
    rw [← hw1, ← hT]
    have := (Boxed.new (w.alloc (.cells #[.int .i64 (most : Int)] 3)) 29 (.slice none 0 0)).alloc (.cells #[.bool false] 4)
    simpa using this
  have b2 : Boxed w1 (T + 1 + 1) 4 (.bool false) := by
    rw [← hw1, ← hT]
    have := Boxed.new ((w.alloc (.cells #[.int .i64 (most : Int)] 3)).alloc (.cells #[.slice none 0 0] 29)) 4 (.bool false)
    simpa using this
  have hall := all_yes (h.mono hb1)
  have h1 := h.mono hb1
  have Hh1 := hide h1
  clear h h1
  refine (callsIn_wide (n := 3)).1 ?_
  refine callsIn_of_wp_marks Tryz.func31 rfl trivial ?_ rfl
  simp only [Tryz.ntmps31, List.size_toArray, List.length_cons, List.length_nil, Nat.reduceAdd, Nat.reduceSub, Array.replicate_succ, Array.replicate_zero, List.push_toArray, List.append_toArray, List.nil_append, List.cons_append]
  gi_wp2
  refine ⟨trivial, (callsIn_wide.2 hall).mono ?_⟩
  rintro e w2 ⟨f, rfl, ⟨ba, bf, va, vsa, rfl, hba, hbf, hBa, hBf, hrowa, hvla, hbsa⟩, hb2'⟩
  have hz2 := hb2'.size
  obtain ⟨B, hB⟩ : ∃ B, w2.heap.size = B := ⟨_, rfl⟩
  obtain ⟨w3, hw3⟩ : ∃ w3, w2.alloc (.cells #[.slice none 0 0] 29) = w3 := ⟨_, rfl⟩
  have hb3 : Below w2.heap.size w2 w3 := by rw [← hw3]; exact (Below.refl _ _).alloc (Nat.le_refl _) _
  have hz3 : w3.heap.size = B + 1 := by rw [← hw3]; simp [hB]
  have q2 : Boxed w3 B 29 (.slice none 0 0) := by rw [← hw3, ← hB]; exact Boxed.new w2 29 _
  have hhead := head_yes ((Hh1.out.mono hb2').mono hb3)
  obtain ⟨V, hV⟩ : ∃ V, w3.alloc (.cells #[.int .i64 (head : Int)] 2) = V := ⟨_, rfl⟩
  have hbV : Below w3.heap.size w3 V := by rw [← hV]; exact (Below.refl _ _).alloc (Nat.le_refl _) _
  have hzV : V.heap.size = B + 2 := by rw [← hV]; simp [hz3]
  have q3 : Boxed V (B + 1) 2 (.int .i64 (head : Int)) := by rw [← hV, ← hz3]; exact Boxed.new w3 2 _
  have hnil := fun w => run_eql_func_nil (P := Tryz.prog) w (.func 70) #[] #[.pointer (some ⟨ba, 0, none⟩), .pointer (some ⟨bf, 0, none⟩)] Tryz.underlying91
  have k2V : Below w2.heap.size w2 V := hb3.trans (hbV.mono hb3.size)
  have k1V : Below w1.heap.size w1 V := hb2'.trans (k2V.mono hb2'.size)
  have kwV : Below w.heap.size w V := hb1.trans (k1V.mono hb1.size)
  have v0 : Boxed V T 3 (.int .i64 (most : Int)) := (k1V.block _ (by omega)).trans b0
  have v1 : Boxed V (T + 1) 29 (.slice none 0 0) := (k1V.block _ (by omega)).trans b1
  have v2 : Boxed V (T + 1 + 1) 4 (.bool false) := (k1V.block _ (by omega)).trans b2
  have v5 : Boxed V B 29 (.slice none 0 0) := (hbV.block _ (by omega)).trans q2
  have vBa : Boxed V ba 29 va := (k2V.block _ hBa.lt).trans hBa
  have vBf : Boxed V bf 2 (.int .i64 (head : Int)) := (k2V.block _ hBf.lt).trans hBf
  have vrow := (Keeps.of_below (S := fun _ => False) k2V).owns hrowa (fun _ _ => id)
  have hbal := hBa.lt
  have hbfl := hBf.lt
  have Hz1 := hide hz1
  have HV := hide hV
  have Hw1 := hide hw1
  have HkwV := hide kwV
  have hrl : rs.length ≤ 1024 := by omega
  have hTB : T + 3 ≤ B := by omega
  clear hz1 b0 b1 b2 hV hall
  gi_wp2
  refine ⟨trivial, (callsIn_wide.2 hhead).mono ?_⟩
  rintro e w' ⟨rfl, rfl⟩
  gi_wp2
  rw [HV.out]
  have hseq := all1_any (fun k => k < V.heap.size ∧ k ≠ B ∧ k ≠ B + 1) (fun k => k = B ∨ k = B + 1) rs vsa va ba bf _ head V vBa vBf vrow hvla (fun i hi hv => ⟨keeps_bs (Keeps.of_below (S := fun _ => False) k2V) (hbsa i hi hv).1 (fun _ _ _ => id), fun hp b hb e => by
    have h9 := (hbsa i hi hv).2 hp b hb
    have := Hh1.out.Fl b h9
    have e' : b = B ∨ b = B + 1 := e
    omega⟩) hps (by omega) hhd0 (fun k hk hn => ⟨hk, fun e => hn (.inl e), fun e => hn (.inr e)⟩) (fun e => by have e' : ba = B ∨ ba = B + 1 := e; omega) (fun e => by have e' : bf = B ∨ bf = B + 1 := e; omega) (fun b hb e => by have e' : b = B ∨ b = B + 1 := e; have := (hrowa.lt b hb).2; omega)
  refine' range_law3 (n := 3) (gf := 70) (lb := #[.pointer (some ⟨ba, 0, none⟩), .pointer (some ⟨bf, 0, none⟩)]) rfl (enters_of Tryz.func70 (by kernel_rfl) rfl) hseq (Below.refl _ _) (fun k hk => hk.1) (fun _ => rfl)
    (fun pre U => ToldI V B T head most pre U)
    (fun code pre U => code = .exit 0 ∧ ∃ a x, pre = a ++ [x] ∧ a.length = most ∧ ToldI V B T head most a U)
    (Stands.and (stands_keeps _ _ (Nat.le_refl _)) (Stands.and (stands_row _ _ _ (by omega) (Nat.le_refl _)) (Stands.and (stands_boxed _ _ _ (.inl (by omega))) (Stands.pure _ _ _))))
    (fun code => Stands.and (Stands.pure _ _ _) (Stands.ex fun a => Stands.ex fun x => Stands.and (Stands.pure _ _ _) (Stands.and (Stands.pure _ _ _) (fun s A A' row hs hg hm => (Stands.and (stands_keeps _ _ (Nat.le_refl _)) (Stands.and (stands_row _ _ (fun _ : Unit => recs a) (by omega) (Nat.le_refl _)) (Stands.and (stands_boxed _ _ (fun _ : Unit => Value.int .i64 ((head + a.length : Nat) : Int)) (.inl (by omega))) (Stands.pure _ _ (fun _ : Unit => a.length ≤ most)))) : Stands _ _ _) () A A' row hs hg hm))))
    ⟨Keeps.refl _ _, ⟨none, _, [], v5, Rw.nil _ _⟩, q3, Nat.zero_le _⟩ _ _ ?haw ?assign ?body ?done ?stop
  case assign =>
    intro l' x U T' hT'
    simp only [aEnc]
    gi_wp2
    exact hT'
  case haw =>
    intro x U
    exact (Below.refl _ _).alloc (Nat.le_refl _) _
  case body =>
    rintro pre x U0 U hSp ⟨hkU, hrow, hn, hpm⟩ hX hsU ⟨r', hr'⟩ hzU hcU
    have hzU2 : U.heap.size = U0.heap.size + 1 := by rw [hzU]; simp
    have hx1 := hSp.2 pre x rfl
    have hpre : (recs pre).length ≤ 1024 := by
      have := hSp.1.length_le
      rw [recs_snoc] at this
      simp at this; omega
    have hrpl : (recs pre).length = pre.length := by simp [recs]
    obtain ⟨pt, vt, vst, hbt, hrwt⟩ := hrow
    obtain ⟨tao, tcap, rfl⟩ := owns_slice hrwt.row
    have hU0 : U0.heap.size < U.heap.size := by omega
    have hUV : V.heap.size + 2 + 0 ≤ U.heap.size := by omega
    have cM := (show Boxed U T 3 (.int .i64 (most : Int)) from (hkU.block T (by omega) (fun e => by rcases e with e | e <;> omega)).trans v0).cell
    have cN := hn.cell
    have fN := hn.frozen
    have cL := hbt.cell
    by_cases hlt : pre.length < most
    · have hge : ¬ (most : Int) ≤ ((recs pre).length : Int) := by omega
      obtain ⟨nn, hnn⟩ : ∃ nn, head + pre.length = nn := ⟨_, rfl⟩
      rw [hnn] at hx1 cN
      have hnl : (nn : Int) ≤ 2305843009213693952 := by omega
      have hnl2 : nn ≤ 2305843009213693952 := by omega
      have hneq : ((nn : Int) != (nn : Int)) = false := by simp
      have hxi : (x.1 : Int) = (nn : Int) := by rw [hx1]
      obtain ⟨U', hU'⟩ : ∃ U', U.setCell ⟨B + 1, 0, none⟩ (.int .i64 ((nn : Int) + 1)) = U' := ⟨_, rfl⟩
      have kU' : Keeps (fun k => k = B + 1) U U' := by rw [← hU']; exact keeps_set U (B + 1) 0 _
      have hzU' : U'.heap.size = U.heap.size := by rw [← hU']; simp
      have hn' : Boxed U' (B + 1) 2 (.int .i64 ((nn : Int) + 1)) := by rw [← hU']; exact hn.set _
      have hbx0 : U'.heap[U0.heap.size]? = some (.cells #[.int .i64 x.2.1.k, .int .i64 x.2.1.b, .int .i64 x.2.1.o, .slice x.2.2.1 x.2.1.l.length x.2.2.2, .int .i64 x.2.1.m] 52) := by
        refine (kU'.block _ (by omega) (fun e => by have e' : U0.heap.size = B + 1 := e; omega)).trans ?_
        rw [hcU _ (by omega)]; exact World.alloc_heap_new U0 _
      have r0 : U'.cell? ⟨U0.heap.size, 0, none⟩ = some (.int .i64 x.2.1.k) := by unfold World.cell?; rw [hbx0]; rfl
      have r1 : U'.cell? ⟨U0.heap.size, 1, none⟩ = some (.int .i64 x.2.1.b) := by unfold World.cell?; rw [hbx0]; rfl
      have r2 : U'.cell? ⟨U0.heap.size, 2, none⟩ = some (.int .i64 x.2.1.o) := by unfold World.cell?; rw [hbx0]; rfl
      have r3 : U'.cell? ⟨U0.heap.size, 3, none⟩ = some (.slice x.2.2.1 x.2.1.l.length x.2.2.2) := by unfold World.cell?; rw [hbx0]; rfl
      have r4 : U'.cell? ⟨U0.heap.size, 4, none⟩ = some (.int .i64 x.2.1.m) := by unfold World.cell?; rw [hbx0]; rfl
      have hlx := hX.1.lt
      have hXU : U.ownsRow (V.heap.size + 2 + 0) 5 1 (.slice x.2.2.1 x.2.1.l.length x.2.2.2) x.2.1.l.length (cellsB x.2.1.l) := by
        refine ⟨hX.1.1, ?_⟩
        rcases hX.1.2 with hn | ⟨g, cap, cur, e, hb, hg, rest⟩
        · exact .inl hn
        · have hgl := (Array.getElem?_eq_some_iff.1 hg).1
          exact .inr ⟨g, cap, cur, e, hb, ((hcU g (by omega)).trans (Below.heap_alloc _ _ _ hgl)).trans hg, rest⟩
      have hXU' := kU'.owns hXU (fun b hb e => by have e' : b = B + 1 := e; have := (hXU.lt b hb).1; omega)
      have hxlt := hX.2
      have hpt8 : ∀ b, pt = some b → V.heap.size + 2 + 0 ≤ b := fun b hb => hrwt.pF b hb
      have hptl : ∀ b, pt = some b → b < U.heap.size := fun b hb => owns_lt' hrwt.row b (hrwt.own.trans hb)
      have hapart : ∀ b, pt = some b → (Value.slice x.2.2.1 x.2.1.l.length x.2.2.2).ownBlock ≠ some b := fun b hb e => owns_apart hrwt.row hXU (by decide) (hrwt.own.trans hb) e
      have hown4 : (Value.slice tao (recs pre).length tcap).ownBlock = pt := hrwt.own
      have hne4 : ∀ b, (Value.slice tao (recs pre).length tcap).ownBlock = some b → b ≠ B := fun b hb e => by have := hpt8 b (hown4.symm.trans hb); omega
      have hrw' := hrwt.keeps kU' (fun k hk e => by have e' : k = B + 1 := e; omega)
      have rowt := hrw'.row
      have hbt' : Boxed U' B 29 (.slice tao (recs pre).length tcap) := by rw [← hU']; exact hbt.other (by omega) _
      have hct1 := hbt'.cell
      have Hbt := hide hbt'
      have Hrwt := hide hrw'
      have HXU := hide hXU'
      have HhX := hide hX
      have Hnn := hide hnn
      have Hn' := hide hn'
      have Hrpl := hide hrpl
      have Hx1 := hide hx1
      have HzU2 := hide hzU2
      have HzU' := hide hzU'
      have HkU' := hide kU'
      have HkU := hide hkU
      have hUU : V.heap.size + 2 ≤ U'.heap.size := by omega
      clear hzU2 hzU' kU' hkU
      clear hseq hbt hrwt hXU hbx0 hzU hcU hX hlx hbt' hrw' hXU' hn' hn hnn hrpl hx1
      gi_wp2_with (gi_at_builtin; refine wpListIn_append_own_at _ rfl _ _ 29 rfl 0 52 i0 (.agg #[.int .i64 0, .int .i64 0, .int .i64 0, .slice none 0 0, .int .i64 0]) 5 56 Tryz.underlying29 hi hz0 hz1' hz2' rfl (by decide) (.slice tao (recs pre).length tcap) (recs pre).length (cellsR (recs pre) vst) rfl (rowt.alloc _) ⟨U'.heap.size, 0, none⟩ 1 1 [.int .i64 x.2.1.k, .int .i64 x.2.1.b, .int .i64 x.2.1.o, .slice x.2.2.1 x.2.1.l.length x.2.2.2, .int .i64 x.2.1.m] rfl rfl (cell_five_new _ _ _ _ _ _ _) (by simp [Value.oneCell']) (by unfold maxLen; omega) (by omega) (by omega) ?_; intro v5 w5 ho5 hg5 hn5 hat5; have hbx5 := (Hbt.out.alloc _).kept hg5 (fun e => hne4 _ e.symm rfl); have hc5 := hbx5.cell; have hf5 := hbx5.frozen; obtain ⟨gv5, cv5, rfl⟩ := owns_succ ho5)
      rw [hown4] at hg5 hat5
      have hzU2 := HzU2.out
      have hzU' := HzU'.out
      have kU' := HkU'.out
      have kk : Keeps (fun b => pt = some b) U' w5 := (Keeps.alloc _ _).trans (keeps_grown hg5)
      have hkin : ∀ b, (Value.slice (some ⟨gv5, 0, none⟩) ((recs pre).length + 1) cv5).ownBlock = some b → pt = some b ∨ b = U'.heap.size + 1 := by
        intro b hb
        rcases hat5 with e | e
        · exact .inl (e.symm.trans hb)
        · rw [e] at hb; injection hb with hb; simp at hb; exact .inr (by omega)
      have hlt5 := HXU.out.lt
      have hrw5 := (Hrwt.out.narrow.snoc (u := .slice x.2.2.1 x.2.1.l.length x.2.2.2) (r := x.2.1) (fun k hk => hk.2) kk ho5 (fun b hb => by rcases hkin b hb with e | e; exact .inl e; exact .inr (by omega)) (keeps_bs kk (Bs.of_owns HXU.out hxlt) (fun _ b hb e => hapart b e hb))
        (fun _ b hb e => by have h4 := hlt5 b hb; rcases hkin b e with e | e; exact hapart b e hb; omega)).widen (F' := fun k => V.heap.size + 2 + 0 ≤ k) (fun k hk => by
          rcases hk with hk | hk | hk
          · exact hk.1
          · rcases hkin k hk with e | e
            · exact hpt8 k e
            · omega
          · exact (hlt5 k hk).1)
      have hn5' : Boxed w5 (B + 1) 2 (.int .i64 ((nn : Int) + 1)) := (Hn'.out.alloc _).kept hg5 (fun e => by have := hpt8 _ e.symm; omega)
      have kX : Keeps (fun b => b = B ∨ b = B + 1 ∨ V.heap.size + 2 + 0 ≤ b) U (w5.setCell ⟨B, 0, none⟩ (.slice (some ⟨gv5, 0, none⟩) ((recs pre).length + 1) cv5)) := ((kU'.mono (fun b hb => .inr (.inl hb))).trans (kk.mono (fun b hb => .inr (.inr (hpt8 b hb))))).trans ((keeps_set _ _ 0 _).mono (fun b hb => .inl hb))
      have hsz5 := kX.size
      refine ⟨⟨kX.size, fun b h1 h2 => kX.block b (by omega) (fun h' => by rcases h' with h' | h' | h' <;> omega)⟩, ⟨kX.size, fun b hb => kX.block b (by have := hb.1; omega) (fun h' => by have := hb.2; rcases h' with h' | h' | h' <;> omega)⟩, ?_, ?_, ?_, ?_⟩
      · exact HkU.out.trans' kX (fun b h' => by rcases h' with h' | h' | h'; exact .inl (.inl h'); exact .inl (.inr h'); exact .inr (by omega))
      · show RowAt _ _ _ (recs (pre ++ [x]))
        rw [recs_snoc]
        exact ⟨_, _, _, hbx5.set _, hrw5.keeps (keeps_set w5 B 0 _) (fun k hk e => by have e' : k = B := e; omega)⟩
      · have h9 := hn5'.other (B' := B) (by omega) (.slice (some ⟨gv5, 0, none⟩) ((recs pre).length + 1) cv5)
        rw [show ((head + (pre ++ [x]).length : Nat) : Int) = (nn : Int) + 1 by have := Hnn.out; simp; omega]
        exact h9
      · simp; omega
    · have hge : (most : Int) ≤ ((recs pre).length : Int) := by omega
      have hpe : pre.length = most := by omega
      have Hall := hide (And.intro hkU (And.intro (show RowAt B (V.heap.size + 2 + 0) U (recs pre) from ⟨pt, _, vst, hbt, hrwt⟩) (And.intro hn hpm)))
      clear hseq hbt hrwt hX hcU hn
      gi_wp2
      exact ⟨Still.refl _ _ _, rfl, pre, x, rfl, hpe, Hall.out⟩
  case done =>
    rintro xs U hxs ⟨hkU, ⟨pt, vt, vst, hbt, hrwt⟩, hn, hpm⟩ hsU hK
    have htk : rs.take most = recs xs := by rw [hxs]; exact List.take_of_length_le (by rw [← hxs]; simp [recs]; omega)
    have Htk := hide htk
    clear htk hxs
    have u1 : Boxed U (T + 1) 29 (.slice none 0 0) := (hkU.block _ (by omega) (fun e => by rcases e with e | e <;> omega)).trans v1
    have u2 : Boxed U (T + 1 + 1) 4 (.bool false) := (hkU.block _ (by omega) (fun e => by rcases e with e | e <;> omega)).trans v2
    obtain ⟨tao, tcap, rfl⟩ := owns_slice hrwt.row
    have c1 := u1.cell
    have f1 := u1.frozen
    have c2 := u2.cell
    have f2 := u2.frozen
    have c5 := hbt.cell
    have Hrwt := hide hrwt
    have Hbt := hide hbt
    clear hseq hrwt hbt
    gi_wp2
    obtain ⟨va5, hva5⟩ : ∃ va5, va5 = Value.slice tao (recs xs).length tcap := ⟨_, rfl⟩
    rw [← hva5]
    have kC := ((keeps_set U (T + 1) 0 va5).mono (T := fun b => b = T + 1 ∨ b = T + 1 + 1) (fun b hb => .inl hb)).trans ((keeps_set _ (T + 1 + 1) 0 (.bool true)).mono (fun b hb => .inr hb))
    have bU1 : Boxed ((U.setCell ⟨T + 1, 0, none⟩ va5).setCell ⟨T + 1 + 1, 0, none⟩ (.bool true)) (T + 1) 29 va5 := ((u1.set va5).other (by omega) (.bool true))
    have bU2 : Boxed ((U.setCell ⟨T + 1, 0, none⟩ va5).setCell ⟨T + 1 + 1, 0, none⟩ (.bool true)) (T + 1 + 1) 4 (.bool true) := ((u2.other (by omega) va5).set (.bool true))
    generalize (U.setCell ⟨T + 1, 0, none⟩ va5).setCell ⟨T + 1 + 1, 0, none⟩ (.bool true) = U3 at *
    have hK4 : U3.heap[V.heap.size]? = some (.deferred (some [])) := (kC.block V.heap.size (by omega) (fun h' => by rcases h' with h' | h' <;> omega)).trans hK
    refine ⟨by simp, .inl ⟨_, _, rfl, run_takeDeferred hK4, ?_⟩⟩
    have b1Y := (World.putObj_heap_other (w := U3) (r := V.heap.size) (o := .deferred none) (k := T + 1) (by omega)).trans bU1
    have b2Y := (World.putObj_heap_other (w := U3) (r := V.heap.size) (o := .deferred none) (k := T + 1 + 1) (by omega)).trans bU2
    refine ⟨_, results_cell2 rfl _ _ _ _ _ _ rfl rfl (isAgg29 _) (isAgg4 _) (Boxed.cell b1Y) (Boxed.cell b2Y), _, rfl, ?_, ?_⟩
    · have kP := (kC.mono (T := fun b => b = T + 1 ∨ b = T + 1 + 1 ∨ b = V.heap.size) (fun b hb => by rcases hb with e | e; exact .inl e; exact .inr (.inl e))).trans ((keeps_put U3 V.heap.size (.deferred none)).mono (fun b hb => .inr (.inr hb)))
      have := (Hrwt.out.rs.keeps kP (fun k hk e => by rcases e with e | e | e <;> omega)).widen (F' := fun k => w.heap.size ≤ k) (fun k hk => by have := HkwV.out.size; omega)
      rw [hva5, Htk.out]
      exact this
    · have k1 := (Keeps.of_below (S := fun b => T ≤ b) HkwV.out).trans ((hkU.mono (fun b h' => by rcases h' with h' | h' <;> omega)).trans ((kC.mono (fun b h' => by rcases h' with h' | h' <;> omega)).trans ((keeps_put U3 V.heap.size (.deferred none)).mono (fun b h' => by have e : b = V.heap.size := h'; omega))))
      exact k1.below (fun b hb => by omega) (Nat.le_refl _)
  case stop =>
    rintro code pre U hSp ⟨rfl, a, x, rfl, ham, hkU, ⟨pt, vt, vst, hbt, hrwt⟩, hn, hpm⟩ hsU hK
    have htk : rs.take most = recs a := by
      have h1 := hSp.1
      rw [recs_snoc] at h1
      obtain ⟨rest, hr⟩ := h1
      have hl : (recs a).length = most := by simp [recs, ham]
      rw [← hr, List.append_assoc, List.take_append_of_le_length (by omega)]
      exact List.take_of_length_le (by omega)
    have Htk := hide htk
    clear htk
    have u1 : Boxed U (T + 1) 29 (.slice none 0 0) := (hkU.block _ (by omega) (fun e => by rcases e with e | e <;> omega)).trans v1
    have u2 : Boxed U (T + 1 + 1) 4 (.bool false) := (hkU.block _ (by omega) (fun e => by rcases e with e | e <;> omega)).trans v2
    obtain ⟨tao, tcap, rfl⟩ := owns_slice hrwt.row
    have c1 := u1.cell
    have f1 := u1.frozen
    have c2 := u2.cell
    have f2 := u2.frozen
    have c5 := hbt.cell
    have Hrwt := hide hrwt
    have Hbt := hide hbt
    clear hseq hrwt hbt
    gi_wp2
    obtain ⟨va5, hva5⟩ : ∃ va5, va5 = Value.slice tao (recs a).length tcap := ⟨_, rfl⟩
    rw [← hva5]
    have kC := ((keeps_set U (T + 1) 0 va5).mono (T := fun b => b = T + 1 ∨ b = T + 1 + 1) (fun b hb => .inl hb)).trans ((keeps_set _ (T + 1 + 1) 0 (.bool true)).mono (fun b hb => .inr hb))
    have bU1 : Boxed ((U.setCell ⟨T + 1, 0, none⟩ va5).setCell ⟨T + 1 + 1, 0, none⟩ (.bool true)) (T + 1) 29 va5 := ((u1.set va5).other (by omega) (.bool true))
    have bU2 : Boxed ((U.setCell ⟨T + 1, 0, none⟩ va5).setCell ⟨T + 1 + 1, 0, none⟩ (.bool true)) (T + 1 + 1) 4 (.bool true) := ((u2.other (by omega) va5).set (.bool true))
    generalize (U.setCell ⟨T + 1, 0, none⟩ va5).setCell ⟨T + 1 + 1, 0, none⟩ (.bool true) = U3 at *
    have hK4 : U3.heap[V.heap.size]? = some (.deferred (some [])) := (kC.block V.heap.size (by omega) (fun h' => by rcases h' with h' | h' <;> omega)).trans hK
    refine ⟨by simp, .inl ⟨_, _, rfl, run_takeDeferred hK4, ?_⟩⟩
    have b1Y := (World.putObj_heap_other (w := U3) (r := V.heap.size) (o := .deferred none) (k := T + 1) (by omega)).trans bU1
    have b2Y := (World.putObj_heap_other (w := U3) (r := V.heap.size) (o := .deferred none) (k := T + 1 + 1) (by omega)).trans bU2
    refine ⟨_, results_cell2 rfl _ _ _ _ _ _ rfl rfl (isAgg29 _) (isAgg4 _) (Boxed.cell b1Y) (Boxed.cell b2Y), _, rfl, ?_, ?_⟩
    · have kP := (kC.mono (T := fun b => b = T + 1 ∨ b = T + 1 + 1 ∨ b = V.heap.size) (fun b hb => by rcases hb with e | e; exact .inl e; exact .inr (.inl e))).trans ((keeps_put U3 V.heap.size (.deferred none)).mono (fun b hb => .inr (.inr hb)))
      have := (Hrwt.out.rs.keeps kP (fun k hk e => by rcases e with e | e | e <;> omega)).widen (F' := fun k => w.heap.size ≤ k) (fun k hk => by have := HkwV.out.size; omega)
      rw [hva5, Htk.out]
      exact this
    · have k1 := (Keeps.of_below (S := fun b => T ≤ b) HkwV.out).trans ((hkU.mono (fun b h' => by rcases h' with h' | h' <;> omega)).trans ((kC.mono (fun b h' => by rcases h' with h' | h' <;> omega)).trans ((keeps_put U3 V.heap.size (.deferred none)).mono (fun b h' => by have e : b = V.heap.size := h'; omega))))
      exact k1.below (fun b hb => by omega) (Nat.le_refl _)


end Go.Proofs.YtjhbljkoapbkfaaGreat

namespace Go.Proofs.YtjhbljkoapbkfaaGreat
open Go.RowKit Go.Attic

set_option maxRecDepth 100000 in
set_option maxHeartbeats 400000 in
theorem image_yes {w : World} {g m : Nat} {p : Option Nat} {F : Nat → Prop} {n : Nat} {s : St} (h : Dk w g m p F n s) :
    Calls Tryz.prog 36 #[.pointer (some ⟨g, 0, none⟩)] w (NewBs w s.med) := by
  obtain ⟨cap, c0, hbs⟩ := h.medBs
  have hlen : s.med.length ≤ 524288 := by have hl := h.ok.len; have hn := h.ok.n2; omega
  go_enter Tryz.func36, Tryz.ntmps36
  go_wp2_with fail
  refine (isMade_yes h).mono ?_
  rintro e w' ⟨rfl, rfl⟩
  go_wp2_with fail
  refine (own_any _ _ _ hbs (by omega)).mono ?_
  rintro e w1 ⟨v1, rfl, ho1, hb1⟩
  go_wp2
  go_ret
  exact ⟨_, rfl, ho1, hb1⟩


end Go.Proofs.YtjhbljkoapbkfaaGreat

namespace Go.Proofs.YtjhbljkoapbkfaaGreat
open Go.RowKit Go.Attic Go.Shelf

/-- The struct in block tb: the place, both disks, both rings. -/
structure TAt (w : World) (tb n : Nat) (base blocks head0 : Int) (g gx : Nat) (rv xv : Value) : Prop where
  t0 : w.cell? ⟨tb, 0, none⟩ = some (.int .i64 (n : Int))
  t1 : w.cell? ⟨tb, 1, none⟩ = some (.int .i64 base)
  t2 : w.cell? ⟨tb, 2, none⟩ = some (.int .i64 blocks)
  t3 : w.cell? ⟨tb, 3, none⟩ = some (.int .i64 head0)
  t4 : w.cell? ⟨tb, 4, none⟩ = some (.pointer (some ⟨g, 0, none⟩))
  t5 : w.cell? ⟨tb, 5, none⟩ = some rv
  t6 : w.cell? ⟨tb, 6, none⟩ = some (.pointer (some ⟨gx, 0, none⟩))
  t7 : w.cell? ⟨tb, 7, none⟩ = some xv
  f5 : w.frozen? ⟨tb, 5, none⟩ = false
  f7 : w.frozen? ⟨tb, 7, none⟩ = false

theorem TAt.tl {w : World} {tb n : Nat} {base blocks head0 : Int} {g gx : Nat} {rv xv : Value} (h : TAt w tb n base blocks head0 g gx rv xv) : tb < w.heap.size := by
  have := World.block_lt_of_cell? w _ h.t0; simpa using this
theorem TAt.keeps {w w' : World} {tb n : Nat} {base blocks head0 : Int} {g gx : Nat} {rv xv : Value} {S : Nat → Prop} (h : TAt w tb n base blocks head0 g gx rv xv) (hk : Keeps S w w') (hS : ¬ S tb) : TAt w' tb n base blocks head0 g gx rv xv :=
  ⟨hk.cell h.t0 hS, hk.cell h.t1 hS, hk.cell h.t2 hS, hk.cell h.t3 hS, hk.cell h.t4 hS, hk.cell h.t5 hS, hk.cell h.t6 hS, hk.cell h.t7 hS, by rw [hk.frozen (a := ⟨tb, 5, none⟩) h.tl hS]; exact h.f5, by rw [hk.frozen (a := ⟨tb, 7, none⟩) h.tl hS]; exact h.f7⟩

/-- Whose blocks are whose: A the program's, B the document's, C what the document's records read besides. -/
structure Apart (W w : World) (tb : Nat) (A B C : Nat → Prop) : Prop where
  AB : ∀ k, A k → ¬ B k
  AC : ∀ k, A k → ¬ C k
  tA : ¬ A tb
  tB : ¬ B tb
  AW : ∀ k, A k → W.heap.size ≤ k ∧ k < w.heap.size
  BW : ∀ k, B k → W.heap.size ≤ k ∧ k < w.heap.size
  Cl : ∀ k, C k → k < w.heap.size
  tW : W.heap.size ≤ tb
  bel : Below W.heap.size W w

/-- Both disks. -/
structure Td (W w : World) (tb : Nat) (A B C : Nat → Prop) (g m gx n : Nat) (s1 s2 : St) : Prop where
  a : ∃ p F, Dk w g m p F n s1 ∧ ∀ k, Own g m F k → A k
  b : ∃ q p F, Dr w gx q p F n s2 ∧ ∀ k, OwnX gx F k → B k
  ap : Apart W w tb A B C

/-- Both rings. -/
structure Tw (W w : World) (tb : Nat) (A B C : Nat → Prop) (r g m x gx n base blocks : Nat) (head0 : Int) (h1 : Nat) (s1 : St) (rs1 : List Rc) (h2 : Nat) (s2 : St) (rs2 : List Rc) : Prop where
  a : ∃ p F Fr, RD w r g m p F Fr n base blocks h1 s1 rs1 ∧ ∀ k, OwnR r g m F Fr k → A k
  b : ∃ q p F Fx, WD w x gx q p F Fx n base blocks h2 s2 rs2 ∧ (∀ k, OwnX gx F k ∨ k = x → B k) ∧ ∀ k, Fx k → C k
  ap : Apart W w tb A B C
  t : TAt w tb n (base : Int) (blocks : Int) head0 g gx (.pointer (some ⟨r, 0, none⟩)) (.pointer (some ⟨x, 0, none⟩))

theorem RD.lt_of {w : World} {r g m : Nat} {p : Option Nat} {F Fr : Nat → Prop} {n base blocks head : Nat} {s : St} {rs : List Rc} (h : RD w r g m p F Fr n base blocks head s rs) (b : Nat) (hb : OwnR r g m F Fr b) : b < w.heap.size := by
  rcases hb with (e | e | e) | e | e
  · exact e ▸ h.dk.gl
  · exact e ▸ h.dk.ml
  · exact h.dk.Fl b e
  · exact e ▸ h.rk.rl
  · exact h.rk.Fl b e

theorem Apart.turnA {W w w' : World} {tb : Nat} {A B C : Nat → Prop} (h : Apart W w tb A B C) (ht : tb < w.heap.size) (hk : Keeps A w w') : Apart W w' tb (fun k => A k ∨ (w.heap.size ≤ k ∧ k < w'.heap.size)) B C := by
  have hz := hk.size
  have hb := h.bel.size
  refine ⟨fun k hk hB => ?_, fun k hk hC => ?_, fun hA => ?_, h.tB, fun k hk => ?_, fun k hk => ?_, fun k hk => ?_, h.tW, h.bel.trans (hk.below (fun k hk => (h.AW k hk).1) hb)⟩
  · rcases hk with e | e
    · exact h.AB k e hB
    · have := (h.BW k hB).2; omega
  · rcases hk with e | e
    · exact h.AC k e hC
    · have := h.Cl k hC; omega
  · rcases hA with e | e
    · exact h.tA e
    · omega
  · rcases hk with e | e
    · have := h.AW k e; omega
    · omega
  · have := h.BW k hk; omega
  · have := h.Cl k hk; omega

theorem Apart.turnB {W w w' : World} {tb : Nat} {A B C : Nat → Prop} (h : Apart W w tb A B C) (ht : tb < w.heap.size) (hk : Keeps B w w') : Apart W w' tb A (fun k => B k ∨ (w.heap.size ≤ k ∧ k < w'.heap.size)) (fun k => C k ∨ k < W.heap.size ∨ (w.heap.size ≤ k ∧ k < w'.heap.size)) := by
  have hz := hk.size
  have hb := h.bel.size
  refine ⟨fun k hA hB => ?_, fun k hA hC => ?_, h.tA, fun hB => ?_, fun k hk => ?_, fun k hk => ?_, fun k hk => ?_, h.tW, h.bel.trans (hk.below (fun k hk => (h.BW k hk).1) hb)⟩
  · rcases hB with e | e
    · exact h.AB k hA e
    · have := (h.AW k hA).2; omega
  · have := h.AW k hA
    rcases hC with e | e | e
    · exact h.AC k hA e
    · omega
    · omega
  · rcases hB with e | e
    · exact h.tB e
    · omega
  · have := h.AW k hk; omega
  · rcases hk with e | e
    · have := h.BW k e; omega
    · omega
  · rcases hk with e | e | e
    · have := h.Cl k e; omega
    · omega
    · omega

theorem Apart.still {W w w' : World} {tb : Nat} {A B C : Nat → Prop} (h : Apart W w tb A B C) (hk : Below w.heap.size w w') : Apart W w' tb A B C := by
  have hz := hk.size
  exact ⟨h.AB, h.AC, h.tA, h.tB, fun k hk => by have := h.AW k hk; omega, fun k hk => by have := h.BW k hk; omega, fun k hk => by have := h.Cl k hk; omega, h.tW, h.bel.trans (hk.mono h.bel.size)⟩

theorem Tw.still {W w w' : World} {tb : Nat} {A B C : Nat → Prop} {r g m x gx n base blocks : Nat} {head0 : Int} {h1 : Nat} {s1 : St} {rs1 : List Rc} {h2 : Nat} {s2 : St} {rs2 : List Rc} (h : Tw W w tb A B C r g m x gx n base blocks head0 h1 s1 rs1 h2 s2 rs2) (hk : Below w.heap.size w w') : Tw W w' tb A B C r g m x gx n base blocks head0 h1 s1 rs1 h2 s2 rs2 := by
  obtain ⟨p, F, Fr, a1, a2⟩ := h.a
  obtain ⟨q, p', F', Fx, b1, b2, b3⟩ := h.b
  exact ⟨⟨p, F, Fr, a1.mono hk, a2⟩, ⟨q, p', F', Fx, b1.mono hk, b2, b3⟩, h.ap.still hk, h.t.keeps (S := fun _ => False) (Keeps.of_below hk) id⟩

/-- The program's ring was turned. -/
theorem Tw.turnA {W w w' : World} {tb : Nat} {A B C : Nat → Prop} {r g m x gx n base blocks : Nat} {head0 : Int} {h1 h1' : Nat} {s1 s1' : St} {rs1 rs1' : List Rc} {h2 : Nat} {s2 : St} {rs2 : List Rc} (h : Tw W w tb A B C r g m x gx n base blocks head0 h1 s1 rs1 h2 s2 rs2)
    {F Fr : Nat → Prop} (hA : ∀ k, OwnR r g m F Fr k → A k) (ht : RTurn w r g m F Fr n base blocks h1' s1' rs1' w') : Keeps A w w' ∧ ∃ A', Tw W w' tb A' B C r g m x gx n base blocks head0 h1' s1' rs1' h2 s2 rs2 := by
  obtain ⟨p', F', Fr', hRD, hk, hF⟩ := ht
  have hkA := hk.mono hA
  obtain ⟨q, pb, Fb, Fx, b1, b2, b3⟩ := h.b
  refine ⟨hkA, _, ⟨p', F', Fr', hRD, fun k hk' => ?_⟩, ⟨q, pb, Fb, Fx, b1.keeps hkA (fun k hk' hAk => ?_), b2, b3⟩, h.ap.turnA h.t.tl hkA, h.t.keeps hkA h.ap.tA⟩
  · have hlt := hRD.lt_of k hk'
    have key : ∀ k, F' k ∨ Fr' k → k < w'.heap.size → A k ∨ (w.heap.size ≤ k ∧ k < w'.heap.size) := fun k hk hl => by
      rcases hF k hk with e | e | e
      · exact .inl (hA k (.inl (.inr (.inr e))))
      · exact .inl (hA k (.inr (.inr e)))
      · exact .inr ⟨e, hl⟩
    rcases hk' with (e | e | e) | e | e
    · exact .inl (hA k (.inl (.inl e)))
    · exact .inl (hA k (.inl (.inr (.inl e))))
    · exact key k (.inl e) hlt
    · exact .inl (hA k (.inr (.inl e)))
    · exact key k (.inr e) hlt
  · rcases hk' with e | e | e
    · exact h.ap.AB k hAk (b2 k (.inl e))
    · exact h.ap.AB k hAk (b2 k (.inr e))
    · exact h.ap.AC k hAk (b3 k e)

/-- The document's ring was turned. -/
theorem Tw.turnB {W w w' : World} {tb : Nat} {A B C : Nat → Prop} {r g m x gx n base blocks : Nat} {head0 : Int} {h1 h2' : Nat} {s1 s2' : St} {rs1 rs2' : List Rc} {h2 : Nat} {s2 : St} {rs2 : List Rc} (h : Tw W w tb A B C r g m x gx n base blocks head0 h1 s1 rs1 h2 s2 rs2)
    {F Fx Fl : Nat → Prop} (hB : ∀ k, OwnX gx F k ∨ k = x → B k) (hC : ∀ k, Fx k → C k) (hl : ∀ k, Fl k → k < W.heap.size) (ht : WTurn w x gx F Fx Fl n base blocks h2' s2' rs2' w') : Keeps B w w' ∧ ∃ B' C', Tw W w' tb A B' C' r g m x gx n base blocks head0 h1 s1 rs1 h2' s2' rs2' := by
  obtain ⟨q', p', F', Fx', hWD, hk, hF, hFx⟩ := ht
  have hkB := hk.mono hB
  obtain ⟨pa, Fa, Fr, a1, a2⟩ := h.a
  refine ⟨hkB, _, _, ⟨pa, Fa, Fr, a1.keeps hkB (fun k hk' hBk => h.ap.AB k (a2 k hk') hBk), a2⟩, ⟨q', p', F', Fx', hWD, fun k hk' => ?_, fun k hk' => ?_⟩, h.ap.turnB h.t.tl hkB, h.t.keeps hkB h.ap.tB⟩
  · rcases hk' with (e | e) | e
    · exact .inl (hB k (.inl (.inl e)))
    · have hlt := hWD.dk.Fl k e
      rcases hF k e with e | e
      · exact .inl (hB k (.inl (.inr e)))
      · exact .inr ⟨e, hlt⟩
    · exact .inl (hB k (.inr e))
  · have hlt := hWD.rk.Fl k hk'
    rcases hFx k hk' with e | e | e
    · exact .inl (hC k e)
    · exact .inr (.inl (hl k e))
    · exact .inr (.inr ⟨e, hlt⟩)

end Go.Proofs.YtjhbljkoapbkfaaGreat
