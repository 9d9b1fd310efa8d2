/- Contract: fetch of a cache, where it brings the block. -/
import Derived.Test.YtjcmmigbkhiplaaK3
import Derived.Test.YtjcmmigbkhiplaaLk
set_option linter.unusedSimpArgs false
set_option linter.unusedVariables false
namespace Go.Proofs.Ytjcmmigbkhiplaa
open Go.RowKit Go.Attic

/-- What fetch leaves where it brings block i: the buffers B1 and, behind them, the new one. -/
def Fetched (w : World) (c m g room q : Nat) (B1 : List Bu) (F : Nat → Prop) (i : Nat) (l : List Nat) (e : Ending) (w' : World) : Prop :=
  ∃ (x : Bu) (F' : Nat → Prop), e = .returned (.tuple #[.pointer (some ⟨x.p, 0, none⟩), .int .i64 0]) ∧ x.i = i ∧ x.l = l ∧ x.d = false ∧ Ca w' c m g room q (B1 ++ [x]) F' ∧ Keeps (fun k => k = m) w w' ∧ ∀ k, F' k → F k ∨ w.heap.size ≤ k

section
variable {w : World} {c m g room q : Nat} {B : List Bu} {F : Nat → Prop} {gm : Nat} {p : Option Nat} {Fd : Nat → Prop} {n : Nat} {s : St}

theorem BufAt.new {w : World} {i : Nat} {l : List Nat} {r cap : Nat} (ho : w.ownsRow 0 5 1 (.slice (some ⟨r, 0, none⟩) 256 cap) 256 (cellsB l)) (hl : l.length = 256) (hx : ∀ y ∈ l, y < 256) (hi : i < 2048) :
    BufAt (w.alloc (.cells #[.slice (some ⟨r, 0, none⟩) 256 cap, .bool false, .int .i64 0] 84)) ⟨i, l, false, w.heap.size, r, cap, 0⟩ := by
  refine ⟨?_, ?_, ?_, ?_, ?_, ho.alloc _, hl, hx, hi⟩ <;> simp

theorem owns_256 {W : World} {base : Nat} {v : Value} {xs : List Value} (h : W.ownsRow base 5 1 v 256 xs) : ∃ r cap, v = .slice (some ⟨r, 0, none⟩) 256 cap := owns_succ (k := 255) h

/-- The last steps: the new buffer, and its key. -/
theorem Ca.brought {w2 w3 w4 : World} {i r cap : Nat} {l : List Nat} (h : Ca w2 c m g room q B F) (hw : w.heap.size ≤ w2.heap.size) (hcl : c < w.heap.size) (hF : ∀ k, F k → k < w.heap.size) (hr : w.heap.size ≤ r) (ho : w2.ownsRow 0 5 1 (.slice (some ⟨r, 0, none⟩) 256 cap) 256 (cellsB l)) (hl : l.length = 256) (hx : ∀ y ∈ l, y < 256) (hi : i < 2048)
    (hno : ∀ x ∈ B, x.i ≠ i) (h3 : w2.alloc (.cells #[.slice (some ⟨r, 0, none⟩) 256 cap, .bool false, .int .i64 0] 84) = w3) (hmp : MpAt w4 m (keysOf B ++ [((i : Int), w2.heap.size)])) (hg : w3.grownBy w4 (some m)) (hk : Keeps (fun k => k = m) w w2) :
    ∃ (x : Bu) (F' : Nat → Prop), x.p = w2.heap.size ∧ x.i = i ∧ x.l = l ∧ x.d = false ∧ Ca w4 c m g room q (B ++ [x]) F' ∧ Keeps (fun k => k = m) w w4 ∧ ∀ k, F' k → F k ∨ w.heap.size ≤ k := by
  have hb := BufAt.new (i := i) ho hl hx hi
  rw [h3] at hb
  have hrl := owns_lt' ho r rfl
  have k23 : Keeps (fun k => k = m) w2 w3 := by rw [← h3]; exact Keeps.alloc _ _
  have k34 : Keeps (fun k => k = m) w3 w4 := Keeps.of_grown hg (fun k e => by cases e; rfl)
  have hC3 : Ca w3 c m g room q B F := by rw [← h3]; exact h.mono ((Below.refl _ _).alloc (Nat.le_refl _) _)
  refine ⟨_, _, rfl, rfl, rfl, rfl, hC3.push k34 hmp hb (fun hf => by have := hF _ hf; simp at this; omega) (fun hf => by have := hF _ hf; simp at this; omega) (by simp; omega) (by simp; omega) (by simp; omega) hno, (hk.trans k23).trans k34, ?_⟩
  rintro k (e | e | e)
  · exact .inl e
  · exact .inr (by rw [e]; exact hw)
  · exact .inr (by rw [e]; exact hr)

set_option maxRecDepth 100000 in
set_option maxHeartbeats 1000000 in
theorem fetch_some (i : Nat) (h : Ca w c m g room q B F) (hA : Asc B q) (hd : Dk w g gm p Fd n s) (hq : q ≤ 1000000) (hB : B.length ≤ 256) (hpl : s.pend.length ≤ 1000000) (hon : s.on = true) (hi : i < n) (hno : ∀ x ∈ B, x.i ≠ i) (hf : ¬ room ≤ B.length) :
    Calls Try.prog 53 #[.pointer (some ⟨c, 0, none⟩), .int .i64 (i : Int)] w (Fetched w c m g room q B F i (readL s i)) := by
  have c0 := h.c0
  have c1 := h.c1
  have c2 := h.c2
  have hlen := h.lens
  have hold := h.olds hA hq
  obtain ⟨at1, hat1⟩ : ∃ z, atOf (B.find? fun x => !x.d) = z := ⟨_, rfl⟩
  obtain ⟨fd, hfd⟩ : ∃ z, (B.find? fun x => !x.d).isSome = z := ⟨_, rfl⟩
  rw [hat1, hfd] at hold
  have hll := readL_length hd.ok i hi
  have hlt := readL_lt hd.ok i
  have hn2 := hd.ok.n2
  have hrs := readS_on hon hi
  have Hold := hide hold
  have H := hide h
  have Hd := hide hd
  generalize readL s i = L at *
  have Hll := hide hll
  have Hlt := hide hlt
  have Hno := hide hno
  clear h hA hold hd hat1 hfd hll hlt hno
  go_enter Try.func53, Try.ntmps53
  go_wp2_with fail
  go_quiet (fail)
  go_wp2_with fail
  refine (Hold.out _).mono ?_
  rintro e w1 ⟨rfl, hb⟩
  have c0' := (hb.cell (p := ⟨c, 0, none⟩) (by have := H.out.cl; simpa using this)).trans c0
  have hr := read_yes (Hd.out.mono hb) (i : Int) hpl
  rw [hrs] at hr
  have Hr := hide hr
  clear hr
  go_wp2_with fail
  refine Hr.out.mono ?_
  rintro e w2 ⟨v, rfl, ho2, hb2⟩
  have hz1 := hb.size
  have hb12 := hb.trans (hb2.mono hz1)
  rw [Hll.out] at ho2
  obtain ⟨r, cap, rfl⟩ := owns_256 ho2
  have hrw := owns_lt ho2 r rfl
  have C2 := H.out.mono hb12
  have c2' := C2.c2
  have ho3 := owns_base ho2 (Nat.zero_le _)
  have HC2 := hide C2
  have Ho3 := hide ho3
  clear C2 ho2 ho3 hb2
  have c2a : (w2.alloc (.cells #[.slice (some ⟨r, 0, none⟩) 256 cap, .bool false, .int .i64 0] 84)).cell? ⟨c, 2, none⟩ = some (.map (some m)) := (HC2.out.keeps (S := fun _ => False) (Keeps.alloc _ _) id (fun _ _ => id)).c2
  go_wp2_with (first | (at_mapUpdate; (refine wpList_put_mp rfl _ _ _ rfl m (keysOf B) rfl (HC2.out.mp.keeps (S := fun _ => False) (Keeps.alloc _ _) id) (i : Int) w2.heap.size (by omega) rfl rfl (fun x hx e => by obtain ⟨y, hy, rfl⟩ := key_mem hx; exact Hno.out y hy (by have e2 : (y.i : Int) = (i : Int) := e; omega)) (by rw [HC2.out.keysLen]; omega) ?_; intro w4 hmp4 hg4 hs4)) | go_in)
  go_ret2
  obtain ⟨x, F', e1, e2, e3, e4, e5, e6, e7⟩ := Ca.brought (w := w) HC2.out hb12.size H.out.cl H.out.Fl (Nat.le_trans hz1 hrw) Ho3.out Hll.out Hlt.out (by omega) Hno.out rfl hmp4 hg4 (Keeps.of_below hb12)
  exact ⟨x, F', by rw [e1]; rfl, e2, e3, e4, e5, e6, e7⟩

set_option maxRecDepth 100000 in
set_option maxHeartbeats 1000000 in
theorem fetch_goes (i : Nat) (h : Ca w c m g room q B F) (hA : Asc B q) (hd : Dk w g gm p Fd n s) (hq : q ≤ 1000000) (hB : B.length ≤ 256) (hpl : s.pend.length ≤ 1000000) (hon : s.on = true) (hi : i < n) (hno : ∀ x ∈ B, x.i ≠ i) (hf : room ≤ B.length) (o : Bu) (ho : B.find? (fun x => !x.d) = some o) :
    Calls Try.prog 53 #[.pointer (some ⟨c, 0, none⟩), .int .i64 (i : Int)] w (Fetched w c m g room q (B.filter fun y => y.i != o.i) F i (readL s i)) := by
  obtain ⟨B1, hB1⟩ : ∃ B1, (B.filter fun y => y.i != o.i) = B1 := ⟨_, rfl⟩
  rw [hB1]
  have HB1 := hide hB1
  clear hB1
  have c0 := h.c0
  have c1 := h.c1
  have c2 := h.c2
  have hlen := h.lens
  have hold := h.olds hA hq
  rw [ho] at hold
  simp only [atOf, Option.isSome_some] at hold
  have hob := (h.bu o (List.mem_of_find?_eq_some ho)).i
  have hll := readL_length hd.ok i hi
  have hlt := readL_lt hd.ok i
  have hn2 := hd.ok.n2
  have hrs := readS_on hon hi
  have Hold := hide hold
  have H := hide h
  have Hd := hide hd
  generalize readL s i = L at *
  have Hll := hide hll
  have Hlt := hide hlt
  have Hno := hide hno
  clear h hA hold hd ho hll hlt hno
  go_enter Try.func53, Try.ntmps53
  go_wp2_with fail
  go_quiet (fail)
  go_wp2_with fail
  refine (Hold.out _).mono ?_
  rintro e w1 ⟨rfl, hb⟩
  have c0' := (hb.cell (p := ⟨c, 0, none⟩) (by have := H.out.cl; simpa using this)).trans c0
  have hr := read_yes (Hd.out.mono hb) (i : Int) hpl
  rw [hrs] at hr
  have Hr := hide hr
  clear hr
  go_wp2_with fail
  refine Hr.out.mono ?_
  rintro e w2 ⟨v, rfl, ho2, hb2⟩
  have hz1 := hb.size
  have hb12 := hb.trans (hb2.mono hz1)
  rw [Hll.out] at ho2
  obtain ⟨r, cap, rfl⟩ := owns_256 ho2
  have hrw := owns_lt ho2 r rfl
  have C2 := H.out.mono hb12
  have c2' := C2.c2
  have ho3 := owns_base ho2 (Nat.zero_le _)
  have HC2 := hide C2
  have Ho3 := hide ho3
  clear C2 ho2 ho3 hb2
  have hlen3 : (B.filter fun y => y.i != o.i).length ≤ 256 := Nat.le_trans (List.length_filter_le _ _) hB
  have hno1 : ∀ x ∈ (B.filter fun y => y.i != o.i), x.i ≠ i := fun x hx => Hno.out x (List.mem_filter.1 hx).1
  have hdrop := fun (w3 : World) hk3 hmp3 => HC2.out.drop (w' := w3) o.i hk3 hmp3
  rw [HB1.out] at hlen3 hno1
  simp only [HB1.out] at hdrop
  have Hno1 := hide hno1
  have key : ∀ w3, MpAt w3 m ((keysOf B).filter fun x => x.1 != (o.i : Int)) → w2.grownBy w3 (some m) → w3.heap.size = w2.heap.size → Ca w3 c m g room q B1 F ∧ w3.ownsRow 0 5 1 (.slice (some ⟨r, 0, none⟩) 256 cap) 256 (cellsB L) ∧ w.heap.size ≤ w3.heap.size ∧ Keeps (fun k => k = m) w w3 ∧ (w3.alloc (.cells #[.slice (some ⟨r, 0, none⟩) 256 cap, .bool false, .int .i64 0] 84)).cell? ⟨c, 2, none⟩ = some (.map (some m)) ∧ w3.cell? ⟨c, 2, none⟩ = some (.map (some m)) := by
    intro w3 hmp3 hg3 hs3
    have hk3 : Keeps (fun k => k = m) w2 w3 := Keeps.of_grown hg3 (fun k e => by cases e; rfl)
    have C3 := hdrop w3 hk3 hmp3
    exact ⟨C3, hk3.owns Ho3.out (fun b hb => by cases hb; intro e; have e' : r = m := e; have := H.out.Fl m H.out.Fm; omega), by rw [hs3]; exact hb12.size, (Keeps.of_below hb12).trans hk3, (C3.keeps (S := fun _ => False) (Keeps.alloc _ _) id (fun _ _ => id)).c2, C3.c2⟩
  have Key := hide key
  clear key hno1 hdrop
  go_wp2_with (first | (at_delete; refine wpList_delete_mp rfl _ _ rfl m (keysOf B) rfl HC2.out.mp (o.i : Int) (by omega) rfl ?_; intro w3 hmp3 hg3 hs3; obtain ⟨C3, Ho3', hz3, hkk3, c2a, c2b⟩ := Key.out w3 hmp3 hg3 hs3; have HC3 := hide C3; have HO3 := hide Ho3'; clear C3 Ho3' hmp3 hg3 hs3) | (at_mapUpdate; (refine wpList_put_mp rfl _ _ _ rfl m (keysOf B1) rfl (HC3.out.mp.keeps (S := fun _ => False) (Keeps.alloc _ _) id) (i : Int) w3.heap.size (by omega) rfl rfl (fun x hx e => by obtain ⟨y, hy, rfl⟩ := key_mem hx; exact Hno1.out y hy (by have e2 : (y.i : Int) = (i : Int) := e; omega)) (by rw [HC3.out.keysLen]; omega) ?_; intro w4 hmp4 hg4 hs4)) | go_in)
  go_ret2
  obtain ⟨x, F', e1, e2, e3, e4, e5, e6, e7⟩ := Ca.brought (w := w) HC3.out hz3 H.out.cl H.out.Fl (Nat.le_trans hz1 hrw) HO3.out Hll.out Hlt.out (by omega) Hno1.out rfl hmp4 hg4 hkk3
  exact ⟨x, F', by rw [e1]; rfl, e2, e3, e4, e5, e6, e7⟩

end

end Go.Proofs.Ytjcmmigbkhiplaa
