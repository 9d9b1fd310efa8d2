/- CacheStays: a dirty buffer goes by nothing but a clean, and till then the disk has nothing of it, whatever is read and written. No conditions. -/
import Derived.Test.YtjcmmigbkhiplaaCr
import Derived.Test.YtjcmmigbkhiplaaCameO
import Derived.Test.YtjcmmigbkhiplaaN2
set_option linter.unusedSimpArgs false
set_option linter.unusedVariables false
namespace Go.Proofs.Ytjcmmigbkhiplaa
open Go.RowKit Go.Attic Go.ChangeShapes Go.WideShapes Go.Shelf

/-- The nine marks stand in block T. -/
def Marks (w : World) (T : Nat) (f : Nat → Bool) : Prop := ∀ j, j < 9 → w.cell? ⟨T, j, none⟩ = some (.bool (f j)) ∧ w.frozen? ⟨T, j, none⟩ = false
theorem Marks.keeps {S : Nat → Prop} {w w' : World} {T : Nat} {f : Nat → Bool} (h : Marks w T f) (hk : Keeps S w w') (hT : ¬ S T) : Marks w' T f := fun j hj =>
  ⟨hk.cell (h j hj).1 hT, by rw [hk.frozen (a := ⟨T, j, none⟩) (by have := World.block_lt_of_cell? w _ (h j hj).1; simpa using this) hT]; exact (h j hj).2⟩
theorem Marks.set {w : World} {T : Nat} {f : Nat → Bool} (h : Marks w T f) (i : Nat) (hi : i < 9) : Marks (w.setCell ⟨T, i, none⟩ (.bool true)) T (fun j => f j || i == j) := by
  intro j hj
  refine ⟨?_, by simpa using (h j hj).2⟩
  by_cases e : i = j
  · subst e
    rw [cell_set_same (h i hi).1]; simp
  · rw [cell_set_other (h j hj).1 e]; simp [e]

/-- What stands between two operations of the script. -/
def StI (w wr : World) (c g T room k : Nat) : Prop :=
  ∃ S A f, CD wr c g S room 9 k (newS 9) A ∧ (∀ x ∈ A, x.i < 9) ∧ (∀ j, j < 9 → f j = dirtyAt A j) ∧ Marks wr T f ∧ ¬ S T ∧ T < wr.heap.size ∧ (∀ b, S b → w.heap.size ≤ b) ∧ w.heap.size ≤ T ∧ Below w.heap.size w wr
theorem StI.mono {w wr w' : World} {c g T room k : Nat} (h : StI w wr c g T room k) (hb : Below wr.heap.size wr w') : StI w w' c g T room k := by
  obtain ⟨S, A, f, h1, h2, h3, h4, h5, h6, h7, h8, h9⟩ := h
  exact ⟨S, A, f, h1.mono hb, h2, h3, h4.keeps (S := fun _ => False) (Keeps.of_below hb) id, h5, Nat.lt_of_lt_of_le h6 hb.size, h7, h8, h9.trans (hb.mono h9.size)⟩

theorem CD.disk {w : World} {c g : Nat} {S : Nat → Prop} {room n Q : Nat} {s : St} {A : List En} (h : CD w c g S room n Q s A) : ∃ gm p Fd, Dk w g gm p Fd n s := by
  obtain ⟨m, q, B, F, gm, p, Fd, h1, _⟩ := h
  exact ⟨gm, p, Fd, h1.dk⟩
theorem new_readS {j : Nat} (hj : j < 9) : readS (newS 9) 9 (j : Int) = (List.replicate 256 0, 0) := by
  rw [readS_on rfl hj, newS_read 9 j hj]
theorem cnt_succ (f : Nat → Bool) (j : Nat) : ((List.range (j + 1)).filter f).length = ((List.range j).filter f).length + (if f j = true then 1 else 0) := by
  rw [List.range_succ, List.filter_append, List.length_append]
  congr 1
  cases h : f j <;> simp [h]
theorem cnt_dirty {A : List En} {f : Nat → Bool} (hA : A.Pairwise fun x y => x.i ≠ y.i) (hn : ∀ x ∈ A, x.i < 9) (hf : ∀ j, j < 9 → f j = dirtyAt A j) : ((List.range 9).filter f).length = (dirtyL A).length := by
  rw [range_dirty hA hn, List.length_map]
  congr 1
  apply List.filter_congr
  intro j hj
  exact hf j (by simpa using hj)

theorem blk_ex (i : Int) : ∃ j : Nat, wrap64 ((IntKind.u64.wrap i).tmod 9) = (j : Int) ∧ j < 9 := by
  have h0 := wrap_u64_nonneg i
  rw [Int.tmod_eq_emod_of_nonneg h0]
  refine ⟨((IntKind.u64.wrap i) % 9).toNat, ?_, by omega⟩
  unfold wrap64
  omega

/-- What a call of the cache leaves between two operations. -/
theorem StI.turn {w wr wb w' : World} {c g T room k : Nat} {S S' : Nat → Prop} {A' : List En} {f : Nat → Bool} (kb : Below wr.heap.size wr wb) (hB : Below w.heap.size w wr) (hSl : ∀ b, S b → b < wr.heap.size) (hSw : ∀ b, S b → w.heap.size ≤ b) (hTS : ¬ S T) (hTl : T < wr.heap.size) (hwT : w.heap.size ≤ T)
    (hM : Marks wb T f) (hT : CT wb c g S room 9 (k + 1) (newS 9) A' w' S') (hlt : ∀ x ∈ A', x.i < 9) (hf : ∀ j, j < 9 → f j = dirtyAt A' j) : StI w w' c g T room (k + 1) ∧ ¬ S' T ∧ Marks w' T f := by
  obtain ⟨h1, h2, h3⟩ := hT
  have hz := kb.size
  have hzw := hB.size
  have hTS' : ¬ S' T := fun h => by rcases h3 T h with h | h; exact hTS h; omega
  have hM' := hM.keeps h2 hTS
  refine ⟨⟨S', A', f, h1, hlt, hf, hM', hTS', by have := h2.size; omega, fun b hb => ?_, hwT, ?_⟩, hTS', hM'⟩
  · rcases h3 b hb with h | h
    · exact hSw b h
    · omega
  · exact (hB.trans (kb.mono hzw)).trans (h2.below hSw (by omega))
theorem StI.marked {w w' : World} {c g T room k i : Nat} {S' : Nat → Prop} {A' : List En} {f : Nat → Bool} (hC : CD w' c g S' room 9 k (newS 9) A') (hTS : ¬ S' T) (hTl : T < w'.heap.size) (hSw : ∀ b, S' b → w.heap.size ≤ b) (hwT : w.heap.size ≤ T) (hB : Below w.heap.size w w')
    (hM : Marks w' T f) (hi : i < 9) (hlt : ∀ x ∈ A', x.i < 9) (hf : ∀ j, j < 9 → (f j || i == j) = dirtyAt A' j) : StI w (w'.setCell ⟨T, i, none⟩ (.bool true)) c g T room k := by
  have hk : Keeps (fun b => b = T) w' (w'.setCell ⟨T, i, none⟩ (.bool true)) := Keeps.setCell (S := fun b => b = T) w' rfl _
  exact ⟨S', A', fun j => f j || i == j, hC.keeps hk (fun b hb e => hTS (by have e' : b = T := e; exact e' ▸ hb)), hlt, hf, hM.set i hi, hTS, by have := hk.size; omega, hSw, hwT, hB.setCell (p := ⟨T, i, none⟩) hwT _⟩

set_option maxRecDepth 100000 in
set_option maxHeartbeats 2000000 in
theorem stays_walk (b0 : Nat) (hb0 : b0 < 256) (v : Value) (l : List OpX) (w : World) (hl : Ops w (fun k => k < w.heap.size) v l) (hll : l.length ≤ 140737488355328) :
    Calls Try.prog 5 #[.int .u8 (b0 : Int), v] w fun e w' => e = .returned (.bool true) ∧ Below w.heap.size w w' := by
  obtain ⟨ao, cap, rfl, hcap, hops⟩ := hl
  obtain ⟨q, hq⟩ : ∃ q, min l.length 100 = q := ⟨_, rfl⟩
  obtain ⟨room, hroom⟩ : ∃ room, 2 + b0 % 5 = room := ⟨_, rfl⟩
  have hrm : 2 ≤ room ∧ room ≤ 6 := by omega
  have hri : 2 + (b0 : Int) % 5 = (room : Int) := by omega
  obtain ⟨Z, hZ⟩ : ∃ Z, madeCells (Value.int .u8 0).cells (256 * 1) = Z := ⟨_, rfl⟩
  have hZl : Z.toList = cellsB (List.replicate 256 0) := by rw [← hZ]; exact made_zeros 256
  have hmk : ∀ W : World, (Instr.makeSlice 37 (.int .i64 256) (.int .i64 256)).run Try.prog W = .ok (.slice (some ⟨W.heap.size, 0, none⟩) 256 256) (W.alloc (.cells Z 5)) := fun W => by rw [← hZ]; kernel_rfl
  have hbz : ∀ W : World, Bs (W.alloc (.cells Z 5)) (.slice (some ⟨W.heap.size, 0, none⟩) 256 256) (List.replicate 256 0) := fun W => by
    have := Bs.lit W 5 (List.replicate 256 0) Z hZl (fun x hx => by rw [List.eq_of_mem_replicate hx]; omega)
    rwa [List.length_replicate] at this
  have Hbz := hide hbz
  clear hZ hZl hbz
  have Hops := hide hops
  have Hq := hide hq
  clear hops hq
  go_enter Try.func5, Try.ntmps5
  go_wp2_with fail
  refine (new_yes 9 w (by omega) (by omega)).mono ?_
  rintro e w1 ⟨g, m, rfl, hD1, hb1, hg1, hm1⟩
  have HD1 := hide hD1
  clear hD1
  go_wp2_with fail
  refine (live_any _).mono ?_
  rintro e w2 ⟨rfl, hb2⟩
  have hb02 : Below w.heap.size w w2 := hb1.trans (hb2.mono hb1.size)
  have hz2 : w.heap.size ≤ w2.heap.size := hb02.size
  have hcn := cnew_yes (room := room) (HD1.out.mono hb2) hrm.1 (by omega)
  have Hcn := hide hcn
  clear hcn
  go_wp2_with fail
  refine Hcn.out.mono ?_
  rintro e w3 ⟨c, S, rfl, hC, hb3, hS⟩
  have hb03 : Below w.heap.size w w3 := hb02.trans (hb3.mono hz2)
  have hz3 := hb03.size
  have hSl := hC.lt
  have hSw : ∀ k, S k → w.heap.size ≤ k := fun k hk => by
    rcases hS k hk with (e | e | e) | h
    · omega
    · omega
    · exact e.elim
    · omega
  have hI0 : StI w (w3.alloc (.cells #[.bool false, .bool false, .bool false, .bool false, .bool false, .bool false, .bool false, .bool false, .bool false] 56)) c g w3.heap.size room 0 := by
    refine ⟨S, [], fun _ => false, hC.mono ((Below.refl _ _).alloc (Nat.le_refl _) _), by simp, fun j _ => rfl, ?_, fun h => by have := hSl _ h; omega, by simp, hSw, hz3, hb03.alloc hz3 _⟩
    intro j hj
    match j, hj with
    | 0, _ => exact ⟨by simp, by simp⟩
    | 1, _ => exact ⟨by simp, by simp⟩
    | 2, _ => exact ⟨by simp, by simp⟩
    | 3, _ => exact ⟨by simp, by simp⟩
    | 4, _ => exact ⟨by simp, by simp⟩
    | 5, _ => exact ⟨by simp, by simp⟩
    | 6, _ => exact ⟨by simp, by simp⟩
    | 7, _ => exact ⟨by simp, by simp⟩
    | 8, _ => exact ⟨by simp, by simp⟩
  have HI0 := hide hI0
  obtain ⟨T, hT⟩ : ∃ T, w3.heap.size = T := ⟨_, rfl⟩
  have HT := hide hT
  clear hC hS hSl hSw hI0 HD1 Hcn hT
  have hq100 : q ≤ 100 := by have := Hq.out; omega
  have hqc : q ≤ cap := by have := Hq.out; omega
  go_wp2_with fail
  rw [show (min (l.length : Int) 100) = ((q : Nat) : Int) by have := Hq.out; omega, show (max ((q : Nat) : Int) 0) = ((q : Nat) : Int) by omega, Int.toNat_natCast]
  rw [HT.out] at HI0
  rw [HT.out]
  go_loopw [53] (fun iv wr => ∃ k : Nat, k ≤ q ∧ iv = .int .i64 (k : Int) ∧ Hid (StI w wr c g T room k)) (fun iv _ => q - (intOf iv).toNat)
  case atStart => exact ⟨0, by omega, rfl, HI0⟩
  case round =>
    clear HI0
    obtain ⟨k, hk, rfl, HP⟩ := hrel
    by_cases hkq : k < q
    · have hkl : k < l.length := by have := Hq.out; omega
      obtain ⟨S, A, f, hC, hlt, hf, hM, hTS, hTl, hSw, hwT, hB⟩ := HP.out
      obtain ⟨ob, oo, rfl, hoat⟩ := Hops.out (by omega)
      obtain ⟨vb, hx⟩ := hoat k hkl
      have hzB := hB.size
      have hx1 := hx.keeps (S := fun b => w.heap.size ≤ b) ⟨hB.os, hB.tape, hB.output, hB.size, fun b hb hn => hB.block b (by omega)⟩ (fun b hb h => by omega)
      generalize l[k] = x at *
      have x0 := hx1.c0
      have x1 := hx1.c1
      have x2 := hx1.c2
      have x3 := hx1.c3
      obtain ⟨pa, pc, rfl, -⟩ := id hx1.bs
      obtain ⟨bi, hbk, hbi9⟩ := blk_ex x.i
      have hbii : (bi : Int) < 9 := by omega
      obtain ⟨wb, hwb⟩ : ∃ wb, wr.alloc (.cells #[.int .i64 x.d, .int .i64 x.i, .int .i64 x.o, .slice pa x.b.length pc] 39) = wb := ⟨_, rfl⟩
      have kb : Below wr.heap.size wr wb := by rw [← hwb]; exact (Below.refl _ _).alloc (Nat.le_refl _) _
      have y0 : wb.cell? ⟨wr.heap.size, 0, none⟩ = some (.int .i64 x.d) := by rw [← hwb]; simp
      have y1 : wb.cell? ⟨wr.heap.size, 1, none⟩ = some (.int .i64 x.i) := by rw [← hwb]; simp
      have y2 : wb.cell? ⟨wr.heap.size, 2, none⟩ = some (.int .i64 x.o) := by rw [← hwb]; simp
      have y3 : wb.cell? ⟨wr.heap.size, 3, none⟩ = some (.slice pa x.b.length pc) := by rw [← hwb]; simp
      have hCb := hC.mono kb
      have hMb := hM.keeps (S := fun _ => False) (Keeps.of_below kb) id
      have hxb := hx1.keeps (Keeps.of_below (S := fun _ => False) kb) (fun _ _ => id)
      have hSl := hC.lt
      have hnd := hC.nodup
      have hSb : ¬ S wr.heap.size := fun h => by have := hSl _ h; omega
      have hbF := hx.bF
      have Hx := hide hxb
      have HCb := hide hCb
      have HMb := hide hMb
      have Hf := hide hf
      have Hlt := hide hlt
      have Hnd := hide hnd
      clear hx hx1 hxb hC hCb hM hMb hoat HP hf hlt hnd
      by_cases h1 : x.d = 1
      · rw [h1] at x0 y0 hwb
        clear h1
        have hcw := cwrite_any HCb.out (bi : Int) x.o _ x.b Hx.out.bs (fun hp b hb hs => by have := hSw b hs; have := hbF hp b hb; omega) Hx.out.pl (by omega) (by simp [newS, ofS]) (by omega)
        have hwl := writeC_lt (room := room) (n := 9) (s := newS 9) (A := A) (i := (bi : Int)) (off := x.o) (b := x.b) Hlt.out
        have hwd := fun j => writeC_dirty (room := room) (n := 9) (s := newS 9) (A := A) (off := x.o) (b := x.b) hbi9 Hnd.out j
        generalize writeC room 9 (newS 9) A (bi : Int) x.o x.b = R at *
        obtain ⟨A', er⟩ := R
        have Hcw := hide hcw
        have Hwl := hide hwl
        have Hwd := hide hwd
        clear hcw hwl hwd
        by_cases hem : er = 0 ∧ 0 < x.b.length
        · obtain ⟨rfl, hlen⟩ := hem
          have hlen' : (0 : Int) < (x.b.length : Int) := by omega
          go_wp2_with fail
          refine Hcw.out.mono ?_
          rintro e w4 ⟨rfl, S', hCT⟩
          have hz4 := hCT.2.1.size
          have hzb := kb.size
          have hTS' : ¬ S' T := fun h => by rcases hCT.2.2 T h with h | h; exact hTS h; omega
          have hM4 := HMb.out.keeps hCT.2.1 hTS
          have m4 := (hM4 bi hbi9).1
          have mf4 := (hM4 bi hbi9).2
          have y3' : w4.cell? ⟨wr.heap.size, 3, none⟩ = some (.slice pa x.b.length pc) := hCT.2.1.cell y3 hSb
          have HPt := hide (StI.marked (w := w) hCT.1 hTS' (by omega) (fun b hb => by rcases hCT.2.2 b hb with h | h; exact hSw b h; omega) hwT ((hB.trans (kb.mono hzB)).trans (hCT.2.1.below hSw (by omega))) hM4 hbi9 Hwl.out (fun j hj => by
            have := Hwd.out j
            try simp only at this
            have hne : x.b.isEmpty = false := by cases hh : x.b with | nil => rw [hh] at hlen; simp at hlen | cons a b => rfl
            rw [this, Hf.out j hj, hne]
            simp))
          clear hM4 hCT Hcw HCb HMb Hx
          obtain ⟨wt, hwt⟩ : ∃ wt, w4.setCell ⟨T, bi, none⟩ (.bool true) = wt := ⟨_, rfl⟩
          rw [hwt] at HPt
          go_wp2_with fail
          obtain ⟨S2, A2, f2, hC2, hlt2, hf2, hM2, hTS2, hTl2, hSw2, hwT2, hB2⟩ := HPt.out
          have HC2 := hide hC2
          have HM2 := hide hM2
          have Hlt2 := hide hlt2
          have Hf2 := hide hf2
          clear hC2 hM2 hTS2 hSw2 hlt2 hf2
          go_wp2_with fail
          go_loopw [13, 87] (fun kv jv wi => ∃ j : Nat, j ≤ 9 ∧ jv = .int .i64 (j : Int) ∧ kv = .int .i64 (((List.range j).filter f2).length : Int) ∧ Below wt.heap.size wt wi) (fun _ jv _ => 9 - (intOf jv).toNat)
          case atStart => exact ⟨0, by omega, rfl, rfl, Below.refl _ _⟩
          case round =>
            obtain ⟨j, hj, rfl, rfl, hbi⟩ := hrel
            have hCi := HC2.out.mono hbi
            by_cases hj9 : j < 9
            · obtain ⟨gm, pp, Fd, hDi⟩ := hCi.disk
              have hrd := read_yes hDi (j : Int) (by simp [newS, ofS])
              rw [new_readS hj9] at hrd
              simp only [List.length_replicate] at hrd
              have hmi := HM2.out.keeps (S := fun _ => False) (Keeps.of_below hbi) id
              have hcs := cnt_succ f2 j
              have hcl : ((List.range j).filter f2).length ≤ 9 := by have := List.length_filter_le f2 (List.range j); rw [List.length_range] at this; omega
              have hfj := Hf2.out j hj9
              obtain ⟨n0, hn0⟩ : ∃ n0, ((List.range j).filter f2).length = n0 := ⟨_, rfl⟩
              rw [hn0] at hcs hcl ⊢
              have Hcs := hide hcs
              have Hrd := hide hrd
              have HCi := hide hCi
              have Hmi := hide hmi
              clear hrd hCi hmi hDi hcs hn0
              go_wp2_with fail
              refine Hrd.out.mono ?_
              rintro e w5 ⟨v5, rfl, ho5, hb5⟩
              obtain ⟨r5, cap5, rfl⟩ := owns_256 ho5
              have hbZ : Below wr.heap.size wr (w5.alloc (.cells Z 5)) := hb5.alloc hb5.size _
              have heq := equal_any (.slice (some ⟨r5, 0, none⟩) 256 cap5) (.slice (some ⟨w5.heap.size, 0, none⟩) 256 256) (List.replicate 256 0) (List.replicate 256 0) (w5.alloc (.cells Z 5)) ((Bs.of_owns ho5 (fun x hx => by rw [List.eq_of_mem_replicate hx]; omega)).alloc _) (Hbz.out w5)
              rw [decide_eq_true rfl] at heq
              have hM5 := Hmi.out.keeps (S := fun _ => False) (Keeps.of_below hbZ) id
              have m5 := (hM5 j hj9).1
              have hC5 := HCi.out.mono hbZ
              have Heq := hide heq
              clear ho5 heq hM5
              have hj9i : (j : Int) < 9 := by omega
              cases hfv : f2 j with
              | false =>
                rw [hfv] at m5
                clear hC5 hfj
                go_wp2_with fail
                refine Heq.out.mono ?_
                rintro e w' ⟨rfl, rfl⟩
                go_wp2_with fail
                go_roundw
                case rel => exact ⟨j + 1, by omega, by go_num, by rw [Hcs.out, hfv]; rfl, hbi.trans (hbZ.mono hbi.size)⟩
                case measure => simp [intOf]; omega
              | true =>
                rw [hfv] at m5 hfj
                have hha := has_any hC5 (j : Int) (by omega)
                rw [has_any_nat, dirtyAt_has hfj.symm] at hha
                have Hha := hide hha
                clear hC5 hha hfj
                go_wp2_with fail
                refine Heq.out.mono ?_
                rintro e w' ⟨rfl, rfl⟩
                go_wp2_with fail
                refine Hha.out.mono ?_
                rintro e w' ⟨rfl, rfl⟩
                go_wp2_with fail
                go_roundw
                case rel => exact ⟨j + 1, by omega, by go_num, by rw [Hcs.out, hfv]; go_num, hbi.trans (hbZ.mono hbi.size)⟩
                case measure => simp [intOf]; omega
            · obtain rfl : j = 9 := by omega
              have hda := dirty_any hCi (by omega) 999 (by omega)
              have hcn := cnt_dirty HC2.out.nodup Hlt2.out Hf2.out
              have hcl : ((List.range 9).filter f2).length ≤ 9 := by have := List.length_filter_le f2 (List.range 9); rw [List.length_range] at this; omega
              rw [List.take_of_length_le (by omega)] at hda
              rw [← hcn] at hda
              generalize ((List.range 9).filter f2).length = n9 at *
              have Hda := hide hda
              have HB2 := hide hB2
              clear hda hcn hCi hB2
              go_wp2_with fail
              refine Hda.out.mono ?_
              rintro e w6 ⟨v6, rfl, ho6, hb6⟩
              obtain ⟨a6, c6, rfl⟩ := owns_slice ho6
              have HPn := hide (HPt.out.mono (hbi.trans (hb6.mono hbi.size)))
              clear ho6 HPt
              go_wp2_with fail
              go_roundw
              case rel => exact ⟨k + 1, by omega, by go_num, HPn⟩
              case measure => simp [intOf]; omega

        · have hf' : ∀ j, j < 9 → f j = dirtyAt A' j := fun j hj => by
            have := Hwd.out j
            try simp only at this
            rw [this, Hf.out j hj]
            by_cases he : er = 0
            · have hne : x.b.isEmpty = true := by cases hh : x.b with | nil => rfl | cons a b => exfalso; apply hem; rw [hh]; exact ⟨he, by simp⟩
              rw [hne]; simp
            · simp [he]
          have Hf' := hide hf'
          clear hf'
          by_cases he : er = 0
          · have hlen : ¬ 0 < x.b.length := fun h => hem ⟨he, h⟩
            subst he
            have hlen'' : decide ((0 : Int) < (x.b.length : Int)) = false := by simp; exact List.length_eq_zero_iff.1 (by omega)
            go_wp2_with fail
            refine Hcw.out.mono ?_
            rintro e w4 ⟨rfl, S', hCT⟩
            have y3' : w4.cell? ⟨wr.heap.size, 3, none⟩ = some (.slice pa x.b.length pc) := hCT.2.1.cell y3 hSb
            have HPt := hide (StI.turn kb hB hSl hSw hTS hTl hwT HMb.out hCT Hwl.out Hf'.out).1
            clear hCT Hcw HCb HMb Hx
            obtain ⟨S2, A2, f2, hC2, hlt2, hf2, hM2, hTS2, hTl2, hSw2, hwT2, hB2⟩ := HPt.out
            have HC2 := hide hC2
            have HM2 := hide hM2
            have Hlt2 := hide hlt2
            have Hf2 := hide hf2
            clear hC2 hM2 hTS2 hSw2 hlt2 hf2
            go_wp2_with fail
            go_loopw [13, 87] (fun kv jv wi => ∃ j : Nat, j ≤ 9 ∧ jv = .int .i64 (j : Int) ∧ kv = .int .i64 (((List.range j).filter f2).length : Int) ∧ Below w4.heap.size w4 wi) (fun _ jv _ => 9 - (intOf jv).toNat)
            case atStart => exact ⟨0, by omega, rfl, rfl, Below.refl _ _⟩
            case round =>
              obtain ⟨j, hj, rfl, rfl, hbi⟩ := hrel
              have hCi := HC2.out.mono hbi
              by_cases hj9 : j < 9
              · obtain ⟨gm, pp, Fd, hDi⟩ := hCi.disk
                have hrd := read_yes hDi (j : Int) (by simp [newS, ofS])
                rw [new_readS hj9] at hrd
                simp only [List.length_replicate] at hrd
                have hmi := HM2.out.keeps (S := fun _ => False) (Keeps.of_below hbi) id
                have hcs := cnt_succ f2 j
                have hcl : ((List.range j).filter f2).length ≤ 9 := by have := List.length_filter_le f2 (List.range j); rw [List.length_range] at this; omega
                have hfj := Hf2.out j hj9
                obtain ⟨n0, hn0⟩ : ∃ n0, ((List.range j).filter f2).length = n0 := ⟨_, rfl⟩
                rw [hn0] at hcs hcl ⊢
                have Hcs := hide hcs
                have Hrd := hide hrd
                have HCi := hide hCi
                have Hmi := hide hmi
                clear hrd hCi hmi hDi hcs hn0
                go_wp2_with fail
                refine Hrd.out.mono ?_
                rintro e w5 ⟨v5, rfl, ho5, hb5⟩
                obtain ⟨r5, cap5, rfl⟩ := owns_256 ho5
                have hbZ : Below wr.heap.size wr (w5.alloc (.cells Z 5)) := hb5.alloc hb5.size _
                have heq := equal_any (.slice (some ⟨r5, 0, none⟩) 256 cap5) (.slice (some ⟨w5.heap.size, 0, none⟩) 256 256) (List.replicate 256 0) (List.replicate 256 0) (w5.alloc (.cells Z 5)) ((Bs.of_owns ho5 (fun x hx => by rw [List.eq_of_mem_replicate hx]; omega)).alloc _) (Hbz.out w5)
                rw [decide_eq_true rfl] at heq
                have hM5 := Hmi.out.keeps (S := fun _ => False) (Keeps.of_below hbZ) id
                have m5 := (hM5 j hj9).1
                have hC5 := HCi.out.mono hbZ
                have Heq := hide heq
                clear ho5 heq hM5
                have hj9i : (j : Int) < 9 := by omega
                cases hfv : f2 j with
                | false =>
                  rw [hfv] at m5
                  clear hC5 hfj
                  go_wp2_with fail
                  refine Heq.out.mono ?_
                  rintro e w' ⟨rfl, rfl⟩
                  go_wp2_with fail
                  go_roundw
                  case rel => exact ⟨j + 1, by omega, by go_num, by rw [Hcs.out, hfv]; rfl, hbi.trans (hbZ.mono hbi.size)⟩
                  case measure => simp [intOf]; omega
                | true =>
                  rw [hfv] at m5 hfj
                  have hha := has_any hC5 (j : Int) (by omega)
                  rw [has_any_nat, dirtyAt_has hfj.symm] at hha
                  have Hha := hide hha
                  clear hC5 hha hfj
                  go_wp2_with fail
                  refine Heq.out.mono ?_
                  rintro e w' ⟨rfl, rfl⟩
                  go_wp2_with fail
                  refine Hha.out.mono ?_
                  rintro e w' ⟨rfl, rfl⟩
                  go_wp2_with fail
                  go_roundw
                  case rel => exact ⟨j + 1, by omega, by go_num, by rw [Hcs.out, hfv]; go_num, hbi.trans (hbZ.mono hbi.size)⟩
                  case measure => simp [intOf]; omega
              · obtain rfl : j = 9 := by omega
                have hda := dirty_any hCi (by omega) 999 (by omega)
                have hcn := cnt_dirty HC2.out.nodup Hlt2.out Hf2.out
                have hcl : ((List.range 9).filter f2).length ≤ 9 := by have := List.length_filter_le f2 (List.range 9); rw [List.length_range] at this; omega
                rw [List.take_of_length_le (by omega)] at hda
                rw [← hcn] at hda
                generalize ((List.range 9).filter f2).length = n9 at *
                have Hda := hide hda
                have HB2 := hide hB2
                clear hda hcn hCi hB2
                go_wp2_with fail
                refine Hda.out.mono ?_
                rintro e w6 ⟨v6, rfl, ho6, hb6⟩
                obtain ⟨a6, c6, rfl⟩ := owns_slice ho6
                have HPn := hide (HPt.out.mono (hbi.trans (hb6.mono hbi.size)))
                clear ho6 HPt
                go_wp2_with fail
                go_roundw
                case rel => exact ⟨k + 1, by omega, by go_num, HPn⟩
                case measure => simp [intOf]; omega

          · have heb : (er == 0) = false := by simp [he]
            go_wp2_with fail
            refine Hcw.out.mono ?_
            rintro e w4 ⟨rfl, S', hCT⟩
            have HPt := hide (StI.turn kb hB hSl hSw hTS hTl hwT HMb.out hCT Hwl.out Hf'.out).1
            clear hCT Hcw HCb HMb Hx
            obtain ⟨S2, A2, f2, hC2, hlt2, hf2, hM2, hTS2, hTl2, hSw2, hwT2, hB2⟩ := HPt.out
            have HC2 := hide hC2
            have HM2 := hide hM2
            have Hlt2 := hide hlt2
            have Hf2 := hide hf2
            clear hC2 hM2 hTS2 hSw2 hlt2 hf2
            go_wp2_with fail
            go_loopw [13, 87] (fun kv jv wi => ∃ j : Nat, j ≤ 9 ∧ jv = .int .i64 (j : Int) ∧ kv = .int .i64 (((List.range j).filter f2).length : Int) ∧ Below w4.heap.size w4 wi) (fun _ jv _ => 9 - (intOf jv).toNat)
            case atStart => exact ⟨0, by omega, rfl, rfl, Below.refl _ _⟩
            case round =>
              obtain ⟨j, hj, rfl, rfl, hbi⟩ := hrel
              have hCi := HC2.out.mono hbi
              by_cases hj9 : j < 9
              · obtain ⟨gm, pp, Fd, hDi⟩ := hCi.disk
                have hrd := read_yes hDi (j : Int) (by simp [newS, ofS])
                rw [new_readS hj9] at hrd
                simp only [List.length_replicate] at hrd
                have hmi := HM2.out.keeps (S := fun _ => False) (Keeps.of_below hbi) id
                have hcs := cnt_succ f2 j
                have hcl : ((List.range j).filter f2).length ≤ 9 := by have := List.length_filter_le f2 (List.range j); rw [List.length_range] at this; omega
                have hfj := Hf2.out j hj9
                obtain ⟨n0, hn0⟩ : ∃ n0, ((List.range j).filter f2).length = n0 := ⟨_, rfl⟩
                rw [hn0] at hcs hcl ⊢
                have Hcs := hide hcs
                have Hrd := hide hrd
                have HCi := hide hCi
                have Hmi := hide hmi
                clear hrd hCi hmi hDi hcs hn0
                go_wp2_with fail
                refine Hrd.out.mono ?_
                rintro e w5 ⟨v5, rfl, ho5, hb5⟩
                obtain ⟨r5, cap5, rfl⟩ := owns_256 ho5
                have hbZ : Below wr.heap.size wr (w5.alloc (.cells Z 5)) := hb5.alloc hb5.size _
                have heq := equal_any (.slice (some ⟨r5, 0, none⟩) 256 cap5) (.slice (some ⟨w5.heap.size, 0, none⟩) 256 256) (List.replicate 256 0) (List.replicate 256 0) (w5.alloc (.cells Z 5)) ((Bs.of_owns ho5 (fun x hx => by rw [List.eq_of_mem_replicate hx]; omega)).alloc _) (Hbz.out w5)
                rw [decide_eq_true rfl] at heq
                have hM5 := Hmi.out.keeps (S := fun _ => False) (Keeps.of_below hbZ) id
                have m5 := (hM5 j hj9).1
                have hC5 := HCi.out.mono hbZ
                have Heq := hide heq
                clear ho5 heq hM5
                have hj9i : (j : Int) < 9 := by omega
                cases hfv : f2 j with
                | false =>
                  rw [hfv] at m5
                  clear hC5 hfj
                  go_wp2_with fail
                  refine Heq.out.mono ?_
                  rintro e w' ⟨rfl, rfl⟩
                  go_wp2_with fail
                  go_roundw
                  case rel => exact ⟨j + 1, by omega, by go_num, by rw [Hcs.out, hfv]; rfl, hbi.trans (hbZ.mono hbi.size)⟩
                  case measure => simp [intOf]; omega
                | true =>
                  rw [hfv] at m5 hfj
                  have hha := has_any hC5 (j : Int) (by omega)
                  rw [has_any_nat, dirtyAt_has hfj.symm] at hha
                  have Hha := hide hha
                  clear hC5 hha hfj
                  go_wp2_with fail
                  refine Heq.out.mono ?_
                  rintro e w' ⟨rfl, rfl⟩
                  go_wp2_with fail
                  refine Hha.out.mono ?_
                  rintro e w' ⟨rfl, rfl⟩
                  go_wp2_with fail
                  go_roundw
                  case rel => exact ⟨j + 1, by omega, by go_num, by rw [Hcs.out, hfv]; go_num, hbi.trans (hbZ.mono hbi.size)⟩
                  case measure => simp [intOf]; omega
              · obtain rfl : j = 9 := by omega
                have hda := dirty_any hCi (by omega) 999 (by omega)
                have hcn := cnt_dirty HC2.out.nodup Hlt2.out Hf2.out
                have hcl : ((List.range 9).filter f2).length ≤ 9 := by have := List.length_filter_le f2 (List.range 9); rw [List.length_range] at this; omega
                rw [List.take_of_length_le (by omega)] at hda
                rw [← hcn] at hda
                generalize ((List.range 9).filter f2).length = n9 at *
                have Hda := hide hda
                have HB2 := hide hB2
                clear hda hcn hCi hB2
                go_wp2_with fail
                refine Hda.out.mono ?_
                rintro e w6 ⟨v6, rfl, ho6, hb6⟩
                obtain ⟨a6, c6, rfl⟩ := owns_slice ho6
                have HPn := hide (HPt.out.mono (hbi.trans (hb6.mono hbi.size)))
                clear ho6 HPt
                go_wp2_with fail
                go_roundw
                case rel => exact ⟨k + 1, by omega, by go_num, HPn⟩
                case measure => simp [intOf]; omega

      · by_cases h2 : x.d = 2
        · rw [h2] at x0 y0 hwb
          clear h1 h2
          have HPn := hide (StI.turn kb hB hSl hSw hTS hTl hwT HMb.out (CT.refl (HCb.out.more (Nat.le_succ _))) Hlt.out Hf.out).1
          clear HCb HMb Hx
          go_wp2_with fail
          go_roundw
          case rel => exact ⟨k + 1, by omega, by go_num, HPn⟩
          case measure => simp [intOf]; omega
        · have hcr := cread_any HCb.out (bi : Int) (by omega) (by simp [newS, ofS]) (by omega)
          have hrl := readC_lt (room := room) (n := 9) (s := newS 9) (A := A) (i := (bi : Int)) Hlt.out
          have hrd := fun j => readC_dirty (room := room) (n := 9) (s := newS 9) (A := A) (i := (bi : Int)) Hnd.out j
          generalize readC room 9 (newS 9) A (bi : Int) = R at *
          obtain ⟨A', la, er⟩ := R
          have hdb1 : (x.d == 1) = false := by simp [h1]
          have hdb2 : (x.d == 2) = false := by simp [h2]
          have Hcr := hide hcr
          have Hrl := hide hrl
          have Hrd0 := hide hrd
          clear hcr hrl hrd h1 h2
          go_wp2_with fail
          refine Hcr.out.mono ?_
          rintro e w4 ⟨v4, S', rfl, ho4, hCT, hv4⟩
          have HPt := hide (StI.turn kb hB hSl hSw hTS hTl hwT HMb.out hCT Hrl.out (fun j hj => (Hf.out j hj).trans (Hrd0.out j).symm)).1
          clear hCT Hcr HCb HMb Hx ho4 hv4
          obtain ⟨S2, A2, f2, hC2, hlt2, hf2, hM2, hTS2, hTl2, hSw2, hwT2, hB2⟩ := HPt.out
          have HC2 := hide hC2
          have HM2 := hide hM2
          have Hlt2 := hide hlt2
          have Hf2 := hide hf2
          clear hC2 hM2 hTS2 hSw2 hlt2 hf2
          go_wp2_with fail
          go_loopw [13, 87] (fun kv jv wi => ∃ j : Nat, j ≤ 9 ∧ jv = .int .i64 (j : Int) ∧ kv = .int .i64 (((List.range j).filter f2).length : Int) ∧ Below w4.heap.size w4 wi) (fun _ jv _ => 9 - (intOf jv).toNat)
          case atStart => exact ⟨0, by omega, rfl, rfl, Below.refl _ _⟩
          case round =>
            obtain ⟨j, hj, rfl, rfl, hbi⟩ := hrel
            have hCi := HC2.out.mono hbi
            by_cases hj9 : j < 9
            · obtain ⟨gm, pp, Fd, hDi⟩ := hCi.disk
              have hrd := read_yes hDi (j : Int) (by simp [newS, ofS])
              rw [new_readS hj9] at hrd
              simp only [List.length_replicate] at hrd
              have hmi := HM2.out.keeps (S := fun _ => False) (Keeps.of_below hbi) id
              have hcs := cnt_succ f2 j
              have hcl : ((List.range j).filter f2).length ≤ 9 := by have := List.length_filter_le f2 (List.range j); rw [List.length_range] at this; omega
              have hfj := Hf2.out j hj9
              obtain ⟨n0, hn0⟩ : ∃ n0, ((List.range j).filter f2).length = n0 := ⟨_, rfl⟩
              rw [hn0] at hcs hcl ⊢
              have Hcs := hide hcs
              have Hrd := hide hrd
              have HCi := hide hCi
              have Hmi := hide hmi
              clear hrd hCi hmi hDi hcs hn0
              go_wp2_with fail
              refine Hrd.out.mono ?_
              rintro e w5 ⟨v5, rfl, ho5, hb5⟩
              obtain ⟨r5, cap5, rfl⟩ := owns_256 ho5
              have hbZ : Below wr.heap.size wr (w5.alloc (.cells Z 5)) := hb5.alloc hb5.size _
              have heq := equal_any (.slice (some ⟨r5, 0, none⟩) 256 cap5) (.slice (some ⟨w5.heap.size, 0, none⟩) 256 256) (List.replicate 256 0) (List.replicate 256 0) (w5.alloc (.cells Z 5)) ((Bs.of_owns ho5 (fun x hx => by rw [List.eq_of_mem_replicate hx]; omega)).alloc _) (Hbz.out w5)
              rw [decide_eq_true rfl] at heq
              have hM5 := Hmi.out.keeps (S := fun _ => False) (Keeps.of_below hbZ) id
              have m5 := (hM5 j hj9).1
              have hC5 := HCi.out.mono hbZ
              have Heq := hide heq
              clear ho5 heq hM5
              have hj9i : (j : Int) < 9 := by omega
              cases hfv : f2 j with
              | false =>
                rw [hfv] at m5
                clear hC5 hfj
                go_wp2_with fail
                refine Heq.out.mono ?_
                rintro e w' ⟨rfl, rfl⟩
                go_wp2_with fail
                go_roundw
                case rel => exact ⟨j + 1, by omega, by go_num, by rw [Hcs.out, hfv]; rfl, hbi.trans (hbZ.mono hbi.size)⟩
                case measure => simp [intOf]; omega
              | true =>
                rw [hfv] at m5 hfj
                have hha := has_any hC5 (j : Int) (by omega)
                rw [has_any_nat, dirtyAt_has hfj.symm] at hha
                have Hha := hide hha
                clear hC5 hha hfj
                go_wp2_with fail
                refine Heq.out.mono ?_
                rintro e w' ⟨rfl, rfl⟩
                go_wp2_with fail
                refine Hha.out.mono ?_
                rintro e w' ⟨rfl, rfl⟩
                go_wp2_with fail
                go_roundw
                case rel => exact ⟨j + 1, by omega, by go_num, by rw [Hcs.out, hfv]; go_num, hbi.trans (hbZ.mono hbi.size)⟩
                case measure => simp [intOf]; omega
            · obtain rfl : j = 9 := by omega
              have hda := dirty_any hCi (by omega) 999 (by omega)
              have hcn := cnt_dirty HC2.out.nodup Hlt2.out Hf2.out
              have hcl : ((List.range 9).filter f2).length ≤ 9 := by have := List.length_filter_le f2 (List.range 9); rw [List.length_range] at this; omega
              rw [List.take_of_length_le (by omega)] at hda
              rw [← hcn] at hda
              generalize ((List.range 9).filter f2).length = n9 at *
              have Hda := hide hda
              have HB2 := hide hB2
              clear hda hcn hCi hB2
              go_wp2_with fail
              refine Hda.out.mono ?_
              rintro e w6 ⟨v6, rfl, ho6, hb6⟩
              obtain ⟨a6, c6, rfl⟩ := owns_slice ho6
              have HPn := hide (HPt.out.mono (hbi.trans (hb6.mono hbi.size)))
              clear ho6 HPt
              go_wp2_with fail
              go_roundw
              case rel => exact ⟨k + 1, by omega, by go_num, HPn⟩
              case measure => simp [intOf]; omega

    · obtain rfl : k = q := by omega
      obtain ⟨S, A, f, hC, hlt, hf, hM, hTS, hTl, hSw, hwT, hB⟩ := HP.out
      clear HP hC hM hf hlt hTS hSw
      go_wp2_with fail
      go_ret
      exact ⟨by simp, hB⟩

set_option maxRecDepth 100000 in
theorem cacheStays_lifted (os : Os) (started : os.Started) (H : Type) (enc : TypeId × Value → H) :
    ReturnsInHanded {} Try.checked os 5 .any (Rows.cacheStaysSpec.pre6 enc Try.prog Try.f5 Rows.cacheStaysRow.domain false) (Rows.cacheStaysSpec.post enc Try.prog Try.f5 false true false false) := by
  refine law_frame (C := Try.checked) rfl Try.own started (by kernel_rfl) Try.func5
    (ChangeSpec.witness6 (enc := enc) (C := Try.checked) false ⟨#[], #[.int .u8 0, .slice none 0 0], []⟩ 8 (by kernel_rfl) (by kernel_rfl) (by kernel_rfl) (by kernel_rfl))
    Try.laidOut ?_ 4 rfl Try.underlying4 ?_ ?_
  · rw [Try.params5]
    intro t ht
    simp at ht
    rcases ht with rfl | rfl <;> exact ⟨by kernel_rfl, of_decide_eq_true (by kernel_rfl)⟩
  · intro ds hn
    rw [Try.params5] at hn
    match ds, hn with
    | [d1, d2], _ => rfl
  · intro W base args ds p hval0 hA hsz
    have hval : ∀ (j : Nat) t v, Try.f5.params[j]? = some t → args[j]? = some v → Value.okWide Try.prog W .any base t v := hval0
    rw [Try.params5] at hA hsz hval
    obtain ⟨v0, vs0, d0, ds0, p0, q0, hargs, rfl, rfl, h0, r0⟩ := trodAll_cons hA
    obtain ⟨v1, vs1, d1, ds1, p1, q1, rfl, rfl, rfl, h1, r1⟩ := trodAll_cons r0
    obtain ⟨rfl, rfl, rfl⟩ := trodAll_nil r1
    obtain rfl : args = #[v0, v1] := by cases args; simp_all
    obtain ⟨a0, rfl, rfl, rfl, w0⟩ := open_int Try.underlying5 (hval 0 5 v0 rfl rfl) h0
    have hb0 := bounds_u8 w0
    obtain ⟨n0, rfl⟩ := Int.eq_ofNat_of_zero_le hb0.1
    obtain ⟨l1, hop1, hol1⟩ := Ops.came (hval 1 22 v1 rfl rfl) h1 hsz (j := 1) rfl rfl
    exact stays_walk n0 (by omega) v1 l1 W hop1 hol1

theorem cacheStays_holds : Rows.CacheStaysSaid :=
  OpenClaim.holds_of_wide 5 Try.f5 rfl rfl rfl rfl rfl rfl rfl ⟨rfl, rfl, rfl, rfl, rfl⟩ rfl rfl rfl rfl rfl (by kernel_rfl) Try.func5 (by kernel_rfl)
    (of_decide_eq_true (by kernel_rfl)) (by unfold Func.isWrapper; first | (rw [if_pos (by decide +kernel)]; kernel_rfl) | (rw [if_neg (by decide +kernel)]; exact ⟨rfl, rfl⟩))
    (fun os started H enc _ => cacheStays_lifted os started H enc)
#print axioms cacheStays_holds

end Go.Proofs.Ytjcmmigbkhiplaa
