/- Contracts: the three small functions that join puts bytes together with, and join. -/
import Derived.Test.YtkdajahcadjpfaaC6
import Derived.Deep.RegionHeld3
set_option linter.unusedSimpArgs false
set_option linter.unusedVariables false
namespace Go.Proofs.Ytkdajahcadjpfaa
open Go.RowKit Go.Attic

set_option maxHeartbeats 400000 in
theorem and1_any (x y : Nat) (w : World) (hx : x < 256) (hy : y < 256) : Calls Try.prog 50 #[.int .u8 x, .int .u8 y] w fun e w' => e = .returned (.int .u8 ((x &&& y : Nat) : Int)) ∧ w = w' := by
  go_enter Try.func50, Try.ntmps50
  go_wp2
  go_ret
  exact ⟨ret_int (u8_and_nat x y hx hy), rfl⟩
set_option maxHeartbeats 400000 in
theorem or1_any (x y : Nat) (w : World) (hx : x < 256) (hy : y < 256) : Calls Try.prog 52 #[.int .u8 x, .int .u8 y] w fun e w' => e = .returned (.int .u8 ((x ||| y : Nat) : Int)) ∧ w = w' := by
  go_enter Try.func52, Try.ntmps52
  go_wp2
  go_ret
  exact ⟨ret_int (u8_or_nat x y hx hy), rfl⟩
set_option maxHeartbeats 400000 in
theorem sub1_any (x y : Nat) (w : World) (hx : x < 256) (hy : y < 256) : Calls Try.prog 53 #[.int .u8 x, .int .u8 y] w fun e w' => e = .returned (.int .u8 ((x &&& (255 - y) : Nat) : Int)) ∧ w = w' := by
  go_enter Try.func53, Try.ntmps53
  go_wp2
  go_ret
  exact ⟨ret_int (u8_andNot_nat x y hx hy), rfl⟩

/-- The first k bytes put together, ahead of noughts. -/
def joinN (f : Nat → Nat → Nat) (a b : List Nat) (k : Nat) : List Nat := (List.range k).map fun i => f (a.getD i 0) (b.getD i 0)
def midJ (f : Nat → Nat → Nat) (a b : List Nat) (n k : Nat) : List Nat := joinN f a b k ++ List.replicate (n - k) 0
theorem joinN_length (f : Nat → Nat → Nat) (a b : List Nat) (k : Nat) : (joinN f a b k).length = k := by simp [joinN]
theorem midJ_length (f : Nat → Nat → Nat) (a b : List Nat) {n k : Nat} (h : k ≤ n) : (midJ f a b n k).length = n := by simp [midJ, joinN_length]; omega
theorem midJ_zero (f : Nat → Nat → Nat) (a b : List Nat) (n : Nat) : midJ f a b n 0 = zeros n := by simp [midJ, joinN, zeros]
theorem midJ_end (f : Nat → Nat → Nat) (a b : List Nat) (n : Nat) : midJ f a b n n = joinN f a b n := by simp [midJ]
theorem midJ_set (f : Nat → Nat → Nat) (a b : List Nat) {n k : Nat} (hk : k < n) : (midJ f a b n k).set k (f (a.getD k 0) (b.getD k 0)) = midJ f a b n (k + 1) := by
  unfold midJ
  rw [show n - k = (n - (k + 1)) + 1 by omega, List.replicate_succ, List.set_append_right _ _ (by rw [joinN_length]; omega), joinN_length, Nat.sub_self]
  simp only [List.set_cons_zero]
  rw [show joinN f a b (k + 1) = joinN f a b k ++ [f (a.getD k 0) (b.getD k 0)] by simp [joinN, List.range_succ]]
  simp

/-- One byte of a row stored anew. -/
theorem owns_byte {w : World} {base : Nat} {n cap g : Nat} {l : List Nat} (h : w.ownsRow base 5 1 (.slice (some ⟨g, 0, none⟩) n cap) n (cellsB l)) (k x : Nat) :
    (w.setCell ⟨g, k, none⟩ (.int .u8 (x : Int))).ownsRow base 5 1 (.slice (some ⟨g, 0, none⟩) n cap) n (cellsB (l.set k x)) := by
  have := (h.stored k (.int .u8 (x : Int))).1
  rw [show cellsB (l.set k x) = (cellsB l).set k (.int .u8 (x : Int)) by simp only [cellsB, List.map_set]]
  exact this

def joinE (a b : List Nat) : Int := if a.length = b.length then 0 else 20
def joinL (f : Nat → Nat → Nat) (a b : List Nat) : List Nat := if a.length = b.length then joinN f a b a.length else []

set_option maxRecDepth 100000 in
set_option maxHeartbeats 400000 in
theorem join_and (va vb : Value) (a b : List Nat) (w : World) (ha : Bs w va a) (hb : Bs w vb b) (la : a.length ≤ 140737488355328) (lb : b.length ≤ 140737488355328) :
    Calls Try.prog 49 #[va, vb, .func (.func 50) #[] #[]] w (NewBsE w (joinL (fun x y => x &&& y) a b) (joinE a b)) := by
  obtain ⟨f, hfe⟩ : ∃ f : Nat → Nat → Nat, (fun x y => x &&& y) = f := ⟨_, rfl⟩
  have hf : ∀ x y w, x < 256 → y < 256 → Calls Try.prog 50 #[.int .u8 (x : Nat), .int .u8 (y : Nat)] w fun e w' => e = .returned (.int .u8 ((f x y : Nat) : Int)) ∧ w = w' := by
    intro x y w hx hy
    rw [← hfe]
    exact and1_any x y w hx hy
  rw [hfe]
  clear hfe
  obtain ⟨i0, hi, hz0, hz1, hz2⟩ := info_parts Try.info5
  have xa := ha.lt
  have xb := hb.lt
  obtain ⟨aoa, capa, rfl, hla, _, _, hca⟩ := ha
  obtain ⟨aob, capb, rfl, hlb, _, _, hcb⟩ := hb
  have Hca := hide hca
  have Hcb := hide hcb
  clear hca hcb
  by_cases he : a.length = b.length
  · simp only [joinL, joinE, he, if_true]
    obtain ⟨n, hn⟩ : ∃ n, b.length = n := ⟨_, rfl⟩
    rw [hn] at he lb hlb Hcb ⊢
    rw [he] at la hla Hca
    have Hn := hide hn
    have He := hide he
    clear hn he
    have hne : ((n : Int) != (n : Int)) = false := by simp
    go_enter Try.func49, Try.ntmps49
    go_wp2_with (at_make; refine wpList_make_full _ rfl (.tmp 16) (.tmp 16) 22 rfl w.heap.size 5 i0 (.int .u8 0) 1 Try.underlying22 hi hz0 hz1 .i64 .i64 n n n rfl rfl rfl rfl (by rw [hz2]; omega) (by unfold maxLen; omega) (Nat.le_refl _) ?_; intro w1 hown hgrow)
    have hb0 : Below w.heap.size w w1 := (Below.refl _ _).grown hgrow (Nat.le_refl _) (by intro k hk; cases hk)
    rw [made_zeros, ← midJ_zero f a b] at hown
    go_loopw [20] (fun i wr => ∃ k : Nat, k ≤ n ∧ i = .int .i64 k ∧ wr.ownsRow w.heap.size 5 1 (.slice (some ⟨w.heap.size, 0, none⟩) n n) n (cellsB (midJ f a b n k)) ∧ Below w.heap.size w wr) (fun i _ => n - (intOf i).toNat)
    case atStart => exact ⟨0, Nat.zero_le _, rfl, hown, hb0⟩
    case round =>
      obtain ⟨k, hk, rfl, hown1, hb1⟩ := hrel
      clear hown hb0 hgrow
      by_cases hkn : k < n
      · obtain ⟨ba, offa, rfl, hcella⟩ := Hca.out (by omega)
        obtain ⟨bb, offb, rfl, hcellb⟩ := Hcb.out (by omega)
        have hwa := hcella k (by omega)
        have hwb := hcellb k (by omega)
        have la1 : ba < w.heap.size := by have := World.block_lt_of_cell? w _ hwa; simpa using this
        have lb1 : bb < w.heap.size := by have := World.block_lt_of_cell? w _ hwb; simpa using this
        have hwa1 : wr.cell? ⟨ba, offa + k, none⟩ = some (.int .u8 ((a.getD k 0 : Nat) : Int)) := by
          rw [hb1.cell (p := ⟨ba, offa + k, none⟩) (by have := World.block_lt_of_cell? w _ hwa; simpa using this)]; exact hwa
        have hwb1 : wr.cell? ⟨bb, offb + k, none⟩ = some (.int .u8 ((b.getD k 0 : Nat) : Int)) := by
          rw [hb1.cell (p := ⟨bb, offb + k, none⟩) (by have := World.block_lt_of_cell? w _ hwb; simpa using this)]; exact hwb
        have hc := owns_cell hown1 (midJ_length f a b hk).symm k (by rw [midJ_length f a b hk]; exact hkn)
        have hfz := hown1.frozenAt k
        have hst := owns_byte hown1 k (f (a.getD k 0) (b.getD k 0))
        rw [midJ_set f a b hkn] at hst
        have hb2 := hb1.setCell (p := ⟨w.heap.size, k, none⟩) (Nat.le_refl _) (.int .u8 ((f (a.getD k 0) (b.getD k 0) : Nat) : Int))
        have hfc := fun w => hf _ _ w (getD_lt xa k) (getD_lt xb k)
        generalize a.getD k 0 = x at *
        generalize b.getD k 0 = y at *
        have Hst := hide hst
        have Hb2 := hide hb2
        clear hwa hwb hcella hcellb hst hb2
        have S0 : wr.drew.cell? ⟨ba, offa + k, none⟩ = some (.int .u8 (x : Int)) ∧ wr.drew.cell? ⟨bb, offb + k, none⟩ = some (.int .u8 (y : Int)) := ⟨hwa1, hwb1⟩
        have S1 : ∀ v, (wr.setCell ⟨w.heap.size, k, none⟩ v).drew.cell? ⟨ba, offa + k, none⟩ = some (.int .u8 (x : Int)) ∧ (wr.setCell ⟨w.heap.size, k, none⟩ v).drew.cell? ⟨bb, offb + k, none⟩ = some (.int .u8 (y : Int)) := by
          intro v
          have hbel := (Below.refl w.heap.size wr).setCell (p := ⟨w.heap.size, k, none⟩) (Nat.le_refl _) v
          refine ⟨?_, ?_⟩
          · exact (hbel.cell (p := ⟨ba, offa + k, none⟩) la1).trans hwa1
          · exact (hbel.cell (p := ⟨bb, offb + k, none⟩) lb1).trans hwb1
        clear Hca Hcb hf
        go_wp2_with fail
        go_region_held3 (fun w' => w'.cell? ⟨ba, offa + k, none⟩ = some (.int .u8 (x : Int)) ∧ w'.cell? ⟨bb, offb + k, none⟩ = some (.int .u8 (y : Int)))
          (first | exact S0 | exact S1 _ | assumption)
          (first
            | (go_at_call 50; refine (hfc _).mono ?_; rintro e wE ⟨rfl, rfl⟩))
        go_wp2_with fail
        exact ⟨⟨k + 1, by omega, by go_num, World.ownsRow.drew Hst.out, Hb2.out.drew⟩, by simp [intOf]; omega⟩
      · obtain rfl : k = n := by omega
        rw [midJ_end] at hown1
        clear Hca Hcb hf
        go_wp2_with fail
        go_ret2
        exact ⟨_, rfl, by rw [joinN_length]; exact hown1, hb1⟩
  · simp only [joinL, joinE, he, if_false]
    have hne : ((a.length : Int) != (b.length : Int)) = true := by simp; omega
    clear he
    go_enter Try.func49, Try.ntmps49
    go_wp2_with fail
    go_ret2
    exact ⟨_, rfl, World.ownsRow_nil _ _ _ _, Below.refl _ _⟩

set_option maxRecDepth 100000 in
set_option maxHeartbeats 400000 in
theorem and_any (va vb : Value) (a b : List Nat) (w : World) (ha : Bs w va a) (hb : Bs w vb b) (la : a.length ≤ 140737488355328) (lb : b.length ≤ 140737488355328) :
    Calls Try.prog 32 #[va, vb] w (NewBsE w (joinL (fun x y => x &&& y) a b) (joinE a b)) := by
  have HJ := hide (join_and va vb a b w ha hb la lb)
  clear ha hb
  go_enter Try.func32, Try.ntmps32
  go_wp2_with fail
  refine HJ.out.mono ?_
  rintro e w1 ⟨v1, rfl, hown, hb⟩
  go_wp2_with fail
  go_ret2
  exact ⟨_, rfl, hown, hb⟩


set_option maxRecDepth 100000 in
set_option maxHeartbeats 400000 in
theorem join_or (va vb : Value) (a b : List Nat) (w : World) (ha : Bs w va a) (hb : Bs w vb b) (la : a.length ≤ 140737488355328) (lb : b.length ≤ 140737488355328) :
    Calls Try.prog 49 #[va, vb, .func (.func 52) #[] #[]] w (NewBsE w (joinL (fun x y => x ||| y) a b) (joinE a b)) := by
  obtain ⟨f, hfe⟩ : ∃ f : Nat → Nat → Nat, (fun x y => x ||| y) = f := ⟨_, rfl⟩
  have hf : ∀ x y w, x < 256 → y < 256 → Calls Try.prog 52 #[.int .u8 (x : Nat), .int .u8 (y : Nat)] w fun e w' => e = .returned (.int .u8 ((f x y : Nat) : Int)) ∧ w = w' := by
    intro x y w hx hy
    rw [← hfe]
    exact or1_any x y w hx hy
  rw [hfe]
  clear hfe
  obtain ⟨i0, hi, hz0, hz1, hz2⟩ := info_parts Try.info5
  have xa := ha.lt
  have xb := hb.lt
  obtain ⟨aoa, capa, rfl, hla, _, _, hca⟩ := ha
  obtain ⟨aob, capb, rfl, hlb, _, _, hcb⟩ := hb
  have Hca := hide hca
  have Hcb := hide hcb
  clear hca hcb
  by_cases he : a.length = b.length
  · simp only [joinL, joinE, he, if_true]
    obtain ⟨n, hn⟩ : ∃ n, b.length = n := ⟨_, rfl⟩
    rw [hn] at he lb hlb Hcb ⊢
    rw [he] at la hla Hca
    have Hn := hide hn
    have He := hide he
    clear hn he
    have hne : ((n : Int) != (n : Int)) = false := by simp
    go_enter Try.func49, Try.ntmps49
    go_wp2_with (at_make; refine wpList_make_full _ rfl (.tmp 16) (.tmp 16) 22 rfl w.heap.size 5 i0 (.int .u8 0) 1 Try.underlying22 hi hz0 hz1 .i64 .i64 n n n rfl rfl rfl rfl (by rw [hz2]; omega) (by unfold maxLen; omega) (Nat.le_refl _) ?_; intro w1 hown hgrow)
    have hb0 : Below w.heap.size w w1 := (Below.refl _ _).grown hgrow (Nat.le_refl _) (by intro k hk; cases hk)
    rw [made_zeros, ← midJ_zero f a b] at hown
    go_loopw [20] (fun i wr => ∃ k : Nat, k ≤ n ∧ i = .int .i64 k ∧ wr.ownsRow w.heap.size 5 1 (.slice (some ⟨w.heap.size, 0, none⟩) n n) n (cellsB (midJ f a b n k)) ∧ Below w.heap.size w wr) (fun i _ => n - (intOf i).toNat)
    case atStart => exact ⟨0, Nat.zero_le _, rfl, hown, hb0⟩
    case round =>
      obtain ⟨k, hk, rfl, hown1, hb1⟩ := hrel
      clear hown hb0 hgrow
      by_cases hkn : k < n
      · obtain ⟨ba, offa, rfl, hcella⟩ := Hca.out (by omega)
        obtain ⟨bb, offb, rfl, hcellb⟩ := Hcb.out (by omega)
        have hwa := hcella k (by omega)
        have hwb := hcellb k (by omega)
        have la1 : ba < w.heap.size := by have := World.block_lt_of_cell? w _ hwa; simpa using this
        have lb1 : bb < w.heap.size := by have := World.block_lt_of_cell? w _ hwb; simpa using this
        have hwa1 : wr.cell? ⟨ba, offa + k, none⟩ = some (.int .u8 ((a.getD k 0 : Nat) : Int)) := by
          rw [hb1.cell (p := ⟨ba, offa + k, none⟩) (by have := World.block_lt_of_cell? w _ hwa; simpa using this)]; exact hwa
        have hwb1 : wr.cell? ⟨bb, offb + k, none⟩ = some (.int .u8 ((b.getD k 0 : Nat) : Int)) := by
          rw [hb1.cell (p := ⟨bb, offb + k, none⟩) (by have := World.block_lt_of_cell? w _ hwb; simpa using this)]; exact hwb
        have hc := owns_cell hown1 (midJ_length f a b hk).symm k (by rw [midJ_length f a b hk]; exact hkn)
        have hfz := hown1.frozenAt k
        have hst := owns_byte hown1 k (f (a.getD k 0) (b.getD k 0))
        rw [midJ_set f a b hkn] at hst
        have hb2 := hb1.setCell (p := ⟨w.heap.size, k, none⟩) (Nat.le_refl _) (.int .u8 ((f (a.getD k 0) (b.getD k 0) : Nat) : Int))
        have hfc := fun w => hf _ _ w (getD_lt xa k) (getD_lt xb k)
        generalize a.getD k 0 = x at *
        generalize b.getD k 0 = y at *
        have Hst := hide hst
        have Hb2 := hide hb2
        clear hwa hwb hcella hcellb hst hb2
        have S0 : wr.drew.cell? ⟨ba, offa + k, none⟩ = some (.int .u8 (x : Int)) ∧ wr.drew.cell? ⟨bb, offb + k, none⟩ = some (.int .u8 (y : Int)) := ⟨hwa1, hwb1⟩
        have S1 : ∀ v, (wr.setCell ⟨w.heap.size, k, none⟩ v).drew.cell? ⟨ba, offa + k, none⟩ = some (.int .u8 (x : Int)) ∧ (wr.setCell ⟨w.heap.size, k, none⟩ v).drew.cell? ⟨bb, offb + k, none⟩ = some (.int .u8 (y : Int)) := by
          intro v
          have hbel := (Below.refl w.heap.size wr).setCell (p := ⟨w.heap.size, k, none⟩) (Nat.le_refl _) v
          refine ⟨?_, ?_⟩
          · exact (hbel.cell (p := ⟨ba, offa + k, none⟩) la1).trans hwa1
          · exact (hbel.cell (p := ⟨bb, offb + k, none⟩) lb1).trans hwb1
        clear Hca Hcb hf
        go_wp2_with fail
        go_region_held3 (fun w' => w'.cell? ⟨ba, offa + k, none⟩ = some (.int .u8 (x : Int)) ∧ w'.cell? ⟨bb, offb + k, none⟩ = some (.int .u8 (y : Int)))
          (first | exact S0 | exact S1 _ | assumption)
          (first
            | (go_at_call 52; refine (hfc _).mono ?_; rintro e wE ⟨rfl, rfl⟩))
        go_wp2_with fail
        exact ⟨⟨k + 1, by omega, by go_num, World.ownsRow.drew Hst.out, Hb2.out.drew⟩, by simp [intOf]; omega⟩
      · obtain rfl : k = n := by omega
        rw [midJ_end] at hown1
        clear Hca Hcb hf
        go_wp2_with fail
        go_ret2
        exact ⟨_, rfl, by rw [joinN_length]; exact hown1, hb1⟩
  · simp only [joinL, joinE, he, if_false]
    have hne : ((a.length : Int) != (b.length : Int)) = true := by simp; omega
    clear he
    go_enter Try.func49, Try.ntmps49
    go_wp2_with fail
    go_ret2
    exact ⟨_, rfl, World.ownsRow_nil _ _ _ _, Below.refl _ _⟩

set_option maxRecDepth 100000 in
set_option maxHeartbeats 400000 in
theorem or_any (va vb : Value) (a b : List Nat) (w : World) (ha : Bs w va a) (hb : Bs w vb b) (la : a.length ≤ 140737488355328) (lb : b.length ≤ 140737488355328) :
    Calls Try.prog 34 #[va, vb] w (NewBsE w (joinL (fun x y => x ||| y) a b) (joinE a b)) := by
  have HJ := hide (join_or va vb a b w ha hb la lb)
  clear ha hb
  go_enter Try.func34, Try.ntmps34
  go_wp2_with fail
  refine HJ.out.mono ?_
  rintro e w1 ⟨v1, rfl, hown, hb⟩
  go_wp2_with fail
  go_ret2
  exact ⟨_, rfl, hown, hb⟩


set_option maxRecDepth 100000 in
set_option maxHeartbeats 400000 in
theorem join_sub (va vb : Value) (a b : List Nat) (w : World) (ha : Bs w va a) (hb : Bs w vb b) (la : a.length ≤ 140737488355328) (lb : b.length ≤ 140737488355328) :
    Calls Try.prog 49 #[va, vb, .func (.func 53) #[] #[]] w (NewBsE w (joinL (fun x y => x &&& (255 - y)) a b) (joinE a b)) := by
  obtain ⟨f, hfe⟩ : ∃ f : Nat → Nat → Nat, (fun x y => x &&& (255 - y)) = f := ⟨_, rfl⟩
  have hf : ∀ x y w, x < 256 → y < 256 → Calls Try.prog 53 #[.int .u8 (x : Nat), .int .u8 (y : Nat)] w fun e w' => e = .returned (.int .u8 ((f x y : Nat) : Int)) ∧ w = w' := by
    intro x y w hx hy
    rw [← hfe]
    exact sub1_any x y w hx hy
  rw [hfe]
  clear hfe
  obtain ⟨i0, hi, hz0, hz1, hz2⟩ := info_parts Try.info5
  have xa := ha.lt
  have xb := hb.lt
  obtain ⟨aoa, capa, rfl, hla, _, _, hca⟩ := ha
  obtain ⟨aob, capb, rfl, hlb, _, _, hcb⟩ := hb
  have Hca := hide hca
  have Hcb := hide hcb
  clear hca hcb
  by_cases he : a.length = b.length
  · simp only [joinL, joinE, he, if_true]
    obtain ⟨n, hn⟩ : ∃ n, b.length = n := ⟨_, rfl⟩
    rw [hn] at he lb hlb Hcb ⊢
    rw [he] at la hla Hca
    have Hn := hide hn
    have He := hide he
    clear hn he
    have hne : ((n : Int) != (n : Int)) = false := by simp
    go_enter Try.func49, Try.ntmps49
    go_wp2_with (at_make; refine wpList_make_full _ rfl (.tmp 16) (.tmp 16) 22 rfl w.heap.size 5 i0 (.int .u8 0) 1 Try.underlying22 hi hz0 hz1 .i64 .i64 n n n rfl rfl rfl rfl (by rw [hz2]; omega) (by unfold maxLen; omega) (Nat.le_refl _) ?_; intro w1 hown hgrow)
    have hb0 : Below w.heap.size w w1 := (Below.refl _ _).grown hgrow (Nat.le_refl _) (by intro k hk; cases hk)
    rw [made_zeros, ← midJ_zero f a b] at hown
    go_loopw [20] (fun i wr => ∃ k : Nat, k ≤ n ∧ i = .int .i64 k ∧ wr.ownsRow w.heap.size 5 1 (.slice (some ⟨w.heap.size, 0, none⟩) n n) n (cellsB (midJ f a b n k)) ∧ Below w.heap.size w wr) (fun i _ => n - (intOf i).toNat)
    case atStart => exact ⟨0, Nat.zero_le _, rfl, hown, hb0⟩
    case round =>
      obtain ⟨k, hk, rfl, hown1, hb1⟩ := hrel
      clear hown hb0 hgrow
      by_cases hkn : k < n
      · obtain ⟨ba, offa, rfl, hcella⟩ := Hca.out (by omega)
        obtain ⟨bb, offb, rfl, hcellb⟩ := Hcb.out (by omega)
        have hwa := hcella k (by omega)
        have hwb := hcellb k (by omega)
        have la1 : ba < w.heap.size := by have := World.block_lt_of_cell? w _ hwa; simpa using this
        have lb1 : bb < w.heap.size := by have := World.block_lt_of_cell? w _ hwb; simpa using this
        have hwa1 : wr.cell? ⟨ba, offa + k, none⟩ = some (.int .u8 ((a.getD k 0 : Nat) : Int)) := by
          rw [hb1.cell (p := ⟨ba, offa + k, none⟩) (by have := World.block_lt_of_cell? w _ hwa; simpa using this)]; exact hwa
        have hwb1 : wr.cell? ⟨bb, offb + k, none⟩ = some (.int .u8 ((b.getD k 0 : Nat) : Int)) := by
          rw [hb1.cell (p := ⟨bb, offb + k, none⟩) (by have := World.block_lt_of_cell? w _ hwb; simpa using this)]; exact hwb
        have hc := owns_cell hown1 (midJ_length f a b hk).symm k (by rw [midJ_length f a b hk]; exact hkn)
        have hfz := hown1.frozenAt k
        have hst := owns_byte hown1 k (f (a.getD k 0) (b.getD k 0))
        rw [midJ_set f a b hkn] at hst
        have hb2 := hb1.setCell (p := ⟨w.heap.size, k, none⟩) (Nat.le_refl _) (.int .u8 ((f (a.getD k 0) (b.getD k 0) : Nat) : Int))
        have hfc := fun w => hf _ _ w (getD_lt xa k) (getD_lt xb k)
        generalize a.getD k 0 = x at *
        generalize b.getD k 0 = y at *
        have Hst := hide hst
        have Hb2 := hide hb2
        clear hwa hwb hcella hcellb hst hb2
        have S0 : wr.drew.cell? ⟨ba, offa + k, none⟩ = some (.int .u8 (x : Int)) ∧ wr.drew.cell? ⟨bb, offb + k, none⟩ = some (.int .u8 (y : Int)) := ⟨hwa1, hwb1⟩
        have S1 : ∀ v, (wr.setCell ⟨w.heap.size, k, none⟩ v).drew.cell? ⟨ba, offa + k, none⟩ = some (.int .u8 (x : Int)) ∧ (wr.setCell ⟨w.heap.size, k, none⟩ v).drew.cell? ⟨bb, offb + k, none⟩ = some (.int .u8 (y : Int)) := by
          intro v
          have hbel := (Below.refl w.heap.size wr).setCell (p := ⟨w.heap.size, k, none⟩) (Nat.le_refl _) v
          refine ⟨?_, ?_⟩
          · exact (hbel.cell (p := ⟨ba, offa + k, none⟩) la1).trans hwa1
          · exact (hbel.cell (p := ⟨bb, offb + k, none⟩) lb1).trans hwb1
        clear Hca Hcb hf
        go_wp2_with fail
        go_region_held3 (fun w' => w'.cell? ⟨ba, offa + k, none⟩ = some (.int .u8 (x : Int)) ∧ w'.cell? ⟨bb, offb + k, none⟩ = some (.int .u8 (y : Int)))
          (first | exact S0 | exact S1 _ | assumption)
          (first
            | (go_at_call 53; refine (hfc _).mono ?_; rintro e wE ⟨rfl, rfl⟩))
        go_wp2_with fail
        exact ⟨⟨k + 1, by omega, by go_num, World.ownsRow.drew Hst.out, Hb2.out.drew⟩, by simp [intOf]; omega⟩
      · obtain rfl : k = n := by omega
        rw [midJ_end] at hown1
        clear Hca Hcb hf
        go_wp2_with fail
        go_ret2
        exact ⟨_, rfl, by rw [joinN_length]; exact hown1, hb1⟩
  · simp only [joinL, joinE, he, if_false]
    have hne : ((a.length : Int) != (b.length : Int)) = true := by simp; omega
    clear he
    go_enter Try.func49, Try.ntmps49
    go_wp2_with fail
    go_ret2
    exact ⟨_, rfl, World.ownsRow_nil _ _ _ _, Below.refl _ _⟩

set_option maxRecDepth 100000 in
set_option maxHeartbeats 400000 in
theorem sub_any (va vb : Value) (a b : List Nat) (w : World) (ha : Bs w va a) (hb : Bs w vb b) (la : a.length ≤ 140737488355328) (lb : b.length ≤ 140737488355328) :
    Calls Try.prog 36 #[va, vb] w (NewBsE w (joinL (fun x y => x &&& (255 - y)) a b) (joinE a b)) := by
  have HJ := hide (join_sub va vb a b w ha hb la lb)
  clear ha hb
  go_enter Try.func36, Try.ntmps36
  go_wp2_with fail
  refine HJ.out.mono ?_
  rintro e w1 ⟨v1, rfl, hown, hb⟩
  go_wp2_with fail
  go_ret2
  exact ⟨_, rfl, hown, hb⟩



end Go.Proofs.Ytkdajahcadjpfaa
