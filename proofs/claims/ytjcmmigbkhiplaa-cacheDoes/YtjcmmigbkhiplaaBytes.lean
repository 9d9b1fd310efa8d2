/- A slice of bytes as a list of numbers below 256; what append, make and the conversion to a string do with it. Nothing here speaks of one program. -/
import Derived.WalkKit
import Derived.WalkSpells
import Derived.WalkLawsBesides
import Derived.Laws.AppendOwnNone
namespace Go.Attic
open Go.RowKit

theorem hide {p : Prop} (h : p) : Hid p := h
theorem unhide {p : Prop} (h : Hid p) : p := h

/-- A list of numbers as cells of bytes. -/
def cellsB (l : List Nat) : List Value := l.map fun x : Nat => Value.int .u8 (x : Int)

/-- The slice value v holds the bytes l in the world w. -/
def Bs (w : World) (v : Value) (l : List Nat) : Prop :=
  ∃ ao cap, v = .slice ao l.length cap ∧ l.length ≤ cap ∧ (ao = none → cap = 0) ∧ (∀ x ∈ l, x < 256) ∧
    (0 < l.length → ∃ b off, ao = some ⟨b, off, none⟩ ∧ ∀ i, i < l.length → w.cell? ⟨b, off + i, none⟩ = some (.int .u8 ((l.getD i 0 : Nat) : Int)))

theorem Bs.nil (w : World) : Bs w (.slice none 0 0) [] := ⟨none, 0, rfl, Nat.le_refl _, fun _ => rfl, by simp, by simp⟩

theorem Bs.lt {w : World} {v : Value} {l : List Nat} (h : Bs w v l) : ∀ x ∈ l, x < 256 := by
  obtain ⟨_, _, _, _, _, h, _⟩ := h; exact h

theorem getD_lt {l : List Nat} (h : ∀ x ∈ l, x < 256) (i : Nat) : l.getD i 0 < 256 := by
  by_cases hi : i < l.length
  · rw [List.getD_eq_getElem?_getD, List.getElem?_eq_getElem hi]; exact h _ (List.getElem_mem hi)
  · rw [List.getD_eq_getElem?_getD, List.getElem?_eq_none (by omega)]; simp

/-- What is below a bound stays. -/
theorem Bs.below {w w' : World} {v : Value} {l : List Nat} (h : Bs w v l) {B : Nat} (hb : Below B w w') (hB : w.heap.size ≤ B) : Bs w' v l := by
  obtain ⟨ao, cap, hv, hl, hn, hx, hc⟩ := h
  refine ⟨ao, cap, hv, hl, hn, hx, fun hp => ?_⟩
  obtain ⟨b, off, hao, hcell⟩ := hc hp
  refine ⟨b, off, hao, fun i hi => ?_⟩
  have hlt := World.block_lt_of_cell? w _ (hcell i hi)
  rw [hb.cell (p := ⟨b, off + i, none⟩) (by simp at hlt ⊢; omega)]
  exact hcell i hi

theorem Bs.mono {w w' : World} {v : Value} {l : List Nat} (h : Bs w v l) (hb : Below w.heap.size w w') : Bs w' v l := h.below hb (Nat.le_refl _)

theorem Bs.alloc {w : World} {v : Value} {l : List Nat} (h : Bs w v l) (o : Obj) : Bs (w.alloc o) v l :=
  h.mono ((Below.refl _ _).alloc (Nat.le_refl _) o)

theorem Bs.drew {w : World} {v : Value} {l : List Nat} (h : Bs w v l) : Bs w.drew v l := h.mono (Below.refl _ _).drew

/-- The cells, as append's laws ask for them. -/
theorem Bs.cells {w : World} {ao : Option Addr} {n cap : Nat} {l : List Nat} (h : Bs w (.slice ao n cap) l) :
    ∀ ad, ao = some ad → ∀ j u, (cellsB l)[j]? = some u → w.cell? (ad.add j) = some u := by
  intro ad had j u hu
  obtain ⟨ao', cap', hv, hl, hn, hx, hc⟩ := h
  injection hv with h1 h2 h3
  have hj : j < l.length := by
    have := (List.getElem?_eq_some_iff.1 hu).1
    simpa [cellsB] using this
  obtain ⟨b, off, hao, hcell⟩ := hc (by omega)
  rw [← h1, had] at hao
  obtain rfl := Option.some.inj hao
  rw [Addr.add_lit, hcell j hj]
  have e : (cellsB l)[j]? = some (.int .u8 ((l.getD j 0 : Nat) : Int)) := by
    simp [cellsB, List.getD, hj]
  rw [e] at hu
  exact hu

theorem Bs.len {w : World} {ao : Option Addr} {n cap : Nat} {l : List Nat} (h : Bs w (.slice ao n cap) l) : n = l.length := by
  obtain ⟨_, _, hv, _⟩ := h
  injection hv

theorem Bs.cap {w : World} {ao : Option Addr} {n cap : Nat} {l : List Nat} (h : Bs w (.slice ao n cap) l) : l.length ≤ cap := by
  obtain ⟨_, _, hv, h, _⟩ := h
  injection hv with h1 h2 h3
  omega

theorem Bs.none {w : World} {n cap : Nat} {l : List Nat} (h : Bs w (.slice none n cap) l) : n = 0 ∧ cap = 0 ∧ l = [] := by
  obtain ⟨ao, cap', hv, hl, hn, _⟩ := h
  injection hv with h1 h2 h3
  have := hn h1.symm
  have h0 : l.length = 0 := by omega
  exact ⟨by omega, by omega, List.eq_nil_of_length_eq_zero h0⟩

theorem cellsB_length (l : List Nat) : (cellsB l).length = l.length := by simp [cellsB]

theorem cellsB_oneCell (l : List Nat) : ∀ u ∈ cellsB l, u.oneCell' = true := by
  intro u hu
  obtain ⟨_, _, rfl⟩ := List.mem_map.1 hu
  rfl

theorem cellsB_append (a b : List Nat) : cellsB (a ++ b) = cellsB a ++ cellsB b := by simp [cellsB]

/-- What a call has made by make or append is such a slice. -/
theorem Bs.of_owns {w : World} {base : Nat} {e : TypeId} {v : Value} {n : Nat} {l : List Nat} (h : w.ownsRow base e 1 v n (cellsB l)) (hx : ∀ x ∈ l, x < 256) : Bs w v l := by
  have hlen : l.length = n := by have := h.1; simp [cellsB] at this; omega
  rcases h.2 with ⟨rfl, h0⟩ | ⟨g, cap, cur, rfl, hb, hg, hnc, hm, hs, htake⟩
  · have : l = [] := List.eq_nil_of_length_eq_zero (by omega)
    subst this
    exact Bs.nil w
  · refine ⟨some ⟨g, 0, Option.none⟩, cap, by rw [hlen], by omega, by simp, hx, fun _ => ⟨g, 0, rfl, fun i hi => ?_⟩⟩
    have := h.cells (g := g) rfl i (.int .u8 ((l.getD i 0 : Nat) : Int)) (by simp [cellsB, List.getD, hi])
    rwa [Addr.add_lit] at this

/-- The bytes as a string. -/
def strB (l : List Nat) : ByteArray := ⟨(l.map fun x => UInt8.ofNat x).toArray⟩

theorem strB_toList (l : List Nat) : (strB l).data.toList = l.map fun x => UInt8.ofNat x := by simp [strB]

theorem strB_size (l : List Nat) : (strB l).size = l.length := by simp [strB, ByteArray.size]

theorem strB_inj {a b : List Nat} (ha : ∀ x ∈ a, x < 256) (hb : ∀ x ∈ b, x < 256) (h : strB a = strB b) : a = b := by
  have h' : a.map (fun x => UInt8.ofNat x) = b.map (fun x => UInt8.ofNat x) := by rw [← strB_toList, ← strB_toList, h]
  have back : ∀ l : List Nat, (∀ x ∈ l, x < 256) → (l.map (fun x => UInt8.ofNat x)).map UInt8.toNat = l := by
    intro l hl
    rw [List.map_map]
    conv => rhs; rw [← List.map_id l]
    apply List.map_congr_left
    intro x hx
    have := hl x hx
    simp [Nat.mod_eq_of_lt this]
  rw [← back a ha, ← back b hb, h']

/-- 'string(b)' of such a slice. -/
theorem Bs.convert {P : Program} {w : World} {v : Value} {l : List Nat} (h : Bs w v l) (src e dst : TypeId) (hs : P.underlying src = some (.slice e)) (he : P.underlying e = some (.int .u8))
    (hd : P.underlying dst = some .string) : (Go.convert src dst v).run P w = .ok (.string (strB l)) w := by
  have hh := h
  obtain ⟨ao, cap, rfl, hl, hn, hx, hc⟩ := h
  cases ao with
  | none =>
    obtain ⟨_, _, rfl⟩ := hh.none
    rw [run_convert_bytes_nil w src e hs he _ _ dst hd]
    rfl
  | some ad =>
    have hld : (loadCells ad l.length).run P w = .ok ((l.map fun x : Nat => (x : Int)).map (Value.int .u8)).toArray w := by
      have := run_loadCells_list (P := P) w ad (cellsB l) (hh.cells ad rfl)
      rw [cellsB_length] at this
      rw [this]
      simp [cellsB]
    rw [run_convert_bytes_string w src dst e _ _ cap hs he hd, run_bytesToString w _ l.length cap _ hld, foldl_push_bytes]
    congr 2
    simp [strB]

/-- 'append(out, b...)', out the call's own, b whatever: nil, empty or not. -/
theorem wpList_append_bs {P : Program} (w : World) {ops : Array Oper} {rest : List Oper} {o : Oper} {a : Act} {Q : Exit → Act → World → Prop}
    (hg : o.guard = Option.none) (s x : Operand) (t : TypeId) (hop : o.op = Op.call { callee := Callee.builtin Builtin.append, args := #[s, x], argTypes := #[t, t] })
    (base : Nat) (e : TypeId) (i : TypeInfo) (z : Value) (h1 : P.underlying t = some (.slice e)) (h2 : P.info? e = some i) (h3 : i.zero = some z) (h4 : i.size = 1) (h5 : i.bytes = 1) (h6 : z.cells.size = 1)
    (v : Value) (n : Nat) (xs : List Nat) (hs : a.eval s = v) (hown : w.ownsRow base e 1 v n (cellsB xs)) (vx : Value) (l : List Nat) (hx : a.eval x = vx) (hb : Bs w vx l)
    (b1 : n + l.length ≤ 140737488355328) (b2 : base ≤ w.heap.size)
    (hK : ∀ v' w', w'.ownsRow base e 1 v' (n + l.length) (cellsB (xs ++ l)) → w.grownBy w' v.ownBlock → wpList P ops Q rest (a.put o.dst v') w') :
    wpList P ops Q (o :: rest) a w := by
  have hb' := hb
  obtain ⟨ao, cap, rfl, hl, hn, hlt, hc⟩ := hb
  cases ao with
  | some ad =>
    refine wpList_append_own w hg s x t hop base e i z 1 1 h1 h2 h3 h4 h5 h6 (by decide) v n (cellsB xs) hs hown ad l.length cap (cellsB l) hx (by simp [cellsB_length]) (hb'.cells ad rfl) (cellsB_oneCell l) (by unfold maxLen; omega) (by omega) b2 ?_
    intro v' w' hown' hgrow _
    exact hK v' w' (by rw [cellsB_append]; exact hown') hgrow
  | none =>
    obtain ⟨_, rfl, rfl⟩ := hb'.none
    refine wpList_append_own_none hg s x t hop base e i 1 h1 h2 v n (cellsB xs) hs hown hx ?_
    exact hK v w (by simpa using hown) (World.grownBy.refl _ _)

/-- The slice of one byte that 'append(out, x)' lays first. -/
theorem Bs.one (w : World) (e : TypeId) (y : Int) (x : Nat) (hy : y = (x : Int)) (hx : x < 256) : Bs (w.alloc (.cells #[.int .u8 y] e)) (.slice (some ⟨w.heap.size, 0, Option.none⟩) 1 1) [x] := by
  refine ⟨some ⟨w.heap.size, 0, Option.none⟩, 1, rfl, by simp, by simp, by simpa using hx, fun _ => ⟨w.heap.size, 0, rfl, fun i hi => ?_⟩⟩
  have : i = 0 := by simpa using hi
  subst this
  subst hy
  simp

theorem owns_lt {w : World} {base : Nat} {e : TypeId} {size : Nat} {v : Value} {n : Nat} {xs : List Value} (h : w.ownsRow base e size v n xs) : ∀ k, v.ownBlock = some k → base ≤ k := fun k hk => (h.lt k hk).1

theorem Bs.take {w : World} {ao : Option Addr} {n cap h : Nat} {l : List Nat} (hb : Bs w (.slice ao n cap) l) (hh : h ≤ l.length) : Bs w (.slice ao h cap) (l.take h) := by
  have hn := hb.len
  have hc := hb.cap
  obtain ⟨ao', cap', hv, hl, hnn, hx, hcell⟩ := hb
  injection hv with e1 e2 e3
  subst e1 e3
  have ht : (l.take h).length = h := by simp; omega
  refine ⟨ao, cap, by rw [ht], by omega, hnn, fun x hx' => hx x (List.mem_of_mem_take hx'), fun hp => ?_⟩
  rw [ht] at hp ⊢
  obtain ⟨b, off, ha, hcc⟩ := hcell (by omega)
  refine ⟨b, off, ha, fun i hi => ?_⟩
  rw [hcc i (by omega)]
  simp [List.getD, hi]

theorem Bs.drop {w : World} {ao : Option Addr} {n cap lo : Nat} {l : List Nat} (hb : Bs w (.slice ao n cap) l) (hh : lo ≤ l.length) :
    Bs w (.slice (if cap = lo then ao else ao.map (·.add lo)) (l.length - lo) (cap - lo)) (l.drop lo) := by
  have hn := hb.len
  have hc := hb.cap
  obtain ⟨ao', cap', hv, hl, hnn, hx, hcell⟩ := hb
  injection hv with e1 e2 e3
  subst e1 e3
  have ht : (l.drop lo).length = l.length - lo := by simp
  refine ⟨_, cap - lo, by rw [ht], by omega, ?_, fun x hx' => hx x (List.mem_of_mem_drop hx'), fun hp => ?_⟩
  · intro h0
    split at h0
    · have := hnn h0; omega
    · cases ao with
      | none => have := hnn rfl; omega
      | some a => simp at h0
  · rw [ht] at hp ⊢
    obtain ⟨b, off, ha, hcc⟩ := hcell (by omega)
    refine ⟨b, off + lo, ?_, fun i hi => ?_⟩
    · rw [if_neg (by omega), ha, Option.map_some, Addr.add_lit]
    · rw [Nat.add_assoc, hcc (lo + i) (by omega)]
      simp [List.getD]

end Go.Attic
