/- The law ReplayBack: a page becomes the other one by its patches, six at most, none where nothing changes; and so does any page of which each byte is the old one's or the new one's, whatever the block, the pages and the mask. -/
import Derived.Test.YtgdlbfoihpdlhaaK9
import Derived.Test.YtgdlbfoihpdlhaaL5
import Derived.Test.YtgdlbfoihpdlhaaCameL
set_option linter.unusedSimpArgs false
set_option linter.unusedVariables false
namespace Go.Proofs.Ytgdlbfoihpdlhaa
open Go.RowKit Go.Attic Go.ChangeShapes Go.WideShapes

set_option maxRecDepth 100000 in
set_option maxHeartbeats 1000000 in
theorem pages_yes (block : Int) (aa ba : Option Addr) (ac bc : Nat) (w : World) (h0 : 0 ≤ block) (h1 : block < 2048) :
    Calls Try.prog 24 #[.int .i64 block, .slice aa 256 ac, .slice ba 256 bc] w fun e w' => e = .returned (.bool true) ∧ w = w' := by
  go_enter Try.func24, Try.ntmps24
  go_wp2_with fail
  go_ret
  exact ⟨by simp, rfl⟩
set_option maxRecDepth 100000 in
set_option maxHeartbeats 1000000 in
theorem pages_no (block : Int) (aa ba : Option Addr) (an bn ac bc : Nat) (w : World) (h : ¬ ((0 ≤ block ∧ block < 2048) ∧ an = 256 ∧ bn = 256)) :
    Calls Try.prog 24 #[.int .i64 block, .slice aa an ac, .slice ba bn bc] w fun e w' => e = .returned (.bool false) ∧ w = w' := by
  by_cases h0 : 0 ≤ block
  · by_cases h1 : block < 2048
    · by_cases ha : an = 256
      · have hb : ((bn : Int) == 256) = false := by
          have : ¬ bn = 256 := fun e => h ⟨⟨h0, h1⟩, ha, e⟩
          simp; omega
        clear h
        subst ha
        go_enter Try.func24, Try.ntmps24
        go_wp2_with fail
        go_ret
        exact ⟨by simp [hb], rfl⟩
      · have hb : ((an : Int) == 256) = false := by simp; omega
        clear h
        go_enter Try.func24, Try.ntmps24
        go_wp2_with fail
        go_ret
        exact ⟨by simp [hb], rfl⟩
    · clear h
      go_enter Try.func24, Try.ntmps24
      go_wp2_with fail
      go_ret
      exact ⟨by simp <;> omega, rfl⟩
  · clear h
    go_enter Try.func24, Try.ntmps24
    go_wp2_with fail
    go_ret
    exact ⟨by simp <;> omega, rfl⟩

theorem rcheck_rc {w : World} {r : Rc} {ao : Option Addr} {cap : Nat} (h : okb r = true) (hn : r.l.length ≤ 140737488355328) :
    Calls Try.prog 25 #[.agg #[.int .i64 r.k, .int .i64 r.b, .int .i64 r.o, .slice ao r.l.length cap, .int .i64 r.m]] w fun e w' => e = .returned (.int .i64 0) ∧ Below w.heap.size w w' := by
  have := rcheck_any r.k r.b r.o r.m r.l.length cap ao w hn
  rwa [okb_chk h] at this

/-- A page of which each byte is the one's or the other's. -/
def Mix (A B q : List Nat) : Prop := q.length = 256 ∧ ∀ z, z < 256 → q.getD z 0 = A.getD z 0 ∨ q.getD z 0 = B.getD z 0
theorem Mix.set {A B q : List Nat} (h : Mix A B q) (i : Nat) (hi : i < 256) : Mix A B (q.set i (B.getD i 0)) := by
  refine ⟨by rw [List.length_set]; exact h.1, fun z hz => ?_⟩
  by_cases e : i = z
  · subst e
    right
    rw [List.getD_eq_getElem?_getD, List.getElem?_set_self (by rw [h.1]; exact hi), Option.getD_some]
  · rw [List.getD_eq_getElem?_getD, List.getElem?_set_ne e, ← List.getD_eq_getElem?_getD]
    exact h.2 z hz
theorem Mix.lt {A B q : List Nat} (h : Mix A B q) (hA : ∀ x ∈ A, x < 256) (hB : ∀ x ∈ B, x < 256) : ∀ x ∈ q, x < 256 := by
  intro x hx
  obtain ⟨i, hi, rfl⟩ := List.getElem_of_mem hx
  have := h.2 i (by have := h.1; omega)
  rw [List.getD_eq_getElem?_getD, List.getElem?_eq_getElem hi, Option.getD_some] at this
  rcases this with e | e
  · rw [e]; exact getD_lt hA i
  · rw [e]; exact getD_lt hB i
theorem redoR_cut {block : Int} {A B q : List Nat} (hb : 0 ≤ block ∧ block < 2048) (hA : A.length = 256) (hB : B.length = 256) (h : Mix A B q) : redoR q block (cutU block A B 6) = (B, 0) := by
  have hall : (cutU block A B 6).all okb = true := List.all_eq_true.2 fun r hr => (cutU_ok hb hB 6 (by omega) r hr).1
  unfold redoR
  rw [if_pos h.1, if_pos hall, redo_cut_all hb hA hB h.1 h.2]

set_option maxRecDepth 100000 in
set_option maxHeartbeats 2000000 in
theorem back_no {w : World} {va vb vm : Value} {A B M : List Nat} (block : Int) (hA : Bs w va A) (hB : Bs w vb B) (hM : Bs w vm M) (h : ¬ ((0 ≤ block ∧ block < 2048) ∧ A.length = 256 ∧ B.length = 256)) :
    Calls Try.prog 6 #[.int .i64 block, va, vb, vm] w fun e w' => e = .returned (.bool true) ∧ Below w.heap.size w w' := by
  obtain ⟨aa, ac, rfl, -⟩ := id hA
  obtain ⟨ba, bc, rfl, -⟩ := id hB
  obtain ⟨ma, mc, rfl, -⟩ := id hM
  have hp := fun w => pages_no block aa ba A.length B.length ac bc w h
  clear hA hB hM h
  go_enter Try.func6, Try.ntmps6
  go_wp2_with fail
  refine (begun_any _).mono ?_
  rintro e w1 ⟨rfl, hb1⟩
  go_wp2_with fail
  refine (hp _).mono ?_
  rintro e w' ⟨rfl, rfl⟩
  go_wp2_with fail
  refine (begun_any _).mono ?_
  rintro e w3 ⟨rfl, hb3⟩
  go_wp2_with fail
  go_ret
  exact ⟨rfl, hb1.trans (hb3.mono hb1.size)⟩

set_option maxRecDepth 100000 in
set_option maxHeartbeats 1000000 in
theorem back_yes {w : World} {aa ba ma : Option Addr} {ac bc mc : Nat} {A B M : List Nat} (block : Int) (hA : Bs w (.slice aa 256 ac) A) (hB : Bs w (.slice ba 256 bc) B) (hM : Bs w (.slice ma M.length mc) M) (hml : M.length ≤ 140737488355328) (hblock : 0 ≤ block ∧ block < 2048) :
    Calls Try.prog 6 #[.int .i64 block, .slice aa 256 ac, .slice ba 256 bc, .slice ma M.length mc] w fun e w' => e = .returned (.bool true) ∧ Below w.heap.size w w' := by
  have hAl := hA.len
  have hBl := hB.len
  have hAlt := hA.lt
  have hBlt := hB.lt
  have hul := cutU_len block A B 6
  have huo := cutU_ok (a := A) hblock hBl.symm 6 (by omega)
  have hun := cutU_nil hblock hAl.symm hBl.symm
  have hrq := fun q => redoR_cut (q := q) hblock hAl.symm hBl.symm
  have hcut := fun w hA hB => cut_yes (w := w) (aa := aa) (ba := ba) (ac := ac) (bc := bc) (A := A) (B := B) hblock hA hB
  obtain ⟨hb0, hb1⟩ := hblock
  have hp := fun w => pages_yes block aa ba ac bc w hb0 hb1
  generalize cutU block A B 6 = U at *
  have HA := hide hA
  have HB := hide hB
  have HM := hide hM
  have HAl := hide hAl
  have HBl := hide hBl
  have Hrq := hide hrq
  have Huo := hide huo
  have Hun := hide hun
  have HAlt := hide hAlt
  have HBlt := hide hBlt
  have Hcut := hide hcut
  clear hA hB hM hAl hBl hrq huo hun hAlt hBlt hcut
  go_enter Try.func6, Try.ntmps6
  go_wp2_with fail
  refine (begun_any _).mono ?_
  rintro e w1 ⟨rfl, hb1'⟩
  have hz1 := hb1'.size
  go_wp2_with fail
  refine (hp _).mono ?_
  rintro e w' ⟨rfl, rfl⟩
  clear hp
  go_wp2_with fail
  refine (Hcut.out w1 (HA.out.mono hb1') (HB.out.mono hb1')).mono ?_
  rintro e w4 ⟨v4, p4, vs4, rfl, hrw4, hb4⟩
  obtain ⟨a4, c4, rfl⟩ := owns_slice hrw4.row
  have hB4 := hb1'.trans (hb4.mono hz1)
  have hz4 := hB4.size
  have Hrw4 := hide hrw4
  clear hrw4
  have heq := equal_any _ _ _ _ _ (HA.out.mono hB4) (HB.out.mono hB4)
  have hne : ((U.length : Int) == 0) = decide (A = B) := by
    by_cases e : A = B
    · have : U = [] := Hun.out.2 e
      rw [this]; simp [e]
    · have : U ≠ [] := fun h => e (Hun.out.1 h)
      have : U.length ≠ 0 := fun h => this (List.eq_nil_of_length_eq_zero h)
      rw [decide_eq_false e]; simp; omega
  generalize decide (A = B) = dq at *
  have hd6 : decide ((6 : Int) < (U.length : Int)) = false := decide_eq_false (by omega)
  have hul2 : (U.length : Int) ≤ 6 := by omega
  go_wp2_with fail
  refine heq.mono ?_
  rintro e w' ⟨rfl, rfl⟩
  clear heq
  obtain ⟨n, hn⟩ : ∃ n, U.length = n := ⟨_, rfl⟩
  rw [hn] at hul hul2 hne hd6 ⊢
  have Hn := hide hn
  clear hn
  cases dq
  all_goals
    go_wp2_with fail
    try simp only [hd6]
    go_loopw [53] (fun iv wr => ∃ i : Nat, i ≤ n ∧ iv = .int .i64 (i : Int) ∧ Below w4.heap.size w4 wr) (fun iv _ => n - (intOf iv).toNat)
    case atStart => exact ⟨0, Nat.zero_le _, rfl, Below.refl _ _⟩
    case round =>
      obtain ⟨i, hi, rfl, hbr⟩ := hrel
      by_cases hin : i < n
      · have hiU : i < U.length := by have := Hn.out; omega
        obtain ⟨en, b1, o1, u1, rfl, -, hat, hub, -⟩ := (Hrw4.out.rs.mono hbr).at i hiU
        obtain ⟨hok, hk1, hk2⟩ := Huo.out _ (List.getElem_mem hiU)
        generalize U[i] = x at *
        obtain ⟨ua, uc, rfl, -⟩ := id hub
        have hxl : x.l.length ≤ 140737488355328 := by have := ok_fits hok hk1; omega
        have x0 := hat.c0
        have x1 := hat.c1
        have x2 := hat.c2
        have x3 := hat.c3
        have x4 := hat.c4
        obtain ⟨wa, hwa⟩ : ∃ wa, wr.alloc (.cells #[.int .i64 x.k, .int .i64 x.b, .int .i64 x.o, .slice ua x.l.length uc, .int .i64 x.m] 48) = wa := ⟨_, rfl⟩
        have hRa : RecAt wa wr.heap.size x.k x.b x.o (.slice ua x.l.length uc) x.m := by rw [← hwa]; exact RecAt.new wr _ _ _ _ _
        have hba : Below w4.heap.size w4 wa := by rw [← hwa]; exact hbr.alloc hbr.size _
        obtain ⟨r0, r1, r2, r3, r4⟩ := hRa.held
        have hck := rcheck_rc (w := wa) (ao := ua) (cap := uc) hok hxl
        have Hck := hide hck
        have HRa := hide hRa
        have Hk1 := hide hk1
        have Hk2 := hide hk2
        clear hat hub hck hRa en hk1 hk2 hok
        go_wp2_with fail
        refine Hck.out.mono ?_
        rintro e w5 ⟨rfl, hb5⟩
        have hb45 := hba.trans (hb5.mono hba.size)
        obtain ⟨q0, q1, q2, q3, q4⟩ := (HRa.out.mono hb5).held
        rw [Hk1.out] at q0
        rw [Hk2.out] at q1
        have hk1 := Hk1.out
        have hk2 := Hk2.out
        clear r0 r1 r2 r3 r4 hwa
        go_wp2_with fail
        go_roundw
        case rel => exact ⟨i + 1, by omega, by go_num, hb45⟩
        case measure => simp [intOf]; omega
      · obtain rfl : i = n := by omega
        have hB5 := hB4.trans (hbr.mono hz4)
        have hz5 := hB5.size
        have hcl := clone_any _ A _ (HA.out.mono hB5) (by have := HAl.out; omega)
        have Hcl := hide hcl
        clear hcl
        go_wp2_with fail
        refine Hcl.out.mono ?_
        rintro e w6 ⟨v6, rfl, ho6, hb6⟩
        rw [← HAl.out] at ho6
        obtain ⟨m, cm, rfl, hm, hml6⟩ := owns_block ho6 (by omega)
        have hmix : Mix A B A := ⟨HAl.out.symm, fun z _ => .inl rfl⟩
        have Ho6 := hide ho6
        have Hmix := hide hmix
        clear ho6 hmix
        go_wp2_with fail
        go_loopw [76] (fun iv wq => ∃ (i : Nat) (q : List Nat), i ≤ 256 ∧ iv = .int .i64 (i : Int) ∧ Mix A B q ∧ wq.ownsRow wr.heap.size 5 1 (.slice (some ⟨m, 0, none⟩) 256 cm) 256 (cellsB q) ∧ Below wr.heap.size wr wq) (fun iv _ => 256 - (intOf iv).toNat)
        case atStart => exact ⟨0, A, Nat.zero_le _, rfl, Hmix.out, Ho6.out, hb6⟩
        case round =>
          obtain ⟨i, q, hi, rfl, hmq, how, hbq⟩ := hrel
          have hBq := hB5.trans (hbq.mono hz5)
          have hzq := hBq.size
          by_cases hi6 : i < 256
          · have How := hide how
            have Hmq := hide hmq
            clear how hmq
            by_cases hmk : i / 8 < M.length
            · obtain ⟨bm, om, rfl, hcm⟩ := bs_at (HM.out.mono hBq) (i / 8) hmk
              generalize M.getD (i / 8) 0 = z at *
              have hmkI : (i : Int) / 8 < (M.length : Int) := by omega
              cases hbit : (bits .and .u8 ((z : Int) / 2 ^ (i % 8)) 1 == 1) with
              | true =>
                obtain ⟨b2, o2, rfl, hc2⟩ := bs_at (HB.out.mono hBq) i (by have := HBl.out; omega)
                have hce := owns_cell How.out Hmq.out.1.symm i (by have := Hmq.out.1; omega)
                have hfz := How.out.frozenAt i
                have Hset := hide (owns_set How.out i (B.getD i 0))
                have Hms := hide (Hmq.out.set i hi6)
                generalize B.getD i 0 = y at *
                have hi8 : (i : Int) < 256 := by omega
                have hb3 := hbq.setCell (p := ⟨m, i, none⟩) hm (.int .u8 (y : Int))
                have Hb3 := hide hb3
                clear hb3
                go_wp2_with fail
                go_roundw
                case rel => exact ⟨i + 1, _, by omega, by go_num, Hms.out, Hset.out, Hb3.out⟩
                case measure => simp [intOf]; omega
              | false =>
                go_wp2_with fail
                go_roundw
                case rel => exact ⟨i + 1, q, by omega, by go_num, Hmq.out, How.out, hbq⟩
                case measure => simp [intOf]; omega
            · have hmkI : ¬ (i : Int) / 8 < (M.length : Int) := by omega
              go_wp2_with fail
              go_roundw
              case rel => exact ⟨i + 1, q, by omega, by go_num, Hmq.out, How.out, hbq⟩
              case measure => simp [intOf]; omega
          · obtain rfl : i = 256 := by omega
            have hqb := Bs.of_owns how (hmq.lt HAlt.out HBlt.out)
            have hrl : ∀ r ∈ U, r.l.length ≤ 140737488355328 := fun r hr => by
              obtain ⟨h1, h2, h3⟩ := Huo.out r hr
              have := ok_fits h1 h2
              omega
            have hr1 := redo_any block (HA.out.mono hBq) (by have := HAl.out; omega) ((Hrw4.out.rs.mono hbr).mono hbq) (by have := Hn.out; omega) hrl
            rw [Hrq.out A Hmix.out, Hn.out] at hr1
            have Hr1 := hide hr1
            have Hq := hide hqb
            have Hmq := hide hmq
            have Hrl := hide hrl
            clear hr1 hqb hmq hrl how
            go_wp2_with fail
            refine Hr1.out.mono ?_
            rintro e w7 ⟨v7, rfl, ho7, hb7⟩
            have hB7 := hBq.trans (hb7.mono hzq)
            have hz7 := hB7.size
            obtain ⟨a7, c7, rfl⟩ := owns_slice ho7
            have Ho7 := hide ho7
            have hr2 := redo_any block (Hq.out.mono hb7) (by have := Hmq.out.1; omega) (((Hrw4.out.rs.mono hbr).mono hbq).mono hb7) (by have := Hn.out; omega) Hrl.out
            rw [Hrq.out q Hmq.out, Hn.out] at hr2
            have Hr2 := hide hr2
            clear hr2 ho7
            go_wp2_with fail
            refine Hr2.out.mono ?_
            rintro e w8 ⟨v8, rfl, ho8, hb8⟩
            have hB8 := hB7.trans (hb8.mono hz7)
            obtain ⟨a8, c8, rfl⟩ := owns_slice ho8
            have heq1 := equal_any _ _ _ _ _ ((Bs.of_owns Ho7.out HBlt.out).mono hb8) (HB.out.mono hB8)
            have heq2 := equal_any _ _ _ _ _ (Bs.of_owns ho8 HBlt.out) (HB.out.mono hB8)
            rw [decide_eq_true rfl] at heq1 heq2
            have Heq1 := hide heq1
            have Heq2 := hide heq2
            clear heq1 heq2 ho8
            go_wp2_with fail
            refine Heq1.out.mono ?_
            rintro e w' ⟨rfl, rfl⟩
            go_wp2_with fail
            refine Heq2.out.mono ?_
            rintro e w' ⟨rfl, rfl⟩
            go_wp2_with fail
            go_ret
            exact ⟨rfl, hB8⟩

theorem back_any {w : World} {va vb vm : Value} {A B M : List Nat} (block : Int) (hA : Bs w va A) (hB : Bs w vb B) (hM : Bs w vm M) (hml : M.length ≤ 140737488355328) :
    Calls Try.prog 6 #[.int .i64 block, va, vb, vm] w fun e w' => e = .returned (.bool true) ∧ Below w.heap.size w w' := by
  by_cases h : (0 ≤ block ∧ block < 2048) ∧ A.length = 256 ∧ B.length = 256
  · obtain ⟨aa, ac, rfl, -⟩ := id hA
    obtain ⟨ba, bc, rfl, -⟩ := id hB
    obtain ⟨ma, mc, rfl, -⟩ := id hM
    obtain ⟨hb, h1, h2⟩ := h
    rw [h1] at hA ⊢
    rw [h2] at hB ⊢
    exact back_yes block hA hB hM hml hb
  · exact back_no block hA hB hM h

theorem replayBack_lifted (os : Os) (started : os.Started) (H : Type) (enc : TypeId × Value → H) :
    ReturnsInHanded {} Try.checked os 6 .any (Rows.replayBackSpec.pre6 enc Try.prog Try.f6 Rows.replayBackRow.domain false) (Rows.replayBackSpec.post enc Try.prog Try.f6 false true false false) := by
  refine law_frame (C := Try.checked) rfl Try.own started (by kernel_rfl) Try.func6
    (ChangeSpec.witness6 (enc := enc) (C := Try.checked) false ⟨#[], #[.int .i64 0, .slice none 0 0, .slice none 0 0, .slice none 0 0], []⟩ 8 (by kernel_rfl) (by kernel_rfl) (by kernel_rfl) (by kernel_rfl))
    Try.laidOut ?_ 4 rfl Try.underlying4 ?_ ?_
  · rw [Try.params6]
    intro t ht
    simp at ht
    rcases ht with rfl | rfl <;> exact ⟨by kernel_rfl, of_decide_eq_true (by kernel_rfl)⟩
  · intro ds hn
    rw [Try.params6] at hn
    match ds, hn with
    | [d1, d2, d3, d4], _ => rfl
  · intro W base args ds p hval0 hA hsz
    have hval : ∀ (j : Nat) t v, Try.f6.params[j]? = some t → args[j]? = some v → Value.okWide Try.prog W .any base t v := hval0
    rw [Try.params6] at hA hsz hval
    obtain ⟨v0, vs0, d0, ds0, p0, q0, hargs, rfl, rfl, h0, r0⟩ := trodAll_cons hA
    obtain ⟨v1, vs1, d1, ds1, p1, q1, rfl, rfl, rfl, h1, r1⟩ := trodAll_cons r0
    obtain ⟨v2, vs2, d2, ds2, p2, q2, rfl, rfl, rfl, h2, r2⟩ := trodAll_cons r1
    obtain ⟨v3, vs3, d3, ds3, p3, q3, rfl, rfl, rfl, h3, r3⟩ := trodAll_cons r2
    obtain ⟨rfl, rfl, rfl⟩ := trodAll_nil r3
    obtain rfl : args = #[v0, v1, v2, v3] := by cases args; simp_all
    obtain ⟨a0, rfl, rfl, rfl, w0⟩ := open_int Try.underlying3 (hval 0 3 v0 rfl rfl) h0
    have hb0 := bounds_i64 w0
    obtain ⟨l1, hbs1, hl1⟩ := Bs.came Try.underlying37 Try.underlying5 (by kernel_rfl) (hval 1 37 v1 rfl rfl) h1
    have hlen1 := came_len hsz (j := 1) (t := 37) rfl rfl Try.underlying37 (by kernel_rfl) hl1
    obtain ⟨l2, hbs2, hl2⟩ := Bs.came Try.underlying37 Try.underlying5 (by kernel_rfl) (hval 2 37 v2 rfl rfl) h2
    have hlen2 := came_len hsz (j := 2) (t := 37) rfl rfl Try.underlying37 (by kernel_rfl) hl2
    obtain ⟨l3, hbs3, hl3⟩ := Bs.came Try.underlying37 Try.underlying5 (by kernel_rfl) (hval 3 37 v3 rfl rfl) h3
    have hlen3 := came_len hsz (j := 3) (t := 37) rfl rfl Try.underlying37 (by kernel_rfl) hl3
    exact back_any a0 hbs1 hbs2 hbs3 (by omega)

theorem replayBack_holds : Rows.ReplayBackSaid :=
  OpenClaim.holds_of_wide 6 Try.f6 rfl rfl rfl rfl rfl rfl rfl ⟨rfl, rfl, rfl, rfl, rfl⟩ rfl rfl rfl rfl rfl (by kernel_rfl) Try.func6 (by kernel_rfl)
    (of_decide_eq_true (by kernel_rfl)) (by unfold Func.isWrapper; first | (rw [if_pos (by decide +kernel)]; kernel_rfl) | (rw [if_neg (by decide +kernel)]; exact ⟨rfl, rfl⟩))
    (fun os started H enc _ => replayBack_lifted os started H enc)
#print axioms replayBack_holds
end Go.Proofs.Ytgdlbfoihpdlhaa
