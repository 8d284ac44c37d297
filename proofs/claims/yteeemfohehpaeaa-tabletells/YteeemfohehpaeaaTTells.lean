/- The walk of TableTells. -/
import Derived.Test.YteeemfohehpaeaaTWb
import Derived.Test.YteeemfohehpaeaaTRanges
import Derived.Test.YteeemfohehpaeaaTBuildG
import Derived.Test.YteeemfohehpaeaaBTells
namespace Go.Proofs.Yteeemfohehpaeaa
set_option maxRecDepth 100000
open Go.RowKit Go.Sort

set_option maxHeartbeats 16000000 in
theorem ttells_walk (ao : Option Addr) (la ca : Nat) (l : List Ent) (fo : Option Addr) (fl fc : Nat) (fs : List Int) (to : Option Addr) (tl tc : Nat) (ts : List Int) (bo : Option Addr) (lb cb : Nat) (bs : List Int) (at_ turn : Int) (a1 : -9223372036854775808 ≤ at_) (a2 : at_ ≤ 9223372036854775807) (_u1 : 0 ≤ turn) (_u2 : turn ≤ 255) (w : World) (hl : Lx 3 RE w ao la ca l) (hf : Tx w fo fl fc fs) (ht : Tx w to tl tc ts) (hx : Tx w bo lb cb bs) :
    Calls Try.prog 6 #[.slice ao la ca, .slice fo fl fc, .slice to tl tc, .slice bo lb cb, .int .i64 at_, .int .u8 turn] w fun e w' => e = .returned (.bool true) ∧ Below w.heap.size w w' := by
  have hD := drawn_of 40 8 12 (by omega) (by omega) (by omega) l
  have hkp := keep_any ao la ca l 40 8 12 40 8 12 rfl rfl rfl (by omega) (by omega) (by omega) w hl
  have hri := fun (bo : Option Addr) (lb cb : Nat) (W : World) (h : Lx 3 RE W bo lb cb (keepL 40 8 12 l)) => rise_any bo lb cb _ W h (by have h1 := h.len_eq; simp only [keepL, List.length_map, List.length_take] at h1; omega)
  have hkp6 := fun (W : World) (hW : Below w.heap.size w W) => keep_any ao la ca l 6 8 12 6 8 12 rfl rfl rfl (by omega) (by omega) (by omega) W (hl.later RE.stable hW)
  have hkeys6 := keep_keys 6 8 12 l (by omega)
  generalize riseL (keepL 40 8 12 l) = m at hD hri
  generalize keepL 40 8 12 l = kp at hkp hri
  generalize keepL 6 8 12 l = kp6 at hkp6 hkeys6
  go_enter Try.func6, Try.ntmps6
  go_wp2_with (first
    | (go_at_call 14; with_reducible refine hkp.mono ?_; rintro e W1 ⟨o1, l1, c1, rfl, x1, b1⟩; clear hkp; have hri1 := hri o1 l1 c1 W1 x1))
  with_reducible refine hri1.mono ?_
  rintro e W2 ⟨mo, ml, mc, rfl, x2, b2⟩
  clear hri1 hri
  have B2 := below_tr2 b1 b2
  have hml := x2.len_eq
  have hm30 := hD.len
  have hc1 := cut_at fo fl fc 9 9 fs W2 rfl (hf.later B2) (by omega)
  go_wp2_with fail
  with_reducible refine hc1.mono ?_
  rintro e V1 ⟨l3, rfl, hl3, t3, rfl⟩
  clear hc1
  have hc2 := cut_at to tl tc 9 9 ts _ rfl (ht.later B2) (by omega)
  go_wp2_with fail
  with_reducible refine hc2.mono ?_
  rintro e V2 ⟨l4, rfl, hl4, t4, rfl⟩
  clear hc2
  have hc3 := cut_at bo lb cb 60 60 bs _ rfl (hx.later B2) (by omega)
  go_wp2_with fail
  with_reducible refine hc3.mono ?_
  rintro e V3 ⟨l5, rfl, hl5, t5, rfl⟩
  clear hc3
  generalize fs.take 9 = FS at t3
  generalize ts.take 9 = TS at t4
  generalize bs.take 60 = BS at t5
  have hop1 := opens_any bo l5 cb BS fo l3 fc FS to l4 tc TS W2 t5 t3 t4 (by omega) (by omega) (by omega)
  go_wp2_with fail
  with_reducible refine hop1.mono ?_
  clear hop1 t5
  rintro e W3 ⟨rfl, b3⟩
  have B3 := below_tr2 B2 b3
  have hk6 := hkp6 W3 B3
  go_wp2_with fail
  with_reducible refine hk6.mono ?_
  clear hk6 hkp6
  rintro e W4 ⟨o6, l6, c6, rfl, x4, b4⟩
  have B4 := below_tr2 B3 b4
  have hb6 := tbuild_any o6 l6 c6 kp6 W4 x4 (fun e he => by have := hkeys6 e he; omega)
  go_wp2_with fail
  with_reducible refine hb6.mono ?_
  clear hb6 hkeys6
  rintro e W5 (⟨hmay, uo, ul, uc, rfl, _, b5⟩ | ⟨hmay, rfl, b5⟩)
  all_goals
    have B5 := below_tr2 B4 b5
    have hmr := rmayT_any o6 l6 c6 kp6 W5 (x4.later RE.stable b5)
    rw [hmay] at hmr
    have x5 := ((x2.later RE.stable b3).later RE.stable b4).later RE.stable b5
    have t35 := ((t3.later b3).later b4).later b5
    have t45 := ((t4.later b3).later b4).later b5
    clear b1 b2 b3 b4 b5 B2 B3 B4 x2 x4 x1 t3 t4 hmay
    go_wp2_with fail
    with_reducible refine hmr.mono ?_
    clear hmr
    rintro e W6 ⟨rfl, b6⟩
    have B6 := below_tr2 B5 b6
    have x6 := x5.later RE.stable b6
    have t36 := t35.later b6
    have t46 := t45.later b6
    clear B5 b6 x5 t35 t45
    by_cases h0 : ml = 0
    · subst h0
      go_wp2_with fail
      with_reducible refine (tknown_any W6).mono ?_
      rintro e W7 ⟨rfl, b7⟩
      go_wp2
      go_ret
      exact ⟨rfl, below_tr2 B6 b7⟩
    · have h0b : ((ml : Int) == 0) = false := by simp [h0]
      have hm1 : 1 ≤ m.length := by omega
      have hmt := hD.mayT (by omega) hm1
      have hbd := tbuildG_any mo ml mc m W6 x6 hD.keys
      have htl := hD.table (by omega)
      have htne : 0 < (tableL m).length := by have h := hD.open (by omega) hm1; cases ht : tableL m with | nil => rw [ht] at h; cases h | cons a r => simp
      go_wp2_with fail
      with_reducible refine hbd.mono ?_
      clear hbd
      rintro e W7 (⟨_, xo, xl, xc, rfl, gX, b7⟩ | ⟨hmay, _, _⟩)
      rotate_left
      · rw [hmt] at hmay; cases hmay
      have tX := gX.tx
      have hxl := tX.len_eq
      have B7 := below_tr2 B6 b7
      have x7 := x6.later RE.stable b7
      have t37 := t36.later b7
      have t47 := t46.later b7
      clear x6
      obtain ⟨eb, eof, rfl, hc⟩ := x7.headE (by omega)
      obtain ⟨q1, q2⟩ := wfun_rng at_ 0 ((ml : Int) - 1) (by omega)
      obtain ⟨Q, hQ⟩ : ∃ Q : Nat, Hid (wfun at_ 0 ((ml : Int) - 1) = (Q : Int)) := ⟨(wfun at_ 0 ((ml : Int) - 1)).toNat, by show _ = _; omega⟩
      have hwC : ∀ (W : World), Below W7.heap.size W7 W → Calls Try.prog 16 #[.int .i64 at_, .int .i64 0, .int .i64 ((ml : Int) - 1)] W fun e W' => e = .returned (.int .i64 (Q : Int)) ∧ Below W7.heap.size W7 W' := fun W hW => by
        refine (within_eq at_ 0 ((ml : Int) - 1) a1 a2 (by omega) (by omega) (by omega) W).mono ?_
        rintro e W' ⟨rfl, rfl⟩
        exact ⟨by rw [hQ.out], hW⟩
      rw [hQ.out] at q1 q2
      have hy : m[Q]? = some (m[Q]'(by omega)) := by simp
      obtain ⟨jo, jl, jc, uo', ul', uc', d0, _, _, tj, _⟩ := hc Q _ hy
      have hsm := hD.small _ (List.getElem_mem (l := m) (n := Q) (by omega))
      generalize (m[Q]'(by omega)).k = jk at tj hsm
      rw [tj.len_eq] at hsm
      have hQl : Q < ml := by omega
      have hQn : ((Q : Nat) : Int) < (ml : Nat) := by omega
      have hd0 : ∀ (W : World), Below W7.heap.size W7 W → W.cell? ⟨eb, eof + Q * 3, none⟩ = some (.slice jo jl jc) := fun W hW => cell_later hW d0
      have hbC : ∀ (W : World), Below W7.heap.size W7 W → Calls Try.prog 18 #[.slice (some ⟨eb, eof, none⟩) ml mc] W fun e W' => ∃ qo lq cq, e = .returned (.slice qo lq cq) ∧ (convert 23 9 (.slice qo lq cq)).run Try.prog W' = .ok (.string (strOfNums (tableL m))) W' ∧ (convert 23 9 (.slice xo xl xc)).run Try.prog W' = .ok (.string (strOfNums (tableL m))) W' ∧ Below W7.heap.size W7 W' := fun W hW => by
        refine (rtbuild_any _ ml mc m W (x7.later RE.stable hW) hmt).mono ?_
        rintro e W' ⟨qo, lq, cq, rfl, g', b'⟩
        have B' := hW.trans (b'.mono hW.size)
        exact ⟨qo, lq, cq, rfl, g'.string, (tX.later B').string, B'⟩
      have hoC : ∀ (W : World), Below W7.heap.size W7 W → Calls Try.prog 19 #[.slice xo xl xc, .slice fo l3 fc, .slice to l4 tc] W fun e W' => e = .returned (.bool true) ∧ Below W7.heap.size W7 W' := fun W hW => by
        refine (opens_any xo xl xc _ fo l3 fc FS to l4 tc TS W (tX.later hW) (t37.later hW) (t47.later hW) (by omega) (by omega) (by omega)).mono ?_
        rintro e W' ⟨rfl, b'⟩
        exact ⟨rfl, hW.trans (b'.mono hW.size)⟩
      have hpC : ∀ (W : World), Below W7.heap.size W7 W → Calls Try.prog 19 #[.slice xo xl xc, .slice jo jl jc, .slice to l4 tc] W fun e W' => e = .returned (.bool true) ∧ Below W7.heap.size W7 W' := fun W hW => by
        refine (opens_any xo xl xc _ jo jl jc jk to l4 tc TS W (tX.later hW) (tj.later hW) (t47.later hW) (by omega) (by omega) (by omega)).mono ?_
        rintro e W' ⟨rfl, b'⟩
        exact ⟨rfl, hW.trans (b'.mono hW.size)⟩
      have hsx : ∀ (W : World), Below W7.heap.size W7 W → (convert 23 9 (.slice xo xl xc)).run Try.prog W = .ok (.string (strOfNums (tableL m))) W := fun W hW => (tX.later hW).string
      have hrng := tX.rng
      have hgl := gX.len
      generalize tableL m = xs at gX tX hxl htl htne hbC hoC hpC hsx hrng hgl
      generalize strOfNums xs = SX at hbC hsx
      have hwr : IntKind.i64.wrap ((ml : Int) - 1) = (ml : Int) - 1 := by rw [IntKind.wrap_i64]; omega
      have s0 := hsx W7.drew ((Below.refl _ _).drew)
      have d1 := hd0 W7.drew ((Below.refl _ _).drew)
      clear hc hy d0 hsm tj hD
      go_wp2_with fail
      go_region_held (fun w' => Below W7.heap.size W7 w') (first | assumption | exact (Below.refl _ _).drew) (first
        | (go_at_call 18; with_reducible refine (hbC _ ?_).mono ?_; (assumption); rintro e1 W8 ⟨qo, lq, cq, rfl, s1, s2, C1⟩)
        | (go_at_call 19; with_reducible refine (hoC _ ?_).mono ?_; (assumption); rintro e1 W9 ⟨rfl, C2⟩)
        | (go_at_call 16; with_reducible refine (hwC _ ?_).mono ?_; (assumption); rintro e1 W10 ⟨rfl, C3⟩; have d3 := hd0 W10 C3)
        | (go_at_call 19; with_reducible refine (hpC _ ?_).mono ?_; (assumption); rintro e1 W11 ⟨rfl, C4⟩))
      all_goals
        try simp only [List.getElem_toArray, List.getElem_cons_succ, List.getElem_cons_zero, List.setIfInBounds_toArray, List.set_cons_zero, List.set_cons_succ]
        clear hbC hoC hpC hwC hsx hd0 d1 d3 s0 hwr
        have hxl9 : xl ≤ 900000000 := by omega
        have hwr2 : IntKind.i64.wrap ((xl : Int) - 1) = (xl : Int) - 1 := by rw [IntKind.wrap_i64]; omega
        obtain ⟨g, rfl, hgB, hgl', hcx, hzx, hsx'⟩ := (gX.later C4).at (by omega)
        obtain ⟨r1, r2⟩ := wfun_rng at_ 0 ((xl : Int) - 1) (by omega)
        obtain ⟨R, hR⟩ : ∃ R : Nat, Hid (wfun at_ 0 ((xl : Int) - 1) = (R : Int)) := ⟨(wfun at_ 0 ((xl : Int) - 1)).toNat, by show _ = _; omega⟩
        have hwi := within_eq at_ 0 ((xl : Int) - 1) a1 a2 (by omega) (by omega) (by omega) W11
        rw [hR.out] at hwi r1 r2
        have cR := hcx R (by omega)
        generalize xs.getD R 0 = xr at cR
        have zR := hzx R
        have hRl : R < xl := by omega
        have gY := hsx' R _ (xor_byte xr turn)
        have bY := (b7.trans (C4.mono b7.size)).setCell (p := ⟨g, R, none⟩) hgB (.int .u8 (bits .xor .u8 xr turn))
        have hRn : ((R : Nat) : Int) < (xl : Nat) := by omega
        clear hcx hzx hsx' hgl hxl htne hrng
        go_wp2_with (go_at_call 16; with_reducible refine hwi.mono ?_; rintro e v ⟨rfl, rfl⟩)
        have tY := gY.tx
        clear gY gX tX hwi cR zR hR r1 r2 C1 C2 C3
        generalize xs.set R (bits .xor .u8 xr turn) = ys at tY
        generalize World.setCell _ ⟨g, R, none⟩ (.int .u8 (bits .xor .u8 xr turn)) = W12 at bY tY ⊢
        have hop2 := opens_any _ xl xc ys fo l3 fc FS to l4 tc TS W12 tY (t36.later bY) (t46.later bY) (by omega) (by omega) (by omega)
        go_wp2_with fail
        with_reducible refine hop2.mono ?_
        clear hop2
        rintro e W13 ⟨rfl, b13⟩
        go_wp2_with fail
        with_reducible refine (tknown_any W13).mono ?_
        rintro e W14 ⟨rfl, b14⟩
        go_wp2
        go_ret
        exact ⟨rfl, below_tr2 (below_tr2 (below_tr2 B6 bY) b13) b14⟩
end Go.Proofs.Yteeemfohehpaeaa
