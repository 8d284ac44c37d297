/- The walk of the statements' own 'tells'. -/
import Derived.Test.YtjajpnlhdbcnkaaMPut
namespace Go.Proofs.Ytjajpnlhdbcnkaa
set_option maxRecDepth 100000
open Go.RowKit Go.Sort

set_option maxHeartbeats 16000000 in
theorem tells_any (mb : Nat) (S : List Nat) (es : List Ent) (n : Nat) (lo : Option Addr) (lc : Nat) (fo : Option Addr) (fl fc : Nat) (fs : List Int) (to : Option Addr) (tl tc : Nat) (ts : List Int) (w : World) (h : Mm w mb S es) (hh : Held n es) (sm : n ≤ 900000) (hl : Lx 3 RE w lo es.length lc es) (tf : Tx w fo fl fc fs) (tt : Tx w to tl tc ts) (sf : fl ≤ 900000000) (st : tl ≤ 900000000) :
    Calls Try.prog 10 #[.pointer (some ⟨mb, 0, none⟩), .slice lo es.length lc, .slice fo fl fc, .slice to tl tc] w fun e w' => e = .returned (.bool true) ∧ Below w.heap.size w w' := by
  have hes := hh.len
  have hbl : ∀ i, bytesL (es.take i) ≤ 1000000 * 4350 := fun i => by
    have h1 := bytesL_le (es.take i) 4350 (fun e he => small_of hh e (List.mem_of_mem_take he))
    rw [List.length_take] at h1
    have h2 : min i es.length * 4350 ≤ 1000000 * 4350 := Nat.mul_le_mul_right _ (by omega)
    omega
  go_enter Try.func10, Try.ntmps10
  go_wp2
  go_loopw [9, 10] (fun s9 s10 wr => ∃ (i z : Nat), i ≤ es.length ∧ s10 = .int .i64 i ∧ s9 = .int .i64 z ∧ Hid (z = bytesL (es.take i)) ∧ z ≤ 4350000000 ∧ Below w.heap.size w wr) (fun _ s10 _ => es.length - (intOf s10).toNat)
  case atStart => exact ⟨0, 0, by omega, rfl, rfl, rfl, by omega, Below.refl _ _⟩
  case round =>
    obtain ⟨i, z, hi, rfl, rfl, hz, hz9, hb⟩ := hrel
    by_cases hi2 : i < es.length
    · obtain ⟨g, o, rfl, hc⟩ := hl.headE (by omega)
      have hx : es[i]? = some (es[i]'(by omega)) := by simp
      obtain ⟨ko, kl, kc, vo, vl, vc, q0, q1, q2, tk, tv⟩ := hc _ _ hx
      have hst := bytesL_take es i _ hx
      have hnx := hbl (i + 1)
      generalize es[i]'(by omega) = e at hx q2 tk tv hst
      rw [hst, ← hz.out, tk.len_eq, tv.len_eq] at hnx
      rw [← hz.out, tk.len_eq, tv.len_eq] at hst
      have hst : Hid (bytesL (es.take (i + 1)) = z + (kl + vl)) := hst
      have q0r := fun d os => cell_regrown (cell_later hb q0) d os
      have q1r := fun d os => cell_regrown (cell_later hb q1) d os
      have hkv : IntKind.i64.wrap ((z : Int) + (kl : Int)) = (z : Int) + (kl : Int) := by rw [IntKind.wrap_i64]; omega
      have hzkv : IntKind.i64.wrap ((z : Int) + (kl : Int) + (vl : Int)) = (z : Int) + (kl : Int) + (vl : Int) := by rw [IntKind.wrap_i64]; omega
      have hiI : (i : Int) < es.length := by omega
      clear hx hc q0 q1 q2
      go_wp2_with fail
      refine wp_region_quiet_below (by kernel_rfl) (by kernel_rfl) ?_
      repeat (go_big_quiet_step (fail))
      (with_reducible refine wpQuiet_nil ?_)
      intro _ hw'
      obtain ⟨⟨dq, osq⟩, hw''⟩ := hw'
      subst hw''
      have hb2 := hb.trans ((below_regrown wr dq osq).mono hb.size)
      clear q0r q1r
      generalize grow (redrawn wr dq) osq = V at hb2 ⊢
      go_wp2
      go_roundw
      case rel => exact ⟨i + 1, z + (kl + vl), by omega, by go_num, by go_num, hst.out.symm, by omega, hb2⟩
      case measure => simp [intOf]; omega
    · have him : i = es.length := by omega
      have hiI : ¬ (i : Int) < es.length := by omega
      have htk : es.take i = es := List.take_of_length_le (by omega)
      rw [htk] at hz
      obtain rfl := hz.out
      clear hz htk hbl
      have hg := mget_any mb S es n fo fl fc fs wr (h.later hb) hh (by omega) (tf.later hb) sf
      go_wp2_with fail
      with_reducible refine hg.mono ?_
      clear hg
      generalize hbz : bytesL es = z at hz9 ⊢
      have hbz : Hid (bytesL es = z) := hbz
      rintro e V1 ⟨(⟨en, ko, kl, kc, vo, vl, vc, hsome, rfl, tk, tv⟩ | ⟨hnone, rfl⟩), b1⟩
      · skip
        obtain ⟨GG, hGG⟩ : ∃ GG, Hid (en.g = GG) := ⟨_, rfl⟩
        rw [hGG.out]
        have bA : Below V1.heap.size V1 (V1.alloc (.cells #[.slice ko kl kc, .slice vo vl vc, .bool GG] 27)) := (Below.refl _ _).alloc (Nat.le_refl _) _
        have x1 := Box.new V1 (.slice ko kl kc) (.slice vo vl vc) GG
        have B1 := below_tr2 hb b1
        have B1A := below_tr2 B1 bA
        have tk1 := Tx.later tk bA
        have tv1 := Tx.later tv bA
        have hrg := rget_any lo es.length lc es fo fl fc fs _ (hl.later RE.stable B1A) (tf.later B1A) (by omega)
        go_wp2_with fail
        generalize V1.alloc (.cells #[.slice ko kl kc, .slice vo vl vc, .bool GG] 27) = U1 at bA x1 B1A tk1 tv1 hrg ⊢
        with_reducible refine hrg.mono ?_
        clear hrg
        rintro e V2 ⟨(⟨en2, ko2, kl2, kc2, vo2, vl2, vc2, hs2, rfl, tk2, tv2⟩ | ⟨hn2, rfl⟩), b2⟩
        rotate_left
        · rw [hsome] at hn2; cases hn2
        rw [hsome] at hs2
        cases hs2
        rw [hGG.out]
        have bC : Below V2.heap.size V2 (V2.alloc (.cells #[.slice ko2 kl2 kc2, .slice vo2 vl2 vc2, .bool GG] 27)) := (Below.refl _ _).alloc (Nat.le_refl _) _
        have y1 := Box.new V2 (.slice ko2 kl2 kc2) (.slice vo2 vl2 vc2) GG
        have b2C := below_tr2 b2 bC
        have B2 := below_tr2 B1A b2C
        have x2 := x1.later b2C
        have tk3 := tk1.later b2C
        have tv3 := tv1.later b2C
        have tk4 := Tx.later tk2 bC
        have tv4 := Tx.later tv2 bC
        have hln := mlen_any mb S es (V2.alloc (.cells #[.slice ko2 kl2 kc2, .slice vo2 vl2 vc2, .bool GG] 27)) (h.later B2)
        go_wp2_with fail
        have hsz2 : V2.heap.size < (V2.alloc (.cells #[.slice ko2 kl2 kc2, .slice vo2 vl2 vc2, .bool GG] 27)).heap.size := y1.lt
        generalize V2.alloc (.cells #[.slice ko2 kl2 kc2, .slice vo2 vl2 vc2, .bool GG] 27) = U2 at bC y1 b2C B2 x2 tk3 tv3 tk4 tv4 hln hsz2 ⊢
        with_reducible refine hln.mono ?_
        clear hln
        rintro e U2' ⟨rfl, rfl⟩
        have hby := mbytes_any mb S es n U2 (h.later B2) hh (by omega)
        rw [hbz.out] at hby
        go_wp2_with fail
        with_reducible refine hby.mono ?_
        clear hby
        rintro e U3 ⟨rfl, b3⟩
        have B3 := below_tr2 B2 b3
        have hal := mall_any mb S es n U3 (h.later B3) hh (by omega)
        go_wp2_with fail
        with_reducible refine hal.mono ?_
        clear hal
        rintro e U4 ⟨ao, ac, rfl, ls4, b4⟩
        have B4 := below_tr2 B3 b4
        have hs1 := same8_any ao lo es.length ac es.length lc es es U4 (ls4.weak (_n := 0)).lx (hl.later RE.stable B4) (by omega) (by omega)
        rw [sameL_refl] at hs1
        go_wp2_with fail
        with_reducible refine hs1.mono ?_
        clear hs1 ls4
        rintro e U5 ⟨rfl, b5⟩
        have B5 := below_tr2 B4 b5
        have hrn := mrange_any mb S es n fo fl fc fs to tl tc ts U5 (h.later B5) hh (by omega) (tf.later B5) (tt.later B5) sf st
        go_wp2_with fail
        with_reducible refine hrn.mono ?_
        clear hrn
        rintro e U6 ⟨ro, rl, rc, rfl, ls6, hrl, b6⟩
        replace hrl : Hid (rl = (es.filter (fun e => !delK fs ts e.k)).length) := hrl
        have B6 := below_tr2 B5 b6
        have hrr := rrange_any lo es.length lc es fo fl fc fs to tl tc ts U6 (hl.later RE.stable B6) (tf.later B6) (tt.later B6) (by omega)
        go_wp2_with fail
        with_reducible refine hrr.mono ?_
        clear hrr
        rintro e U7 ⟨qo, ql, qc, rfl, lx7, b7⟩
        have hfl := List.length_filter_le (fun e => !delK fs ts e.k) es
        have hq7 := lx7.len_eq
        have h67 := hrl.out
        have hs2 := same8_any ro qo rl rc ql qc _ _ U7 ((ls6.weak (_n := 0)).lx.later RE.stable b7) lx7 (by omega) (by omega)
        rw [sameL_refl] at hs2
        clear hq7 h67 hfl
        go_wp2_with fail
        with_reducible refine hs2.mono ?_
        clear hs2 ls6 lx7 hrl
        rintro e U8 ⟨rfl, b8⟩
        have b28 := below_tr2 (below_tr2 (below_tr2 (below_tr2 (below_tr2 b3 b4) b5) b6) b7) b8
        have B8 := below_tr2 B2 b28
        obtain ⟨x80, x81, x82⟩ := x2.later b28
        obtain ⟨y80, y81, y82⟩ := y1.later b28
        have s1 := (tk3.later b28).string
        have s2 := (tk4.later b28).string
        have s3 := (tv3.later b28).string
        have s4 := (tv4.later b28).string
        clear tk1 tv1 tk3 tv3 tk4 tv4 x1 y1 x2
        generalize strOfNums en.k = SK at s1 s2
        generalize strOfNums en.v = SV at s3 s4
        go_wp2
        go_ret
        refine ⟨?_, B8⟩
        first | rfl | simp
      · skip
        have bA : Below V1.heap.size V1 (V1.alloc (.cells #[.slice none 0 0, .slice none 0 0, .bool false] 27)) := (Below.refl _ _).alloc (Nat.le_refl _) _
        have x1 := Box.new V1 (.slice none 0 0) (.slice none 0 0) false
        have B1 := below_tr2 hb b1
        have B1A := below_tr2 B1 bA
        have tk1 := Tx.later (Tx.nil V1) bA
        have tv1 := Tx.later (Tx.nil V1) bA
        have hrg := rget_any lo es.length lc es fo fl fc fs _ (hl.later RE.stable B1A) (tf.later B1A) (by omega)
        go_wp2_with fail
        generalize V1.alloc (.cells #[.slice none 0 0, .slice none 0 0, .bool false] 27) = U1 at bA x1 B1A tk1 tv1 hrg ⊢
        with_reducible refine hrg.mono ?_
        clear hrg
        rintro e V2 ⟨(⟨en2, ko2, kl2, kc2, vo2, vl2, vc2, hs2, rfl, tk2, tv2⟩ | ⟨hn2, rfl⟩), b2⟩
        · rw [hnone] at hs2; cases hs2
        have bC : Below V2.heap.size V2 (V2.alloc (.cells #[.slice none 0 0, .slice none 0 0, .bool false] 27)) := (Below.refl _ _).alloc (Nat.le_refl _) _
        have y1 := Box.new V2 (.slice none 0 0) (.slice none 0 0) false
        have b2C := below_tr2 b2 bC
        have B2 := below_tr2 B1A b2C
        have x2 := x1.later b2C
        have tk3 := tk1.later b2C
        have tv3 := tv1.later b2C
        have tk4 := Tx.later (Tx.nil V2) bC
        have tv4 := Tx.later (Tx.nil V2) bC
        have hln := mlen_any mb S es (V2.alloc (.cells #[.slice none 0 0, .slice none 0 0, .bool false] 27)) (h.later B2)
        go_wp2_with fail
        have hsz2 : V2.heap.size < (V2.alloc (.cells #[.slice none 0 0, .slice none 0 0, .bool false] 27)).heap.size := y1.lt
        generalize V2.alloc (.cells #[.slice none 0 0, .slice none 0 0, .bool false] 27) = U2 at bC y1 b2C B2 x2 tk3 tv3 tk4 tv4 hln hsz2 ⊢
        with_reducible refine hln.mono ?_
        clear hln
        rintro e U2' ⟨rfl, rfl⟩
        have hby := mbytes_any mb S es n U2 (h.later B2) hh (by omega)
        rw [hbz.out] at hby
        go_wp2_with fail
        with_reducible refine hby.mono ?_
        clear hby
        rintro e U3 ⟨rfl, b3⟩
        have B3 := below_tr2 B2 b3
        have hal := mall_any mb S es n U3 (h.later B3) hh (by omega)
        go_wp2_with fail
        with_reducible refine hal.mono ?_
        clear hal
        rintro e U4 ⟨ao, ac, rfl, ls4, b4⟩
        have B4 := below_tr2 B3 b4
        have hs1 := same8_any ao lo es.length ac es.length lc es es U4 (ls4.weak (_n := 0)).lx (hl.later RE.stable B4) (by omega) (by omega)
        rw [sameL_refl] at hs1
        go_wp2_with fail
        with_reducible refine hs1.mono ?_
        clear hs1 ls4
        rintro e U5 ⟨rfl, b5⟩
        have B5 := below_tr2 B4 b5
        have hrn := mrange_any mb S es n fo fl fc fs to tl tc ts U5 (h.later B5) hh (by omega) (tf.later B5) (tt.later B5) sf st
        go_wp2_with fail
        with_reducible refine hrn.mono ?_
        clear hrn
        rintro e U6 ⟨ro, rl, rc, rfl, ls6, hrl, b6⟩
        replace hrl : Hid (rl = (es.filter (fun e => !delK fs ts e.k)).length) := hrl
        have B6 := below_tr2 B5 b6
        have hrr := rrange_any lo es.length lc es fo fl fc fs to tl tc ts U6 (hl.later RE.stable B6) (tf.later B6) (tt.later B6) (by omega)
        go_wp2_with fail
        with_reducible refine hrr.mono ?_
        clear hrr
        rintro e U7 ⟨qo, ql, qc, rfl, lx7, b7⟩
        have hfl := List.length_filter_le (fun e => !delK fs ts e.k) es
        have hq7 := lx7.len_eq
        have h67 := hrl.out
        have hs2 := same8_any ro qo rl rc ql qc _ _ U7 ((ls6.weak (_n := 0)).lx.later RE.stable b7) lx7 (by omega) (by omega)
        rw [sameL_refl] at hs2
        clear hq7 h67 hfl
        go_wp2_with fail
        with_reducible refine hs2.mono ?_
        clear hs2 ls6 lx7 hrl
        rintro e U8 ⟨rfl, b8⟩
        have b28 := below_tr2 (below_tr2 (below_tr2 (below_tr2 (below_tr2 b3 b4) b5) b6) b7) b8
        have B8 := below_tr2 B2 b28
        obtain ⟨x80, x81, x82⟩ := x2.later b28
        obtain ⟨y80, y81, y82⟩ := y1.later b28
        have s1 := (tk3.later b28).string
        have s2 := (tk4.later b28).string
        have s3 := (tv3.later b28).string
        have s4 := (tv4.later b28).string
        clear tk1 tv1 tk3 tv3 tk4 tv4 x1 y1 x2
        skip
        go_wp2
        go_ret
        refine ⟨?_, B8⟩
        first | rfl | simp
end Go.Proofs.Ytjajpnlhdbcnkaa
