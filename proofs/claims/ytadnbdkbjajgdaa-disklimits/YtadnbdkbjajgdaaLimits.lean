/- The walk of DiskLimits. -/
import Derived.Test.YtadnbdkbjajgdaaLim
namespace Go.Proofs.Ytadnbdkbjajgdaa
open Go.RowKit Go.Sort

set_option maxHeartbeats 8000000 in
set_option maxRecDepth 100000 in
theorem limits_walk (limit : Int) (bo : Option Addr) (lb cb : Nat) (xss : Nat → List Int) (h1 : -9223372036854775808 ≤ limit) (h2 : limit ≤ 9223372036854775807) (w : World) (hz : Bx w bo lb cb xss) :
    Calls Try.prog 8 #[.int .i64 limit, .slice bo lb cb] w fun e w' => e = .returned (.bool true) ∧ Below w.heap.size w w' := by
  have hwi := within_eq limit 0 200 h1 h2 (by omega) (by omega) (by omega) w
  obtain ⟨hr1, hr2⟩ := wfun_rng limit 0 200 (by omega)
  generalize wfun limit 0 200 = r at hwi hr1 hr2
  obtain ⟨N, rfl⟩ : ∃ N : Nat, r = (N : Int) := ⟨r.toNat, by omega⟩
  have e1 : Hid ((⟨N, [], 0, false⟩ : Dm).create ⟨#[97]⟩ = (⟨N, [⟨nA, [], 0⟩], 0, false⟩, 0)) := LD_start N
  have e2 : Hid ((⟨N, [⟨nA, [], 0⟩], 0, false⟩ : Dm).create ⟨#[98]⟩ = (LD N [] [], 0)) := LD_start2 N
  have hl0 : (⟨N, [], 0, false⟩ : Dm).files.length ≤ 1000000 := by simp
  have hl1 : (⟨N, [⟨nA, [], 0⟩], 0, false⟩ : Dm).files.length ≤ 1000000 := by simp
  have hs1 : (⟨#[97]⟩ : ByteArray).size ≤ 9223372036854775807 := by decide
  have hs2 : (⟨#[98]⟩ : ByteArray).size ≤ 9223372036854775807 := by decide
  have hzc := hz.le
  have hzt := hz.top
  unfold maxLen at hzt
  go_enter Try.func8, Try.ntmps8
  go_wp2_with (first
    | (go_at_call 15; with_reducible refine hwi.mono ?_; rintro e w0 ⟨rfl, rfl⟩)
    | (go_at_call 9; with_reducible refine (new_l N N rfl (by omega) w).mono ?_; rintro e w1 ⟨rfl, d1, b1⟩)
    | (go_at_call 17; with_reducible refine (create_l d1 ⟨#[97]⟩ _ 0 e1.out hl0 hs1).mono ?_; rintro e w2 ⟨rfl, d2, b2⟩; have c2 := b1.trans b2)
    | (go_at_call 17; with_reducible refine (create_l d2 ⟨#[98]⟩ _ 0 e2.out hl1 hs2).mono ?_; rintro e w3 ⟨rfl, d3, b3⟩; have c3 := c2.trans b3))
  go_loopw [8, 9] (fun u i wr => ∃ (k U : Nat) (da db : List Int), i = .int .i64 k ∧ u = .int .i64 U ∧ k ≤ 20 ∧ k ≤ lb ∧ Hid (U = da.length + db.length) ∧ U ≤ N ∧ Dl w.heap.size wr w.heap.size (LD N da db) ∧ Below w.heap.size w wr) (fun _ i _ => 20 - (intOf i).toNat)
  case atStart => exact ⟨0, 0, [], [], rfl, rfl, by omega, by omega, rfl, by omega, d3, c3⟩
  case round =>
    obtain ⟨k, U, da, db, rfl, rfl, hk20, hklb, hU, hUN, dr, br⟩ := hrel
    by_cases hlt : k < lb ∧ k < 20
    · obtain ⟨zb, zo, rfl, hzcell⟩ := hz.head (by omega)
      obtain ⟨eo, el, ec, cz, tz⟩ := hzcell k hlt.1
      have cz := cell_later br cz
      have hq1 : (k : Int) < (lb : Int) := by omega
      have hq2 : (k : Int) < 20 := by omega
      have hxl := tz.len_eq
      clear hzcell
      obtain ⟨X, hX⟩ : ∃ X, Hid (X = (xss k).take 40) := ⟨_, rfl⟩
      have hXl : X.length ≤ 40 := by rw [hX.out]; simp; omega
      have hkc := kcut_any eo el ec 40 40 rfl (xss k) w tz (by omega) wr
      rw [← hX.out] at hkc
      have hbe : Below wr.heap.size wr (wr.alloc (.cells #[.string ⟨#[97]⟩, .string ⟨#[98]⟩] 9)) := (Below.refl _ _).alloc (Nat.le_refl _) _
      by_cases hp : k % 2 = 0
      · have p1 : (k : Int) % 2 = 0 := by omega
        by_cases hf : X.length + U ≤ N
        · clear hp
          have ea : Hid ((LD N da db).append ⟨#[97]⟩ X = (LD N (da ++ X) db, 0)) := LD_app_a N da db X (by have := hU.out; omega)
          have eu : Hid (used (LD N (da ++ X) db).files = U + X.length) := by show _ = _; rw [LD_used]; have := hU.out; (try rw [List.length_append]); omega
          have hX2 : ((U : Int) + (X.length : Int) ≤ (N : Int)) := by omega
          have hXi : X.length ≤ 40 := hXl
          go_wp2_with (first
            | (go_at_call 16; with_reducible refine hkc.mono ?_; rintro e wx ⟨le, rfl, hle, tX, rfl⟩; have hlx := tX.len_eq; subst hlx)
            | (go_at_call 18; with_reducible refine (append_l dr ⟨#[97]⟩ eo X.length ec X _ hbe (tX.later (br.trans (hbe.mono br.size))) (fun ad h1 h2 => .inl (tX.low ad h1 h2)) (by omega) _ 0 ea.out (by rw [LD_len]; omega)).mono ?_; rintro e w4 ⟨rfl, d4, b4⟩; have c4 := br.trans b4)
            | (go_at_call 24; with_reducible refine (used_l d4 _ eu.out (by rw [LD_len]; omega)).mono ?_; rintro e w5 ⟨rfl, d5, b5⟩; have c5 := c4.trans (b5.mono d4.size)))
          go_roundw
          case rel => exact ⟨k + 1, U + X.length, da ++ X, db, by go_num, by go_num, by omega, by omega, by show _ = _; rw [List.length_append]; have := hU.out; omega, by omega, d5, c5⟩
          case measure => simp [intOf]; omega
        · clear hp
          have ea : Hid ((LD N da db).append ⟨#[97]⟩ X = (LD N da db, 13)) := LD_full_a N da db X (by have := hU.out; omega)
          have eu : Hid (used (LD N da db).files = U) := by show _ = _; rw [LD_used]; have := hU.out; (try rw [List.length_append]); omega
          have hX2 : ¬ ((U : Int) + (X.length : Int) ≤ (N : Int)) := by omega
          have hXi : X.length ≤ 40 := hXl
          go_wp2_with (first
            | (go_at_call 16; with_reducible refine hkc.mono ?_; rintro e wx ⟨le, rfl, hle, tX, rfl⟩; have hlx := tX.len_eq; subst hlx)
            | (go_at_call 18; with_reducible refine (append_l dr ⟨#[97]⟩ eo X.length ec X _ hbe (tX.later (br.trans (hbe.mono br.size))) (fun ad h1 h2 => .inl (tX.low ad h1 h2)) (by omega) _ 13 ea.out (by rw [LD_len]; omega)).mono ?_; rintro e w4 ⟨rfl, d4, b4⟩; have c4 := br.trans b4)
            | (go_at_call 24; with_reducible refine (used_l d4 _ eu.out (by rw [LD_len]; omega)).mono ?_; rintro e w5 ⟨rfl, d5, b5⟩; have c5 := c4.trans (b5.mono d4.size)))
          go_roundw
          case rel => exact ⟨k + 1, U, da, db, by go_num, by go_num, by omega, by omega, by exact hU, by omega, d5, c5⟩
          case measure => simp [intOf]; omega
      · have p1 : (k : Int) % 2 = 1 := by omega
        by_cases hf : X.length + U ≤ N
        · clear hp
          have ea : Hid ((LD N da db).append ⟨#[98]⟩ X = (LD N da (db ++ X), 0)) := LD_app_b N da db X (by have := hU.out; omega)
          have eu : Hid (used (LD N da (db ++ X)).files = U + X.length) := by show _ = _; rw [LD_used]; have := hU.out; (try rw [List.length_append]); omega
          have hX2 : ((U : Int) + (X.length : Int) ≤ (N : Int)) := by omega
          have hXi : X.length ≤ 40 := hXl
          go_wp2_with (first
            | (go_at_call 16; with_reducible refine hkc.mono ?_; rintro e wx ⟨le, rfl, hle, tX, rfl⟩; have hlx := tX.len_eq; subst hlx)
            | (go_at_call 18; with_reducible refine (append_l dr ⟨#[98]⟩ eo X.length ec X _ hbe (tX.later (br.trans (hbe.mono br.size))) (fun ad h1 h2 => .inl (tX.low ad h1 h2)) (by omega) _ 0 ea.out (by rw [LD_len]; omega)).mono ?_; rintro e w4 ⟨rfl, d4, b4⟩; have c4 := br.trans b4)
            | (go_at_call 24; with_reducible refine (used_l d4 _ eu.out (by rw [LD_len]; omega)).mono ?_; rintro e w5 ⟨rfl, d5, b5⟩; have c5 := c4.trans (b5.mono d4.size)))
          go_roundw
          case rel => exact ⟨k + 1, U + X.length, da, db ++ X, by go_num, by go_num, by omega, by omega, by show _ = _; rw [List.length_append]; have := hU.out; omega, by omega, d5, c5⟩
          case measure => simp [intOf]; omega
        · clear hp
          have ea : Hid ((LD N da db).append ⟨#[98]⟩ X = (LD N da db, 13)) := LD_full_b N da db X (by have := hU.out; omega)
          have eu : Hid (used (LD N da db).files = U) := by show _ = _; rw [LD_used]; have := hU.out; (try rw [List.length_append]); omega
          have hX2 : ¬ ((U : Int) + (X.length : Int) ≤ (N : Int)) := by omega
          have hXi : X.length ≤ 40 := hXl
          go_wp2_with (first
            | (go_at_call 16; with_reducible refine hkc.mono ?_; rintro e wx ⟨le, rfl, hle, tX, rfl⟩; have hlx := tX.len_eq; subst hlx)
            | (go_at_call 18; with_reducible refine (append_l dr ⟨#[98]⟩ eo X.length ec X _ hbe (tX.later (br.trans (hbe.mono br.size))) (fun ad h1 h2 => .inl (tX.low ad h1 h2)) (by omega) _ 13 ea.out (by rw [LD_len]; omega)).mono ?_; rintro e w4 ⟨rfl, d4, b4⟩; have c4 := br.trans b4)
            | (go_at_call 24; with_reducible refine (used_l d4 _ eu.out (by rw [LD_len]; omega)).mono ?_; rintro e w5 ⟨rfl, d5, b5⟩; have c5 := c4.trans (b5.mono d4.size)))
          go_roundw
          case rel => exact ⟨k + 1, U, da, db, by go_num, by go_num, by omega, by omega, by exact hU, by omega, d5, c5⟩
          case measure => simp [intOf]; omega
    · have r1 : Hid (rd (LD N da db).files ⟨#[97]⟩ = da) := rd_some (LD_get_a N da db)
      have r2 : Hid ((get (LD N da db).files ⟨#[97]⟩).isSome = true) := by show _ = _; rw [show (⟨#[97]⟩ : ByteArray) = nA from rfl, LD_get_a]; rfl
      obtain ⟨Q, hQ⟩ : ∃ Q, Hid (Q = db.length) := ⟨_, rfl⟩
      have hQ2 : Hid (U = da.length + Q) := by show _ = _; rw [hQ.out]; exact hU.out
      have hQ3 : Q ≤ 200 := by have := hQ2.out; omega
      have f1 : Hid ((LD N da db).create ⟨#[97]⟩ = (LD N [] db, 0)) := LD_create N da db
      have f2 : Hid (used (LD N [] db).files = Q) := by show _ = _; rw [LD_used, hQ.out]; simp
      have f3 : Hid ((LD N [] db).grow ((Q : Int) - 1) = (LD N [] db, false)) := by have := LD_grow_no N [] db; simp only [List.length_nil, Nat.zero_add] at this; rw [hQ.out]; exact this
      have f4 : Hid ((LD N [] db).grow (Q : Int) = (LD Q [] db, true)) := by have := LD_grow N [] db (by simp; have := hQ.out; omega); simp only [List.length_nil, Nat.zero_add] at this; rw [hQ.out]; exact this
      have f5 : Hid ((LD Q [] db).append ⟨#[97]⟩ [1] = (LD Q [] db, 13)) := LD_full_a Q [] db [1] (by have := hQ.out; simp; omega)
      have f6 : Hid ((LD Q [] db).cut ⟨#[98]⟩ 0 = (LD Q [] [], 0)) := LD_cut Q [] db
      have f7 : Hid (used (LD Q [] []).files = 0) := by show _ = _; rw [LD_used]; rfl
      have hap := fun wz (h : Dl w.heap.size wz w.heap.size (LD Q [] db)) => append_l h ⟨#[97]⟩ (some ⟨wz.heap.size, 0, none⟩) 1 1 [1] _ ((Below.refl _ _).alloc (Nat.le_refl _) _) (tx_lit wz #[.int .u8 1] (0, 0) [1] 1 rfl rfl (by omega) (by simp)) (fun ad ha _ => by cases ha; exact .inr (Nat.le_refl _)) (by omega) _ 13 f5.out (by rw [LD_len]; omega)
      have hq : (k : Int) < (lb : Int) → ¬ (k : Int) < 20 := by omega
      clear hz
      go_wp2_with (first
        | (go_at_call 22; with_reducible refine (read_l dr ⟨#[97]⟩ da true r1.out r2.out (by rw [LD_len]; omega)).mono ?_; rintro e w4 ⟨xo, lx, cx, rfl, t4, d4, b4⟩; have c4 := br.trans (b4.mono dr.size); have hlx := t4.len_eq; have hlxU : lx ≤ U := (by have := hQ2.out; omega); have hlx2 : (U : Int) - (lx : Int) = (Q : Int) := (by have := hQ2.out; omega); clear hlx)
        | (go_at_call 17; with_reducible refine (create_l d4 ⟨#[97]⟩ _ 0 f1.out (by rw [LD_len]; omega) hs1).mono ?_; rintro e w5 ⟨rfl, d5, b5⟩; have c5 := c4.trans b5)
        | (go_at_call 24; with_reducible refine (used_l d5 Q f2.out (by rw [LD_len]; omega)).mono ?_; rintro e w6 ⟨rfl, d6, b6⟩; have c6 := c5.trans (b6.mono d5.size))
        | (go_at_call 24; with_reducible refine (used_l d6 Q f2.out (by rw [LD_len]; omega)).mono ?_; rintro e w7 ⟨rfl, d7, b7⟩; have c7 := c6.trans (b7.mono d6.size))
        | (go_at_call 30; with_reducible refine (grow_l d7 ((Q : Int) - 1) _ false f3.out (by rw [LD_len]; omega) (by omega) (by omega)).mono ?_; rintro e w8 ⟨rfl, d8, b8⟩; have c8 := c7.trans b8)
        | (go_at_call 24; with_reducible refine (used_l d8 Q f2.out (by rw [LD_len]; omega)).mono ?_; rintro e w9 ⟨rfl, d9, b9⟩; have c9 := c8.trans (b9.mono d8.size))
        | (go_at_call 30; with_reducible refine (grow_l d9 (Q : Int) _ true f4.out (by rw [LD_len]; omega) (by omega) (by omega)).mono ?_; rintro e w10 ⟨rfl, d10, b10⟩; have c10 := c9.trans b10; have hap2 := hap w10 d10; clear hap)
        | (go_at_call 18; with_reducible refine hap2.mono ?_; rintro e w11 ⟨rfl, d11, b11⟩; have c11 := c10.trans b11)
        | (go_at_call 26; with_reducible refine (cut_l d11 ⟨#[98]⟩ 0 _ 0 f6.out (by rw [LD_len]; omega) (by omega) (by omega)).mono ?_; rintro e w12 ⟨rfl, d12, b12⟩; have c12 := c11.trans b12)
        | (go_at_call 24; with_reducible refine (used_l d12 0 f7.out (by rw [LD_len]; omega)).mono ?_; rintro e w13 ⟨rfl, d13, b13⟩; have c13 := c12.trans (b13.mono d12.size))
        | (go_at_call 14; with_reducible refine (known_any w13).mono ?_; rintro e w14 ⟨rfl, b14⟩))
      all_goals go_ret
      all_goals exact ⟨rfl, c13.trans (b14.mono c13.size)⟩

    end Go.Proofs.Ytadnbdkbjajgdaa
