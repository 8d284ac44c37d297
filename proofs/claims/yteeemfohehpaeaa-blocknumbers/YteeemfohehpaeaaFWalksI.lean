/- The walks of the document's Same of entries and of marigraphkeep.Lists. -/
import Derived.Test.YteeemfohehpaeaaFWalksH
namespace Go.Proofs.Yteeemfohehpaeaa
set_option maxRecDepth 100000
open Go.RowKit Go.Sort

theorem byte_inj (x y : Int) (hx : 0 ≤ x ∧ x ≤ 255) (hy : 0 ≤ y ∧ y ≤ 255) (h : UInt8.ofNat x.toNat = UInt8.ofNat y.toNat) : x = y := by
  rw [← UInt8.toNat_inj] at h; simp only [UInt8.toNat_ofNat'] at h; omega
theorem nums_inj : ∀ (xs ys : List Int), (∀ n ∈ xs, 0 ≤ n ∧ n ≤ 255) → (∀ n ∈ ys, 0 ≤ n ∧ n ≤ 255) → (xs.map fun n => UInt8.ofNat n.toNat) = (ys.map fun n => UInt8.ofNat n.toNat) → xs = ys
  | [], [], _, _, _ => rfl
  | [], _ :: _, _, _, h => by simp at h
  | _ :: _, [], _, _, h => by simp at h
  | x :: xs, y :: ys, hx, hy, h => by
    simp only [List.map_cons, List.cons.injEq] at h
    rw [byte_inj x y (hx x (by simp)) (hy y (by simp)) h.1, nums_inj xs ys (fun n hn => hx n (by simp [hn])) (fun n hn => hy n (by simp [hn])) h.2]
theorem str_ne {xs ys : List Int} (hx : ∀ n ∈ xs, 0 ≤ n ∧ n ≤ 255) (hy : ∀ n ∈ ys, 0 ≤ n ∧ n ≤ 255) (h : ¬ xs = ys) : ¬ (strOfNums xs).toList = (strOfNums ys).toList := fun e => by
  rw [ByteArray.toList_eq, ByteArray.toList_eq] at e
  simp [strOfNums] at e
  exact h (nums_inj xs ys hx hy (by simpa using e))

theorem sameL_all : ∀ (l m : List Ent), l.length = m.length → (∀ (j : Nat) (a b : Ent), l[j]? = some a → m[j]? = some b → sameE a b = true) → sameL l m = true
  | [], [], _, _ => rfl
  | [], _ :: _, h, _ => by simp at h
  | _ :: _, [], h, _ => by simp at h
  | a :: l, b :: m, h, k => by
    have h1 := k 0 a b rfl rfl
    have h2 := sameL_all l m (by simpa using h) (fun j x y hx hy => k (j + 1) x y (by simpa using hx) (by simpa using hy))
    simp [sameL, h1, h2]
theorem sameL_at {l m : List Ent} {j : Nat} {a b : Ent} (ha : l[j]? = some a) (hb : m[j]? = some b) (h : sameE a b = false) : sameL l m = false := by
  cases hs : sameL l m with
  | false => rfl
  | true =>
    have e := (sameL_iff l m).1 hs
    have e1 : (l.map norm)[j]? = some (norm a) := by simp [ha]
    have e2 : (m.map norm)[j]? = some (norm b) := by simp [hb]
    rw [e, e2] at e1
    have := (sameE_iff a b).2 (Option.some.inj e1).symm
    rw [h] at this; cases this
theorem sameL_len {l m : List Ent} (h : ¬ l.length = m.length) : sameL l m = false := by
  cases hs : sameL l m with
  | false => rfl
  | true => exact absurd (sameL_length l m hs) h

set_option maxHeartbeats 4000000 in
theorem same8_any (ao bo : Option Addr) (la ca lb cb : Nat) (l m : List Ent) (w : World) (ha : Lx 3 RE w ao la ca l) (hm : Lx 3 RE w bo lb cb m) (sa : la ≤ 1000000) (sb : lb ≤ 1000000) :
    Calls Try.prog 24 #[.slice ao la ca, .slice bo lb cb] w fun e w' => e = .returned (.bool (sameL l m)) ∧ Below w.heap.size w w' := by
  have e1 := ha.len_eq
  have e2 := hm.len_eq
  by_cases hlen : la = lb
  · subst hlen
    by_cases h0 : 0 < la
    · obtain ⟨b, off, rfl, hc⟩ := ha.headE h0
      obtain ⟨b', off', rfl, hc'⟩ := hm.headE h0
      go_enter Try.func24, Try.ntmps24
      go_wp2
      go_loopw [5] (fun i wr => ∃ k : Nat, k ≤ la ∧ i = .int .i64 k ∧ Hid (∀ (j : Nat) (x y : Ent), j < k → l[j]? = some x → m[j]? = some y → sameE x y = true) ∧ Below w.heap.size w wr) (fun i _ => la - (intOf i).toNat)
      case atStart => exact ⟨0, by omega, rfl, fun j x y hj => (by omega), Below.refl _ _⟩
      case round =>
        obtain ⟨k, hk, rfl, heq, hb⟩ := hrel
        by_cases hk2 : k < la
        · have hx : l[k]? = some (l[k]'(by omega)) := by simp
          have hy : m[k]? = some (m[k]'(by omega)) := by simp
          obtain ⟨ko, kl, kc, vo, vl, vc, c0, c1, c2, tk, tv⟩ := hc k _ hx
          obtain ⟨ko', kl', kc', vo', vl', vc', d0, d1, d2, tk', tv'⟩ := hc' k _ hy
          generalize l[k]'(by omega) = x at hx c0 c1 c2 tk tv
          generalize m[k]'(by omega) = y at hy d0 d1 d2 tk' tv'
          have hX : Hid (l[k]? = some x) := hx
          have hY : Hid (m[k]? = some y) := hy
          clear hx hy
          have c0 := fun d os => cell_regrown (cell_later hb c0) d os
          have c1 := fun d os => cell_regrown (cell_later hb c1) d os
          have c2 := fun d os => cell_regrown (cell_later hb c2) d os
          have d0 := fun d os => cell_regrown (cell_later hb d0) d os
          have d1 := fun d os => cell_regrown (cell_later hb d1) d os
          have d2 := fun d os => cell_regrown (cell_later hb d2) d os
          have s1 := fun d os => ((tk.later hb).later (below_regrown wr d os)).string
          have s2 := fun d os => ((tk'.later hb).later (below_regrown wr d os)).string
          have s3 := fun d os => ((tv.later hb).later (below_regrown wr d os)).string
          have s4 := fun d os => ((tv'.later hb).later (below_regrown wr d os)).string
          have hdone : sameE x y = true → Hid (∀ (j : Nat) (x y : Ent), j < k + 1 → l[j]? = some x → m[j]? = some y → sameE x y = true) := by
            intro h j x' y' hj hx hy
            by_cases hjk : j = k
            · subst hjk
              rw [hX.out] at hx; rw [hY.out] at hy
              cases hx; cases hy; exact h
            · exact heq j x' y' (by omega) hx hy
          have hno : sameE x y = false → Hid (sameL l m = false) := fun h => sameL_at hX.out hY.out h
          have rk := tk.rng
          have rk' := tk'.rng
          have rv := tv.rng
          have rv' := tv'.rng
          clear tk tk' tv tv' hc hc' ha hm heq
          obtain ⟨xk, xv, xg⟩ := x
          obtain ⟨yk, yv, yg⟩ := y
          simp only at s1 s2 s3 s4 c2 d2 rk rk' rv rv'
          by_cases hkk : xk = yk
          · subst hkk
            generalize strOfNums xk = SK at s1 s2
            by_cases hgg : xg = yg
            · subst hgg
              cases xg with
              | true =>
                have hd := hdone (by simp [sameE])
                clear hdone hno s3 s4
                go_wp2_with fail
                refine wp_region_quiet_below (by kernel_rfl) (by kernel_rfl) ?_
                repeat (go_big_quiet_step (fail))
                (with_reducible refine wpQuiet_nil ?_)
                intro _ hw'
                obtain ⟨⟨dq, osq⟩, hw''⟩ := hw'
                subst hw''
                have hbq := hb.trans ((below_regrown wr dq osq).mono hb.size)
                go_wp2
                go_roundw
                case rel => exact ⟨k + 1, by omega, by go_num, hd, hbq⟩
                case measure => simp [intOf]; omega
              | false =>
                by_cases hvv : xv = yv
                · subst hvv
                  have hd := hdone (by simp [sameE])
                  clear hdone hno
                  generalize strOfNums xv = SV at s3 s4
                  go_wp2_with fail
                  refine wp_region_quiet_below (by kernel_rfl) (by kernel_rfl) ?_
                  repeat (go_big_quiet_step (fail))
                  (with_reducible refine wpQuiet_nil ?_)
                  intro _ hw'
                  obtain ⟨⟨dq, osq⟩, hw''⟩ := hw'
                  subst hw''
                  have hbq := hb.trans ((below_regrown wr dq osq).mono hb.size)
                  go_wp2
                  go_roundw
                  case rel => exact ⟨k + 1, by omega, by go_num, hd, hbq⟩
                  case measure => simp [intOf]; omega
                · have hf := hno (by simp [sameE, hvv])
                  have hne := str_ne rv rv' hvv
                  clear hdone hno
                  generalize strOfNums xv = SV at s3 hne
                  generalize strOfNums yv = SW at s4 hne
                  have hne2 : (SV.toList == SW.toList) = false := by simp [hne]
                  go_wp2_with fail
                  refine wp_region_quiet_below (by kernel_rfl) (by kernel_rfl) ?_
                  repeat (go_big_quiet_step (fail))
                  (with_reducible refine wpQuiet_nil ?_)
                  intro _ hw'
                  obtain ⟨⟨dq, osq⟩, hw''⟩ := hw'
                  subst hw''
                  have hbq := hb.trans ((below_regrown wr dq osq).mono hb.size)
                  go_wp2
                  go_ret
                  exact ⟨ret_bool hf.out.symm, hbq⟩
            · have hf := hno (by simp [sameE, hgg])
              clear hdone hno s3 s4
              cases xg with
              | true =>
                cases yg with
                | true => exact absurd rfl hgg
                | false =>
                  go_wp2_with fail
                  refine wp_region_quiet_below (by kernel_rfl) (by kernel_rfl) ?_
                  repeat (go_big_quiet_step (fail))
                  (with_reducible refine wpQuiet_nil ?_)
                  intro _ hw'
                  obtain ⟨⟨dq, osq⟩, hw''⟩ := hw'
                  subst hw''
                  have hbq := hb.trans ((below_regrown wr dq osq).mono hb.size)
                  go_wp2
                  go_ret
                  exact ⟨ret_bool hf.out.symm, hbq⟩
              | false =>
                cases yg with
                | false => exact absurd rfl hgg
                | true =>
                  go_wp2_with fail
                  refine wp_region_quiet_below (by kernel_rfl) (by kernel_rfl) ?_
                  repeat (go_big_quiet_step (fail))
                  (with_reducible refine wpQuiet_nil ?_)
                  intro _ hw'
                  obtain ⟨⟨dq, osq⟩, hw''⟩ := hw'
                  subst hw''
                  have hbq := hb.trans ((below_regrown wr dq osq).mono hb.size)
                  go_wp2
                  go_ret
                  exact ⟨ret_bool hf.out.symm, hbq⟩
          · have hf := hno (by simp [sameE, hkk])
            have hne := str_ne rk rk' hkk
            clear hdone hno s3 s4
            generalize strOfNums xk = SK at s1 hne
            generalize strOfNums yk = SL at s2 hne
            have hne2 : (SK.toList == SL.toList) = false := by simp [hne]
            go_wp2_with fail
            refine wp_region_quiet_below (by kernel_rfl) (by kernel_rfl) ?_
            repeat (go_big_quiet_step (fail))
            (with_reducible refine wpQuiet_nil ?_)
            intro _ hw'
            obtain ⟨⟨dq, osq⟩, hw''⟩ := hw'
            subst hw''
            have hbq := hb.trans ((below_regrown wr dq osq).mono hb.size)
            go_wp2
            go_ret
            exact ⟨ret_bool hf.out.symm, hbq⟩
        · have hs : Hid (sameL l m = true) := sameL_all l m (by omega) (fun j x y hx hy => heq j x y (by have := (List.getElem?_eq_some_iff.1 hx).1; omega) hx hy)
          go_wp2
          go_ret
          exact ⟨ret_bool hs.out.symm, hb⟩
    · obtain rfl : la = 0 := by omega
      have hl0 : l = [] := List.eq_nil_of_length_eq_zero e1
      have hm0 : m = [] := List.eq_nil_of_length_eq_zero e2
      subst hl0 hm0
      go_enter Try.func24, Try.ntmps24
      go_wp2
      refine wp_loop_rounds 1 ?_
      rw [rounds_succ]
      go_wp2
      go_ret
      exact ⟨rfl, Below.refl _ _⟩
  · have hs : Hid (sameL l m = false) := sameL_len (by omega)
    have hne : ((la : Int) != (lb : Int)) = true := by simp; omega
    go_enter Try.func24, Try.ntmps24
    go_wp2
    go_ret
    exact ⟨ret_bool hs.out.symm, Below.refl _ _⟩

end Go.Proofs.Yteeemfohehpaeaa
