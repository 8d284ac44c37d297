/- The walk of the document's Fits. -/
import Derived.Test.YteeemfohehpaeaaBWalksC
import Derived.Test.YteeemfohehpaeaaPB
namespace Go.Proofs.Yteeemfohehpaeaa
set_option maxRecDepth 100000
open Go.RowKit Go.Sort

theorem lastK_at (l : List Ent) (q : Nat) (e : Ent) (h : l[q]? = some e) : lastK [] (l.take (q + 1)) = e.k := by rw [take_snoc l q e h, lastK_snoc]
theorem fit_step {l : List Ent} {k : Nat} {e : Ent} (hx : l[k]? = some e) (hf : fitB 0 0 [] (l.take k) = true) (hlong : k % 4 = 0 → (bodyL 0 [] (l.take k)).length ≤ 65535) : fitB 0 0 [] (l.take (k + 1)) = true := by
  rw [take_snoc l k e hx, fitB_snoc, len_take hx, Nat.zero_add, Nat.zero_add, hf]; simp only [Bool.true_and, decide_eq_true_eq]; exact hlong
theorem body_step {l : List Ent} {k : Nat} {e : Ent} (hx : l[k]? = some e) : (bodyL 0 [] (l.take (k + 1))).length = (bodyL 0 [] (l.take k)).length + (2 + (e.k.length - shared (pre k (lastK [] (l.take k))) e.k) + (if e.g = true then 1 else 3 + e.v.length)) := by
  rw [take_snoc l k e hx, bodyL_snoc, len_take hx, Nat.zero_add, List.length_append, encB_length]

set_option maxHeartbeats 4000000 in
theorem rfits_any (ao : Option Addr) (len cap : Nat) (l : List Ent) (w : World) (h : Lx 3 RE w ao len cap l) (hm : mayB 255 l = true) :
    Calls Try.prog 33 #[.slice ao len cap] w fun e w' => e = .returned (.bool (fitB 0 0 [] l)) ∧ Below w.heap.size w w' := by
  have hl := h.len_eq
  obtain ⟨y1, y2, y3⟩ := (mayB_iff 255 l).1 hm
  have y4 : Hid (∀ e ∈ l, fitsE e = true) := okL_fits l [] y3
  have y3 : Hid (okL [] l = true) := y3
  obtain ⟨b, off, rfl, hc⟩ := h.headE (by omega)
  clear hm
  go_enter Try.func33, Try.ntmps33
  go_wp2
  go_loopw [3, 4, 5] (fun s i _ wr => ∃ (k n : Nat), k ≤ len ∧ i = .int .i64 k ∧ s = .int .i64 n ∧ Hid ((bodyL 0 [] (l.take k)).length = n) ∧ Hid (fitB 0 0 [] (l.take k) = true) ∧ Below w.heap.size w wr) (fun _ i _ _ => len - (intOf i).toNat)
  case atStart => exact ⟨0, 0, by omega, rfl, rfl, rfl, rfl, Below.refl _ _⟩
  case round =>
    obtain ⟨k, n, hk, rfl, rfl, hn, hf, hb⟩ := hrel
    have hn9 : n ≤ 1200000 := by have := body_small l k y3.out y2; have := hn.out; omega
    by_cases hk2 : k < len
    · have hx : l[k]? = some (l[k]'(by omega)) := by simp
      obtain ⟨ko, kl, kc, vo, vl, vc, c0, c1, c2, tk, tv⟩ := hc k _ hx
      have hfe := y4.out (l[k]'(by omega)) (List.getElem_mem _)
      have hbs := body_step hx
      generalize l[k]'(by omega) = e at hx c2 tk tv hfe hbs
      have hX : Hid (l[k]? = some e) := hx
      clear hx
      obtain ⟨f1, f2, f3⟩ := (fitsE_iff e).1 hfe
      rw [tk.len_eq] at f1 f2
      rw [tv.len_eq] at f3
      rw [hn.out, tk.len_eq, tv.len_eq] at hbs
      obtain ⟨G, hG⟩ : ∃ G, Hid (e.g = G) := ⟨_, rfl⟩
      rw [hG.out] at c2 f3 hbs
      have hbs : Hid ((bodyL 0 [] (l.take (k + 1))).length = n + (2 + (kl - shared (pre k (lastK [] (l.take k))) e.k) + (if G = true then 1 else 3 + vl))) := hbs
      have c0' := cell_later hb c0
      have c1' := cell_later hb c1
      have c2' := cell_later hb c2
      by_cases h4 : k % 4 = 0
      · have t4 : (k : Int).tmod 4 = 0 := by rw [Int.tmod_eq_emod_of_nonneg (by omega)]; omega
        by_cases hlong : 65535 < n
        · have hno : Hid (fitB 0 0 [] l = false) := brel_long hX.out h4 (by rw [hn.out]; exact hlong)
          go_wp2
          go_ret
          exact ⟨ret_bool hno.out.symm, hb⟩
        · have hyes : Hid (fitB 0 0 [] (l.take (k + 1)) = true) := fit_step hX.out hf.out (fun _ => by rw [hn.out]; omega)
          have hsh : shared (pre k (lastK [] (l.take k))) e.k = 0 := by rw [pre, if_pos h4, shared_nil]
          rw [hsh] at hbs
          cases G with
          | true =>
            have hb2 : Hid ((bodyL 0 [] (l.take (k + 1))).length = n + 3 + kl) := by show _ = _; rw [hbs.out]; simp; omega
            clear hbs hsh
            go_wp2
            go_roundw
            case rel => exact ⟨k + 1, n + 3 + kl, by omega, by go_num, by go_num, hb2, hyes, hb⟩
            case measure => simp [intOf]; omega
          | false =>
            have hv : vl ≤ 4095 := by simpa using f3
            have hb2 : Hid ((bodyL 0 [] (l.take (k + 1))).length = n + 3 + kl + 2 + vl) := by show _ = _; rw [hbs.out]; simp; omega
            clear hbs hsh
            go_wp2
            go_roundw
            case rel => exact ⟨k + 1, n + 3 + kl + 2 + vl, by omega, by go_num, by go_num, hb2, hyes, hb⟩
            case measure => simp [intOf]; omega
      · have t4 : ¬ (k : Int).tmod 4 = 0 := by rw [Int.tmod_eq_emod_of_nonneg (by omega)]; omega
        have t5 : ((k : Int).tmod 4 == 0) = false := by simp [t4]
        have t6 : ((k : Int).tmod 4 != 0) = true := by simp [t4]
        obtain ⟨q, rfl⟩ : ∃ q, k = q + 1 := ⟨k - 1, by omega⟩
        have hy : l[q]? = some (l[q]'(by omega)) := by simp
        obtain ⟨jo, jl, jc, uo, ul, uc, d0, d1, d2, tj, tu⟩ := hc q _ hy
        have hfj := y4.out (l[q]'(by omega)) (List.getElem_mem _)
        have hjl := ((fitsE_iff _).1 hfj).2.1
        rw [tj.len_eq] at hjl
        have hpre : pre (q + 1) (lastK [] (l.take (q + 1))) = (l[q]'(by omega)).k := by rw [pre, if_neg h4, lastK_at l q _ hy]
        rw [hpre] at hbs
        have hyes : Hid (fitB 0 0 [] (l.take (q + 1 + 1)) = true) := fit_step hX.out hf.out (fun hh => absurd hh h4)
        have d0' := cell_later hb d0
        have c0r := fun d os => cell_regrown c0' d os
        have d0r := fun d os => cell_regrown d0' d os
        have hsha := fun d os => refshared_any jo ko jl jc kl kc (l[q]'(by omega)).k e.k _ ((tj.later hb).later (below_regrown wr d os)) ((tk.later hb).later (below_regrown wr d os)) (by omega) (by omega)
        have hsl := (shared_le (l[q]'(by omega)).k e.k).2
        rw [tk.len_eq] at hsl
        have ei : ((q + 1 : Nat) : Int) - 1 = q := by omega
        clear hpre tj tu hfj d1 d2 hy
        generalize shared (l[q]'(by omega)).k e.k = s at hbs hsha hsl
        clear tk tv
        go_wp2_with fail
        refine wp_region_quiet_below (by kernel_rfl) (by kernel_rfl) ?_
        repeat (go_big_quiet_step ((go_at_call 27; with_reducible exact Calls.regrown_of (hsha _ _))))
        (with_reducible refine wpQuiet_nil ?_)
        intro _ hw'
        obtain ⟨⟨dq, osq⟩, hw''⟩ := hw'
        subst hw''
        have hbq := hb.trans ((below_regrown wr dq osq).mono hb.size)
        have e0 := cell_regrown c0' dq osq
        have e1 := cell_regrown c1' dq osq
        have e2 := cell_regrown c2' dq osq
        clear c0r d0r hsha
        generalize grow (redrawn wr dq) osq = V at hbq e0 e1 e2 ⊢
        have hcast : (n : Int) + 3 + (kl : Int) - (s : Int) = ((n + 3 + (kl - s) : Nat) : Int) := by omega
        cases G with
        | true =>
          have hb2 : Hid ((bodyL 0 [] (l.take (q + 1 + 1))).length = n + 3 + (kl - s)) := by show _ = _; rw [hbs.out]; simp; omega
          clear hbs
          go_wp2
          go_roundw
          case rel => exact ⟨q + 1 + 1, n + 3 + (kl - s), by omega, by go_num, by first | rfl | go_num, hb2, hyes, hbq⟩
          case measure => simp [intOf]; omega
        | false =>
          have hv : vl ≤ 4095 := by simpa using f3
          have hb2 : Hid ((bodyL 0 [] (l.take (q + 1 + 1))).length = n + 3 + (kl - s) + 2 + vl) := by show _ = _; rw [hbs.out]; simp; omega
          clear hbs
          go_wp2
          go_roundw
          case rel => exact ⟨q + 1 + 1, n + 3 + (kl - s) + 2 + vl, by omega, by go_num, by first | rfl | go_num, hb2, hyes, hbq⟩
          case measure => simp [intOf]; omega
    · have hfin : Hid (fitB 0 0 [] l = true) := by
        show _ = _
        have := hf.out
        rwa [List.take_of_length_le (by omega)] at this
      go_wp2
      go_ret
      exact ⟨ret_bool hfin.out.symm, hb⟩

end Go.Proofs.Yteeemfohehpaeaa
