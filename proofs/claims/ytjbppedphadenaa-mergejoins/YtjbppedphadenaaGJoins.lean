/- The walk of MergeJoins. -/
import Derived.Test.YtjbppedphadenaaGTells
namespace Go.Proofs.Ytjbppedphadenaa
set_option maxRecDepth 100000
open Go.RowKit Go.Sort

/-- Where the rows are parted. -/
theorem cut_rng (cut : Int) (n : Nat) (hn : n ≤ 1000) : ∃ k : Nat, k ≤ n ∧ (Int.tmod cut ((n : Int) + 1) + (n : Int) + 1).tmod ((n : Int) + 1) = (k : Int) ∧ -((n : Int) + 1) < Int.tmod cut ((n : Int) + 1) ∧ Int.tmod cut ((n : Int) + 1) < (n : Int) + 1 := by
  have h1 := tmod_rng cut ((n : Int) + 1) (by omega)
  have h2 := tmod_rng (Int.tmod cut ((n : Int) + 1) + (n : Int) + 1) ((n : Int) + 1) (by omega)
  have h3 : 0 ≤ (Int.tmod cut ((n : Int) + 1) + (n : Int) + 1).tmod ((n : Int) + 1) := Int.tmod_nonneg _ (by omega)
  refine ⟨((Int.tmod cut ((n : Int) + 1) + (n : Int) + 1).tmod ((n : Int) + 1)).toNat, by omega, by omega, by omega, by omega⟩
theorem Lx.dropL {w : World} {b off len cap : Nat} {ls : List (List Ent)} (h : Lx 1 RL w (some ⟨b, off, none⟩) len cap ls) (k : Nat) (hk : k ≤ len) : ∀ lo', (k < cap → lo' = ⟨b, off + k, none⟩) → Lx 1 RL w (some lo') (len - k) (cap - k) (ls.drop k) := fun lo' hlo => by
  have hl := h.len_eq
  have hle := h.le
  refine ⟨by rw [List.length_drop]; omega, by omega, by have := h.top; omega, fun ha => (by cases ha), fun ad ha j x hx => ?_⟩
  have hj := (List.getElem?_eq_some_iff.1 hx).1
  rw [List.length_drop] at hj
  rw [hlo (by omega)] at ha
  cases ha
  obtain ⟨u, h1, h2⟩ := h.cell _ rfl (k + j) x (by simpa using hx)
  refine ⟨u, fun i y hy => ?_, h2⟩
  have := h1 i y hy
  rw [Addr.add_lit] at this ⊢
  rw [show off + k + (j * 1 + i) = off + ((k + j) * 1 + i) by omega]; exact this
theorem same_true {ao bo : Option Addr} {la ca lb cb : Nat} {l m : List Ent} {w : World} (ha : Lx 3 RE w ao la ca l) (hm : Lx 3 RE w bo lb cb m) (sa : la ≤ 1000000) (sb : lb ≤ 1000000) (e : l = m) :
    Calls Try.prog 12 #[.slice ao la ca, .slice bo lb cb] w fun e w' => e = .returned (.bool true) ∧ Below w.heap.size w w' := by
  have := same_any ao bo la ca lb cb l m w ha hm sa sb
  rwa [same_yes e] at this
theorem rright_true {ao : Option Addr} {la ca : Nat} {l : List Ent} {w : World} (ha : Lx 3 RE w ao la ca l) (sa : la ≤ 1000000) (e : RiseP l) :
    Calls Try.prog 16 #[.slice ao la ca] w fun e w' => e = .returned (.bool true) ∧ Below w.heap.size w w' := by
  have := rright_any ao la ca l w ha sa
  rwa [riseB_of e] at this
theorem same_true2 {ao bo : Option Addr} {la ca lb cb : Nat} {l m : List Ent} {w : World} (ha : Lx 3 RE w ao la ca l) (hm : Lx 3 RE w bo lb cb m) (sa : l.length ≤ 1000000) (sb : m.length ≤ 1000000) (e : l = m) :
    Calls Try.prog 12 #[.slice ao la ca, .slice bo lb cb] w fun e w' => e = .returned (.bool true) ∧ Below w.heap.size w w' :=
  same_true ha hm (ha.len_eq ▸ sa) (hm.len_eq ▸ sb) e
theorem rright_true2 {ao : Option Addr} {la ca : Nat} {l : List Ent} {w : World} (ha : Lx 3 RE w ao la ca l) (sa : l.length ≤ 1000000) (e : RiseP l) :
    Calls Try.prog 16 #[.slice ao la ca] w fun e w' => e = .returned (.bool true) ∧ Below w.heap.size w w' :=
  rright_true ha (ha.len_eq ▸ sa) e
theorem join2_any {V : World} {ao bo : Option Addr} {la ca lb cb : Nat} {a b R : List Ent} (ha : Lx 3 RE V ao la ca a) (hb : Lx 3 RE V bo lb cb b) (hj : JIn [a, b]) (hR : joinL [a, b] = R) :
    Calls Try.prog 8 #[.slice (some ⟨V.heap.size, 0, none⟩) 2 2] (V.alloc (.cells #[.slice ao la ca, .slice bo lb cb] 23)) fun x w' => ∃ bo lb cb, x = .returned (.slice bo lb cb) ∧ Lx 3 RE w' bo lb cb R ∧ Below V.heap.size V w' := by
  refine (join_any _ _ _ _ _ (lx_two V ha hb) hj).mono ?_
  rintro x w' ⟨co, lc, cc, rfl, hl, hb'⟩
  exact ⟨co, lc, cc, rfl, by rw [← hR]; exact hl, below_tr2 ((Below.refl V.heap.size V).alloc (Nat.le_refl _) _) hb'⟩
theorem jin_take {r : List (List Ent)} (h : JIn r) (k : Nat) : JIn (r.take k) := ⟨fun l hl => h.rows l (List.mem_of_mem_take hl), by have := h.n; rw [List.length_take]; omega, fun l hl => h.len l (List.mem_of_mem_take hl), fun l hl => h.size l (List.mem_of_mem_take hl)⟩
theorem jin_drop {r : List (List Ent)} (h : JIn r) (k : Nat) : JIn (r.drop k) := ⟨fun l hl => h.rows l (List.mem_of_mem_drop hl), by have := h.n; rw [List.length_drop]; omega, fun l hl => h.len l (List.mem_of_mem_drop hl), fun l hl => h.size l (List.mem_of_mem_drop hl)⟩
theorem small_join {r : List (List Ent)} (hn : r.length ≤ 6) (h : ∀ l ∈ r, RiseP l ∧ l.length ≤ 12 ∧ ∀ e ∈ l, e.k.length ≤ 3 ∧ e.v.length ≤ 6) : (joinL r).length ≤ 72 ∧ ∀ e ∈ joinL r, e.k.length ≤ 1000000000 ∧ e.v.length ≤ 1000000000 := by
  refine ⟨?_, fun e he => ?_⟩
  · have := join_len r 12 (fun l hl => (h l hl).2.1)
    have := Nat.mul_le_mul_right 12 hn
    omega
  · obtain ⟨l, hl, x, hx, rfl⟩ := join_mem _ e he
    have := (h l hl).2.2 x hx
    rw [norm_k]
    have := norm_vlen x
    omega
set_option maxHeartbeats 16000000 in
theorem joins_walk (ao : Option Addr) (la ca : Nat) (ls : List (List Ent)) (cut : Int) (_c1 : -9223372036854775808 ≤ cut) (_c2 : cut ≤ 9223372036854775807) (w : World) (h : Lx 1 RL w ao la ca ls) :
    Calls Try.prog 5 #[.slice ao la ca, .int .i64 cut] w fun e w' => e = .returned (.bool true) ∧ Below w.heap.size w w' := by
  have hrows := rows_any ao la ca ls w h (fun i l _ => by have := keep_length 12 3 6 l; omega)
  have hrl := rowsL_len 6 ls
  have hrr := rowsL_row 6 ls
  have hji := rows_jin ls
  have hjl := rows_join ls
  generalize rowsL 6 ls = r at hrows hrl hrr hji hjl
  clear h
  go_enter Try.func5, Try.ntmps5
  go_wp2_with fail
  with_reducible refine hrows.mono ?_
  clear hrows
  rintro x W1 ⟨ro, rl, rc, rfl, hr, b1⟩
  have hrlen := hr.len_eq
  obtain ⟨k, hk, hk2, hk3, hk4⟩ := cut_rng cut rl (by omega)
  have hall := join_any ro rl rc r W1 hr hji
  by_cases h0 : 0 < rl
  · have h0I : (0 : Int) < rl := by omega
    go_wp2_with fail
    with_reducible refine hall.mono ?_
    clear hall
    rintro x W2 ⟨jo, jl, jc, rfl, hj, b2⟩
    have b12 := below_tr2 b1 b2
    have hr2 := hr.later RL.stable b2
    have hjlen := hj.len_eq
    have hA := small_join (r := r.take k) (by rw [List.length_take]; omega) (fun l hl => hrr l (List.mem_of_mem_take hl))
    have hB := small_join (r := r.drop k) (by rw [List.length_drop]; omega) (fun l hl => hrr l (List.mem_of_mem_drop hl))
    have hC := small_join hrl hrr
    have hjT := jin_take hji k
    have hjD := jin_drop hji k
    have hj2 := jin_two (join_rise (r.take k)) (join_rise (r.drop k)) (by omega) (by omega) hA.2 hB.2
    have hj3 := jin_two (join_rise r) (join_rise r) (by omega) (by omega) hC.2 hC.2
    have hR2 := join_parts r hji.rows k
    have hR3 := join_twice r
    have hrise := join_rise r
    have hC3 : (joinL r).length ≤ 1000000 := by omega
    obtain ⟨b, off, hro, _⟩ := hr2.headL (by omega)
    subst hro
    have hT := hr2.take k hk
    have hcap := hr2.le
    have htop := hr2.top
    unfold maxLen at htop
    by_cases hck : k = rc
    · subst hck
      have hkI : (k : Int) ≤ rl := by omega
      have hkC : (k : Int) ≤ k := by omega
      have hD := hr2.dropL k hk ⟨b, off, none⟩ (fun h => by omega)
      rw [Nat.sub_self, show rl - k = 0 by omega] at hD
      have b0 : Below W2.heap.size W2 W2.drew := (Below.refl _ _).drew
      have hal : ∀ (W : World) (o : Obj), Below W2.heap.size W2 W → Below W2.heap.size W2 (W.alloc o) := fun W o h => h.alloc h.size _
      have hjAll : ∀ W, Below W2.heap.size W2 W → Lx 3 RE W jo jl jc (joinL r) := fun W hW => hj.later RE.stable hW
      have callT := fun W (hW : Below W2.heap.size W2 W) => join_any (some ⟨b, off, none⟩) k k (r.take k) W (hT.later RL.stable hW) hjT
      have callD := fun W (hW : Below W2.heap.size W2 W) => join_any (some ⟨b, off, none⟩) 0 0 (r.drop k) W (hD.later RL.stable hW) hjD
      generalize joinL (r.take k) = A at *
      generalize joinL (r.drop k) = B at *
      clear hT hD hjT hjD
      go_wp2_with fail
      go_region_held (fun w' => Below W2.heap.size W2 w') (first | assumption | exact hal _ _ (by assumption))
        (first
        | (go_at_call 8; with_reducible refine (callT _ (by assumption)).mono ?_; rintro e wA ⟨Ao, Al, Ac, rfl, hAx, bA⟩; have BA := below_tr2 (a := W2) (by assumption) bA)
        | (go_at_call 8; with_reducible refine (callD _ (by assumption)).mono ?_; rintro e wB ⟨Bo, Bl, Bc, rfl, hBx, bB⟩; have BB := below_tr2 (a := W2) (by assumption) bB)
        | (go_at_call 8; with_reducible refine (join2_any (hAx.later RE.stable bB) hBx hj2 hR2).mono ?_; rintro e wJ ⟨Jo, Jl, Jc, rfl, hJx, bJ⟩; have BJ := below_tr2 (a := W2) (by assumption) bJ)
        | (go_at_call 8; with_reducible refine (join2_any hAx (hBx.later RE.stable bA) hj2 hR2).mono ?_; rintro e wJ ⟨Jo, Jl, Jc, rfl, hJx, bJ⟩; have BJ := below_tr2 (a := W2) (by assumption) bJ)
        | (go_at_call 12; with_reducible refine (same_true2 hJx (hjAll _ BJ) hC3 hC3 rfl).mono ?_; rintro e wS ⟨rfl, bS⟩; have BS := below_tr2 (a := W2) (by assumption) bS)
        | (go_at_call 16; with_reducible refine (rright_true2 (hjAll _ BS) hC3 hrise).mono ?_; rintro e wR ⟨rfl, bR⟩; have BR := below_tr2 (a := W2) (by assumption) bR)
        | (go_at_call 8; with_reducible refine (join2_any (hjAll _ BR) (hjAll _ BR) hj3 hR3).mono ?_; rintro e wK ⟨Ko, Kl, Kc, rfl, hKx, bK⟩; have BK := below_tr2 (a := W2) (by assumption) bK)
        | (go_at_call 12; with_reducible refine (same_true2 hKx (hjAll _ BK) hC3 hC3 rfl).mono ?_; rintro e wM ⟨rfl, bM⟩; have BM := below_tr2 (a := W2) (by assumption) bM))
      all_goals (
        have bJ6 := BM
        clear callT callD hjAll
        generalize wM = V6 at bJ6 ⊢
        have bR6 := below_tr2 b2 bJ6
        have b0V := below_tr2 b12 bJ6
        have hr6 := hr.later RL.stable bR6
        have hj6 := hj.later RE.stable bJ6
        have hkey := (join_key r hji.rows)
        have hjlen6 := hj6.len_eq
        go_wp2
        go_loopw [8, 9, 10, 11] (fun s8 _ _ _ wr => ∃ i : Nat, i ≤ rl ∧ s8 = .int .i64 i ∧ Below V6.heap.size V6 wr) (fun s8 _ _ _ _ => rl - (intOf s8).toNat)
        case atStart => exact ⟨0, by omega, rfl, Below.refl _ _⟩
        case round =>
          obtain ⟨i, hi, rfl, hb⟩ := hrel
          by_cases hi2 : i < rl
          · have hiI : (i : Int) < rl := by omega
            obtain ⟨rb, roff, hro', hrc⟩ := hr6.headL (by omega)
            have hx : r[i]? = some (r[i]'(by omega)) := by simp
            obtain ⟨eo, el, ec, c0, tl⟩ := hrc i _ hx
            have hmem : r[i]'(by omega) ∈ r := List.getElem_mem (by omega)
            have hlen := (hrr _ hmem).2.1
            generalize r[i]'(by omega) = es at hx c0 tl hmem hlen
            have hel := tl.len_eq
            cases hro'
            obtain ⟨V7, hV7⟩ : ∃ W, W = wr := ⟨_, rfl⟩
            subst hV7
            have c0 := cell_later hb c0
            clear hrc hx
            go_wp2
            go_loopw [9, 10, 11] (fun s9 _ _ wr => ∃ j : Nat, j ≤ el ∧ s9 = .int .i64 j ∧ Below V7.heap.size V7 wr) (fun s9 _ _ _ => el - (intOf s9).toNat)
            case atStart => exact ⟨0, by omega, rfl, Below.refl _ _⟩
            case round =>
              obtain ⟨j, hj1, rfl, hb2⟩ := hrel
              have c0 := cell_later hb2 c0
              by_cases hj2 : j < el
              · have hjI : (j : Int) < el := by omega
                obtain ⟨xb, xoff, hxo, hxc⟩ := tl.headE (by omega)
                cases hxo
                have hy : es[j]? = some (es[j]'(by omega)) := by simp
                obtain ⟨ko, kl, kc, _, _, _, k0, _, _, tk, _⟩ := hxc j _ hy
                have hmem2 : es[j]'(by omega) ∈ es := List.getElem_mem (by omega)
                generalize es[j]'(by omega) = y at hy k0 tk hmem2
                have hin : Hid (((joinL r).any fun e => e.k == y.k) = true) := by
                  obtain ⟨z, hz, e⟩ := (hkey y.k).2 ⟨es, hmem, y, hmem2, rfl⟩
                  exact List.any_eq_true.2 ⟨z, hz, by simp [e]⟩
                have hbb := below_tr2 hb hb2
                have k0 := cell_later hbb k0
                have tk := tk.later hbb
                obtain ⟨V8, hV8⟩ : ∃ W, W = wr := ⟨_, rfl⟩
                subst hV8
                clear hy hxc
                go_wp2
                go_loopw [10, 11] (fun s10 s11 wr => ∃ (n : Nat) (F : Bool), n ≤ jl ∧ s11 = .int .i64 n ∧ s10 = .bool F ∧ Hid (F = ((joinL r).take n).any fun e => e.k == y.k) ∧ Below V8.heap.size V8 wr) (fun _ s11 _ => jl - (intOf s11).toNat)
                case atStart => exact ⟨0, false, by omega, rfl, rfl, by show _ = _; simp, Below.refl _ _⟩
                case round =>
                  obtain ⟨n, F, hn, rfl, rfl, hF, hb3⟩ := hrel
                  by_cases hn2 : n < jl
                  · have hnI : (n : Int) < jl := by omega
                    obtain ⟨ab, aoff, hao, hac⟩ := hj6.headE (by omega)
                    cases hao
                    have hz : (joinL r)[n]? = some ((joinL r)[n]'(by omega)) := by simp
                    obtain ⟨zo, zl, zc, _, _, _, z0, _, _, tz, _⟩ := hac n _ hz
                    have hst := take_snoc (joinL r) n _ hz
                    generalize (joinL r)[n]'(by omega) = z at hz z0 tz hst
                    have hst : Hid ((joinL r).take (n + 1) = (joinL r).take n ++ [z]) := hst
                    have bz := below_tr2 hbb hb3
                    have cz := fun d os => cell_regrown (cell_later bz z0) d os
                    have cr := fun d os => cell_regrown (cell_later hb3 c0) d os
                    have ck := fun d os => cell_regrown (cell_later hb3 k0) d os
                    have sz := fun d os => ((tz.later bz).later (below_regrown wr d os)).string
                    have sk := fun d os => ((tk.later hb3).later (below_regrown wr d os)).string
                    have hne := fun hh => str_ne (xs := z.k) (ys := y.k) tz.rng tk.rng hh
                    have hzr := tz.rng
                    clear hz hac
                    have hnext : ∀ F', F' = (F || (z.k == y.k)) → Hid (F' = ((joinL r).take (n + 1)).any fun e => e.k == y.k) := fun F' h' => by
                      show _ = _
                      rw [hst.out, List.any_append, ← hF.out, h']; simp
                    cases F with
                    | true =>
                      have hN := hnext true (by simp)
                      clear hne hnext
                      generalize strOfNums z.k = SZ at sz
                      generalize strOfNums y.k = SY at sk
                      go_wp2_with fail
                      refine wp_region_quiet_below (by kernel_rfl) (by kernel_rfl) ?_
                      repeat (go_big_quiet_step (fail))
                      (with_reducible refine wpQuiet_nil ?_)
                      intro _ hw'
                      obtain ⟨⟨dq, osq⟩, hw''⟩ := hw'
                      subst hw''
                      have hbq := below_tr2 hb3 (below_regrown wr dq osq)
                      go_wp2
                      go_roundw
                      case rel => exact ⟨n + 1, true, by omega, by go_num, rfl, hN, hbq⟩
                      case measure => simp [intOf]; omega
                    | false =>
                      by_cases hk : z.k = y.k
                      · have hN := hnext true (by simp [hk])
                        clear hne hnext
                        rw [hk] at sz
                        generalize strOfNums y.k = SY at sk sz
                        go_wp2_with fail
                        refine wp_region_quiet_below (by kernel_rfl) (by kernel_rfl) ?_
                        repeat (go_big_quiet_step (fail))
                        (with_reducible refine wpQuiet_nil ?_)
                        intro _ hw'
                        obtain ⟨⟨dq, osq⟩, hw''⟩ := hw'
                        subst hw''
                        have hbq := below_tr2 hb3 (below_regrown wr dq osq)
                        go_wp2
                        go_roundw
                        case rel => exact ⟨n + 1, true, by omega, by go_num, rfl, hN, hbq⟩
                        case measure => simp [intOf]; omega
                      · have hN := hnext false (by simp [hk])
                        have hne := hne hk
                        clear hnext hk
                        generalize strOfNums z.k = SZ at sz hne
                        generalize strOfNums y.k = SY at sk hne
                        go_wp2_with fail
                        refine wp_region_quiet_below (by kernel_rfl) (by kernel_rfl) ?_
                        repeat (go_big_quiet_step (fail))
                        (with_reducible refine wpQuiet_nil ?_)
                        intro _ hw'
                        obtain ⟨⟨dq, osq⟩, hw''⟩ := hw'
                        subst hw''
                        have hbq := below_tr2 hb3 (below_regrown wr dq osq)
                        go_wp2
                        go_roundw
                        case rel => exact ⟨n + 1, false, by omega, by go_num, by simp [hne], hN, hbq⟩
                        case measure => simp [intOf]; omega
                  · have hnI : ¬ (n : Int) < jl := by omega
                    obtain rfl : F = true := by
                      have h1 := hF.out
                      rw [List.take_of_length_le (by omega), hin.out] at h1
                      exact h1
                    have bE := below_tr2 hb2 hb3
                    clear hF
                    go_wp2
                    go_roundw
                    case rel => exact ⟨j + 1, by omega, by go_num, bE⟩
                    case measure => simp [intOf]; omega
              · have hjI : ¬ (j : Int) < el := by omega
                have bE := below_tr2 hb hb2
                go_wp2
                go_roundw
                case rel => exact ⟨i + 1, by omega, by go_num, bE⟩
                case measure => simp [intOf]; omega
          · have hiI : ¬ (i : Int) < rl := by omega
            have hkn := known_any wr
            have bE := below_tr2 b0V hb
            go_wp2_with fail
            with_reducible refine hkn.mono ?_
            clear hkn
            rintro x V10 ⟨rfl, c10⟩
            have bF := below_tr2 bE c10
            go_wp2
            go_ret
            exact ⟨rfl, bF⟩
        )
    · have hck2 : ¬ rc = k := fun e => hck e.symm
      have hkI : (k : Int) ≤ rl := by omega
      have hkC : (k : Int) ≤ rc := by omega
      have hD := hr2.dropL k hk ⟨b, off + k, none⟩ (fun _ => rfl)
      have b0 : Below W2.heap.size W2 W2.drew := (Below.refl _ _).drew
      have hal : ∀ (W : World) (o : Obj), Below W2.heap.size W2 W → Below W2.heap.size W2 (W.alloc o) := fun W o h => h.alloc h.size _
      have hjAll : ∀ W, Below W2.heap.size W2 W → Lx 3 RE W jo jl jc (joinL r) := fun W hW => hj.later RE.stable hW
      have callT := fun W (hW : Below W2.heap.size W2 W) => join_any (some ⟨b, off, none⟩) k rc (r.take k) W (hT.later RL.stable hW) hjT
      have callD := fun W (hW : Below W2.heap.size W2 W) => join_any (some ⟨b, off + k, none⟩) (rl - k) (rc - k) (r.drop k) W (hD.later RL.stable hW) hjD
      generalize joinL (r.take k) = A at *
      generalize joinL (r.drop k) = B at *
      clear hT hD hjT hjD
      go_wp2_with fail
      go_region_held (fun w' => Below W2.heap.size W2 w') (first | assumption | exact hal _ _ (by assumption))
        (first
        | (go_at_call 8; with_reducible refine (callT _ (by assumption)).mono ?_; rintro e wA ⟨Ao, Al, Ac, rfl, hAx, bA⟩; have BA := below_tr2 (a := W2) (by assumption) bA)
        | (go_at_call 8; with_reducible refine (callD _ (by assumption)).mono ?_; rintro e wB ⟨Bo, Bl, Bc, rfl, hBx, bB⟩; have BB := below_tr2 (a := W2) (by assumption) bB)
        | (go_at_call 8; with_reducible refine (join2_any (hAx.later RE.stable bB) hBx hj2 hR2).mono ?_; rintro e wJ ⟨Jo, Jl, Jc, rfl, hJx, bJ⟩; have BJ := below_tr2 (a := W2) (by assumption) bJ)
        | (go_at_call 8; with_reducible refine (join2_any hAx (hBx.later RE.stable bA) hj2 hR2).mono ?_; rintro e wJ ⟨Jo, Jl, Jc, rfl, hJx, bJ⟩; have BJ := below_tr2 (a := W2) (by assumption) bJ)
        | (go_at_call 12; with_reducible refine (same_true2 hJx (hjAll _ BJ) hC3 hC3 rfl).mono ?_; rintro e wS ⟨rfl, bS⟩; have BS := below_tr2 (a := W2) (by assumption) bS)
        | (go_at_call 16; with_reducible refine (rright_true2 (hjAll _ BS) hC3 hrise).mono ?_; rintro e wR ⟨rfl, bR⟩; have BR := below_tr2 (a := W2) (by assumption) bR)
        | (go_at_call 8; with_reducible refine (join2_any (hjAll _ BR) (hjAll _ BR) hj3 hR3).mono ?_; rintro e wK ⟨Ko, Kl, Kc, rfl, hKx, bK⟩; have BK := below_tr2 (a := W2) (by assumption) bK)
        | (go_at_call 12; with_reducible refine (same_true2 hKx (hjAll _ BK) hC3 hC3 rfl).mono ?_; rintro e wM ⟨rfl, bM⟩; have BM := below_tr2 (a := W2) (by assumption) bM))
      all_goals (
        have bJ6 := BM
        clear callT callD hjAll
        generalize wM = V6 at bJ6 ⊢
        have bR6 := below_tr2 b2 bJ6
        have b0V := below_tr2 b12 bJ6
        have hr6 := hr.later RL.stable bR6
        have hj6 := hj.later RE.stable bJ6
        have hkey := (join_key r hji.rows)
        have hjlen6 := hj6.len_eq
        go_wp2
        go_loopw [8, 9, 10, 11] (fun s8 _ _ _ wr => ∃ i : Nat, i ≤ rl ∧ s8 = .int .i64 i ∧ Below V6.heap.size V6 wr) (fun s8 _ _ _ _ => rl - (intOf s8).toNat)
        case atStart => exact ⟨0, by omega, rfl, Below.refl _ _⟩
        case round =>
          obtain ⟨i, hi, rfl, hb⟩ := hrel
          by_cases hi2 : i < rl
          · have hiI : (i : Int) < rl := by omega
            obtain ⟨rb, roff, hro', hrc⟩ := hr6.headL (by omega)
            have hx : r[i]? = some (r[i]'(by omega)) := by simp
            obtain ⟨eo, el, ec, c0, tl⟩ := hrc i _ hx
            have hmem : r[i]'(by omega) ∈ r := List.getElem_mem (by omega)
            have hlen := (hrr _ hmem).2.1
            generalize r[i]'(by omega) = es at hx c0 tl hmem hlen
            have hel := tl.len_eq
            cases hro'
            obtain ⟨V7, hV7⟩ : ∃ W, W = wr := ⟨_, rfl⟩
            subst hV7
            have c0 := cell_later hb c0
            clear hrc hx
            go_wp2
            go_loopw [9, 10, 11] (fun s9 _ _ wr => ∃ j : Nat, j ≤ el ∧ s9 = .int .i64 j ∧ Below V7.heap.size V7 wr) (fun s9 _ _ _ => el - (intOf s9).toNat)
            case atStart => exact ⟨0, by omega, rfl, Below.refl _ _⟩
            case round =>
              obtain ⟨j, hj1, rfl, hb2⟩ := hrel
              have c0 := cell_later hb2 c0
              by_cases hj2 : j < el
              · have hjI : (j : Int) < el := by omega
                obtain ⟨xb, xoff, hxo, hxc⟩ := tl.headE (by omega)
                cases hxo
                have hy : es[j]? = some (es[j]'(by omega)) := by simp
                obtain ⟨ko, kl, kc, _, _, _, k0, _, _, tk, _⟩ := hxc j _ hy
                have hmem2 : es[j]'(by omega) ∈ es := List.getElem_mem (by omega)
                generalize es[j]'(by omega) = y at hy k0 tk hmem2
                have hin : Hid (((joinL r).any fun e => e.k == y.k) = true) := by
                  obtain ⟨z, hz, e⟩ := (hkey y.k).2 ⟨es, hmem, y, hmem2, rfl⟩
                  exact List.any_eq_true.2 ⟨z, hz, by simp [e]⟩
                have hbb := below_tr2 hb hb2
                have k0 := cell_later hbb k0
                have tk := tk.later hbb
                obtain ⟨V8, hV8⟩ : ∃ W, W = wr := ⟨_, rfl⟩
                subst hV8
                clear hy hxc
                go_wp2
                go_loopw [10, 11] (fun s10 s11 wr => ∃ (n : Nat) (F : Bool), n ≤ jl ∧ s11 = .int .i64 n ∧ s10 = .bool F ∧ Hid (F = ((joinL r).take n).any fun e => e.k == y.k) ∧ Below V8.heap.size V8 wr) (fun _ s11 _ => jl - (intOf s11).toNat)
                case atStart => exact ⟨0, false, by omega, rfl, rfl, by show _ = _; simp, Below.refl _ _⟩
                case round =>
                  obtain ⟨n, F, hn, rfl, rfl, hF, hb3⟩ := hrel
                  by_cases hn2 : n < jl
                  · have hnI : (n : Int) < jl := by omega
                    obtain ⟨ab, aoff, hao, hac⟩ := hj6.headE (by omega)
                    cases hao
                    have hz : (joinL r)[n]? = some ((joinL r)[n]'(by omega)) := by simp
                    obtain ⟨zo, zl, zc, _, _, _, z0, _, _, tz, _⟩ := hac n _ hz
                    have hst := take_snoc (joinL r) n _ hz
                    generalize (joinL r)[n]'(by omega) = z at hz z0 tz hst
                    have hst : Hid ((joinL r).take (n + 1) = (joinL r).take n ++ [z]) := hst
                    have bz := below_tr2 hbb hb3
                    have cz := fun d os => cell_regrown (cell_later bz z0) d os
                    have cr := fun d os => cell_regrown (cell_later hb3 c0) d os
                    have ck := fun d os => cell_regrown (cell_later hb3 k0) d os
                    have sz := fun d os => ((tz.later bz).later (below_regrown wr d os)).string
                    have sk := fun d os => ((tk.later hb3).later (below_regrown wr d os)).string
                    have hne := fun hh => str_ne (xs := z.k) (ys := y.k) tz.rng tk.rng hh
                    have hzr := tz.rng
                    clear hz hac
                    have hnext : ∀ F', F' = (F || (z.k == y.k)) → Hid (F' = ((joinL r).take (n + 1)).any fun e => e.k == y.k) := fun F' h' => by
                      show _ = _
                      rw [hst.out, List.any_append, ← hF.out, h']; simp
                    cases F with
                    | true =>
                      have hN := hnext true (by simp)
                      clear hne hnext
                      generalize strOfNums z.k = SZ at sz
                      generalize strOfNums y.k = SY at sk
                      go_wp2_with fail
                      refine wp_region_quiet_below (by kernel_rfl) (by kernel_rfl) ?_
                      repeat (go_big_quiet_step (fail))
                      (with_reducible refine wpQuiet_nil ?_)
                      intro _ hw'
                      obtain ⟨⟨dq, osq⟩, hw''⟩ := hw'
                      subst hw''
                      have hbq := below_tr2 hb3 (below_regrown wr dq osq)
                      go_wp2
                      go_roundw
                      case rel => exact ⟨n + 1, true, by omega, by go_num, rfl, hN, hbq⟩
                      case measure => simp [intOf]; omega
                    | false =>
                      by_cases hk : z.k = y.k
                      · have hN := hnext true (by simp [hk])
                        clear hne hnext
                        rw [hk] at sz
                        generalize strOfNums y.k = SY at sk sz
                        go_wp2_with fail
                        refine wp_region_quiet_below (by kernel_rfl) (by kernel_rfl) ?_
                        repeat (go_big_quiet_step (fail))
                        (with_reducible refine wpQuiet_nil ?_)
                        intro _ hw'
                        obtain ⟨⟨dq, osq⟩, hw''⟩ := hw'
                        subst hw''
                        have hbq := below_tr2 hb3 (below_regrown wr dq osq)
                        go_wp2
                        go_roundw
                        case rel => exact ⟨n + 1, true, by omega, by go_num, rfl, hN, hbq⟩
                        case measure => simp [intOf]; omega
                      · have hN := hnext false (by simp [hk])
                        have hne := hne hk
                        clear hnext hk
                        generalize strOfNums z.k = SZ at sz hne
                        generalize strOfNums y.k = SY at sk hne
                        go_wp2_with fail
                        refine wp_region_quiet_below (by kernel_rfl) (by kernel_rfl) ?_
                        repeat (go_big_quiet_step (fail))
                        (with_reducible refine wpQuiet_nil ?_)
                        intro _ hw'
                        obtain ⟨⟨dq, osq⟩, hw''⟩ := hw'
                        subst hw''
                        have hbq := below_tr2 hb3 (below_regrown wr dq osq)
                        go_wp2
                        go_roundw
                        case rel => exact ⟨n + 1, false, by omega, by go_num, by simp [hne], hN, hbq⟩
                        case measure => simp [intOf]; omega
                  · have hnI : ¬ (n : Int) < jl := by omega
                    obtain rfl : F = true := by
                      have h1 := hF.out
                      rw [List.take_of_length_le (by omega), hin.out] at h1
                      exact h1
                    have bE := below_tr2 hb2 hb3
                    clear hF
                    go_wp2
                    go_roundw
                    case rel => exact ⟨j + 1, by omega, by go_num, bE⟩
                    case measure => simp [intOf]; omega
              · have hjI : ¬ (j : Int) < el := by omega
                have bE := below_tr2 hb hb2
                go_wp2
                go_roundw
                case rel => exact ⟨i + 1, by omega, by go_num, bE⟩
                case measure => simp [intOf]; omega
          · have hiI : ¬ (i : Int) < rl := by omega
            have hkn := known_any wr
            have bE := below_tr2 b0V hb
            go_wp2_with fail
            with_reducible refine hkn.mono ?_
            clear hkn
            rintro x V10 ⟨rfl, c10⟩
            have bF := below_tr2 bE c10
            go_wp2
            go_ret
            exact ⟨rfl, bF⟩
        )
  · obtain rfl : rl = 0 := by omega
    have hr0 : r = [] := List.eq_nil_of_length_eq_zero hrlen
    subst hr0
    cases ro with
    | none =>
      obtain ⟨_, rfl⟩ := hr.bare rfl
      go_wp2_with fail
      with_reducible refine hall.mono ?_
      clear hall
      rintro x W2 ⟨jo, jl, jc, rfl, hj, b2⟩
      have b12 := below_tr2 b1 b2
      have hjlen := hj.len_eq
      have hj0 : joinL [] = [] := rfl
      rw [hj0] at hj hjlen
      have hr2 := hr.later RL.stable b2
      have hji2 : JIn [[], []] := jin_two (by simp) (by simp) (by simp) (by simp) (by simp) (by simp)
      have hR2 : joinL [[], []] = [] := rfl
      have hC3 : ([] : List Ent).length ≤ 1000000 := by simp
      have hrise : RiseP [] := by simp
      have hjl0 : jl = 0 := by simpa using hjlen.symm
      subst hjl0
      have b0 : Below W2.heap.size W2 W2.drew := (Below.refl _ _).drew
      have hal : ∀ (W : World) (o : Obj), Below W2.heap.size W2 W → Below W2.heap.size W2 (W.alloc o) := fun W o h => h.alloc h.size _
      have hjAll : ∀ W, Below W2.heap.size W2 W → Lx 3 RE W jo 0 jc [] := fun W hW => hj.later RE.stable hW
      have callT := fun W (hW : Below W2.heap.size W2 W) => join_any none 0 0 [] W (hr2.later RL.stable hW) hji
      rw [hj0] at callT
      go_wp2_with fail
      go_region_held (fun w' => Below W2.heap.size W2 w') (first | assumption | exact hal _ _ (by assumption))
        (first
        | (go_at_call 8; with_reducible refine (join2_any (hAx.later RE.stable bB) hBx hji2 hR2).mono ?_; rintro e wJ ⟨Jo, Jl, Jc, rfl, hJx, bJ⟩; have BJ := below_tr2 (a := W2) (by assumption) bJ)
        | (go_at_call 8; with_reducible refine (join2_any hAx (hBx.later RE.stable bA) hji2 hR2).mono ?_; rintro e wJ ⟨Jo, Jl, Jc, rfl, hJx, bJ⟩; have BJ := below_tr2 (a := W2) (by assumption) bJ)
        | (go_at_call 8; with_reducible refine (join2_any (hjAll _ BR) (hjAll _ BR) hji2 hR2).mono ?_; rintro e wK ⟨Ko, Kl, Kc, rfl, hKx, bK⟩; have BK := below_tr2 (a := W2) (by assumption) bK)
        | (go_at_call 8; with_reducible refine (callT _ BA).mono ?_; rintro e wB ⟨Bo, Bl, Bc, rfl, hBx, bB⟩; have BB := below_tr2 (a := W2) BA bB)
        | (go_at_call 8; with_reducible refine (callT _ b0).mono ?_; rintro e wA ⟨Ao, Al, Ac, rfl, hAx, bA⟩; have BA := below_tr2 (a := W2) b0 bA)
        | (go_at_call 12; with_reducible refine (same_true2 hKx (hjAll _ BK) hC3 hC3 rfl).mono ?_; rintro e wM ⟨rfl, bM⟩; have BM := below_tr2 (a := W2) (by assumption) bM)
        | (go_at_call 12; with_reducible refine (same_true2 hJx (hjAll _ BJ) hC3 hC3 rfl).mono ?_; rintro e wS ⟨rfl, bS⟩; have BS := below_tr2 (a := W2) (by assumption) bS)
        | (go_at_call 16; with_reducible refine (rright_true2 (hjAll _ BS) hC3 hrise).mono ?_; rintro e wR ⟨rfl, bR⟩; have BR := below_tr2 (a := W2) (by assumption) bR))
      all_goals (
        have bJ6 := BM
        clear callT hjAll
        generalize wM = V6 at bJ6 ⊢
        have b0V := below_tr2 b12 bJ6
        go_wp2
        go_loopw [8, 9, 10, 11] (fun s8 _ _ _ wr => s8 = .int .i64 0 ∧ V6 = wr) (fun _ _ _ _ _ => 0)
        case atStart => exact ⟨rfl, rfl⟩
        case round =>
          obtain ⟨rfl, rfl⟩ := hrel
          have hkn := known_any V6
          go_wp2_with fail
          with_reducible refine hkn.mono ?_
          clear hkn
          rintro x V10 ⟨rfl, c10⟩
          have bF := below_tr2 b0V c10
          go_wp2
          go_ret
          exact ⟨rfl, bF⟩)
    | some a =>
      go_wp2_with fail
      with_reducible refine hall.mono ?_
      clear hall
      rintro x W2 ⟨jo, jl, jc, rfl, hj, b2⟩
      have b12 := below_tr2 b1 b2
      have hjlen := hj.len_eq
      have hj0 : joinL [] = [] := rfl
      rw [hj0] at hj hjlen
      have hr2 := hr.later RL.stable b2
      have hji2 : JIn [[], []] := jin_two (by simp) (by simp) (by simp) (by simp) (by simp) (by simp)
      have hR2 : joinL [[], []] = [] := rfl
      have hC3 : ([] : List Ent).length ≤ 1000000 := by simp
      have hrise : RiseP [] := by simp
      have hjl0 : jl = 0 := by simpa using hjlen.symm
      subst hjl0
      have b0 : Below W2.heap.size W2 W2.drew := (Below.refl _ _).drew
      have hal : ∀ (W : World) (o : Obj), Below W2.heap.size W2 W → Below W2.heap.size W2 (W.alloc o) := fun W o h => h.alloc h.size _
      have hjAll : ∀ W, Below W2.heap.size W2 W → Lx 3 RE W jo 0 jc [] := fun W hW => hj.later RE.stable hW
      have callT := fun W (hW : Below W2.heap.size W2 W) => join_any (some a) 0 rc [] W (hr2.later RL.stable hW) hji
      rw [hj0] at callT
      go_wp2_with fail
      go_region_held (fun w' => Below W2.heap.size W2 w') (first | assumption | exact hal _ _ (by assumption))
        (first
        | (go_at_call 8; with_reducible refine (join2_any (hAx.later RE.stable bB) hBx hji2 hR2).mono ?_; rintro e wJ ⟨Jo, Jl, Jc, rfl, hJx, bJ⟩; have BJ := below_tr2 (a := W2) (by assumption) bJ)
        | (go_at_call 8; with_reducible refine (join2_any hAx (hBx.later RE.stable bA) hji2 hR2).mono ?_; rintro e wJ ⟨Jo, Jl, Jc, rfl, hJx, bJ⟩; have BJ := below_tr2 (a := W2) (by assumption) bJ)
        | (go_at_call 8; with_reducible refine (join2_any (hjAll _ BR) (hjAll _ BR) hji2 hR2).mono ?_; rintro e wK ⟨Ko, Kl, Kc, rfl, hKx, bK⟩; have BK := below_tr2 (a := W2) (by assumption) bK)
        | (go_at_call 8; with_reducible refine (callT _ BA).mono ?_; rintro e wB ⟨Bo, Bl, Bc, rfl, hBx, bB⟩; have BB := below_tr2 (a := W2) BA bB)
        | (go_at_call 8; with_reducible refine (callT _ b0).mono ?_; rintro e wA ⟨Ao, Al, Ac, rfl, hAx, bA⟩; have BA := below_tr2 (a := W2) b0 bA)
        | (go_at_call 12; with_reducible refine (same_true2 hKx (hjAll _ BK) hC3 hC3 rfl).mono ?_; rintro e wM ⟨rfl, bM⟩; have BM := below_tr2 (a := W2) (by assumption) bM)
        | (go_at_call 12; with_reducible refine (same_true2 hJx (hjAll _ BJ) hC3 hC3 rfl).mono ?_; rintro e wS ⟨rfl, bS⟩; have BS := below_tr2 (a := W2) (by assumption) bS)
        | (go_at_call 16; with_reducible refine (rright_true2 (hjAll _ BS) hC3 hrise).mono ?_; rintro e wR ⟨rfl, bR⟩; have BR := below_tr2 (a := W2) (by assumption) bR))
      all_goals (
        have bJ6 := BM
        clear callT hjAll
        generalize wM = V6 at bJ6 ⊢
        have b0V := below_tr2 b12 bJ6
        go_wp2
        go_loopw [8, 9, 10, 11] (fun s8 _ _ _ wr => s8 = .int .i64 0 ∧ V6 = wr) (fun _ _ _ _ _ => 0)
        case atStart => exact ⟨rfl, rfl⟩
        case round =>
          obtain ⟨rfl, rfl⟩ := hrel
          have hkn := known_any V6
          go_wp2_with fail
          with_reducible refine hkn.mono ?_
          clear hkn
          rintro x V10 ⟨rfl, c10⟩
          have bF := below_tr2 b0V c10
          go_wp2
          go_ret
          exact ⟨rfl, bF⟩)
end Go.Proofs.Ytjbppedphadenaa
