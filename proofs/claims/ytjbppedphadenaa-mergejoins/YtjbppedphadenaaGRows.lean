/- The statements' own rows. -/
import Derived.Test.YtjbppedphadenaaGRise
import Derived.Test.YtjbppedphadenaaMKeep
import Derived.Test.YtjbppedphadenaaMOpenX
namespace Go.Proofs.Ytjbppedphadenaa
set_option maxRecDepth 100000
open Go.RowKit Go.Sort

def rowsL (n : Nat) (ls : List (List Ent)) : List (List Ent) := (ls.take n).map (fun l => riseL (keepL 12 3 6 l))
theorem rows_take {ls : List (List Ent)} {i : Nat} {l : List Ent} (h : ls[i]? = some l) : rowsL (i + 1) ls = rowsL i ls ++ [riseL (keepL 12 3 6 l)] := by
  obtain ⟨hi, rfl⟩ := List.getElem?_eq_some_iff.1 h
  unfold rowsL
  rw [List.take_succ_eq_append_getElem hi, List.map_append]; rfl
theorem Try.info23 : (Try.prog.info? 23).map (fun i => (i.zero, i.size, i.bytes)) = some (some (.slice none 0 0), 1, 24) := by kernel_rfl
theorem hid_eqR {a b : Nat} (h : a = b) : Hid (a = b) := h

set_option maxHeartbeats 4000000 in
theorem rows_any (ao : Option Addr) (la ca : Nat) (ls : List (List Ent)) (w : World) (h : Lx 1 RL w ao la ca ls) (hk : ∀ (i : Nat) (l : List Ent), ls[i]? = some l → (keepL 12 3 6 l).length ≤ 1000) :
    Calls Try.prog 14 #[.slice ao la ca, .int .i64 6] w fun e w' => ∃ bo lb cb, e = .returned (.slice bo lb cb) ∧ Lx 1 RL w' bo lb cb (rowsL 6 ls) ∧ Below w.heap.size w w' := by
  have hl := h.len_eq
  have hle := h.le
  have htop := h.top
  unfold maxLen at htop
  go_enter Try.func14, Try.ntmps14
  go_wp2
  go_loopw [5, 6] (fun s5 s6 wr => ∃ (i m : Nat) (bo : Option Addr) (cb : Nat), i ≤ la ∧ i ≤ 6 ∧ s6 = .int .i64 i ∧ s5 = .slice bo m cb ∧ Hid (m = i) ∧ Ls 23 1 RL wr w.heap.size (.slice bo m cb) (rowsL i ls) ∧ Below w.heap.size w wr) (fun _ s6 _ => la - (intOf s6).toNat)
  case atStart => exact ⟨0, 0, none, 0, by omega, by omega, rfl, rfl, rfl, Ls.nil _ _ _ _ _, Below.refl _ _⟩
  case round =>
    obtain ⟨i, m, bo, cb, hi, hi6, rfl, rfl, hm, hls, hb⟩ := hrel
    have hend : (i = la ∨ i = 6) → rowsL i ls = rowsL 6 ls := fun hh => by
      rcases hh with h1 | h1
      · unfold rowsL; rw [List.take_of_length_le (by omega), List.take_of_length_le (by omega)]
      · rw [h1]
    by_cases hi2 : i < la
    · by_cases hi3 : i < 6
      · obtain ⟨b, off, rfl, hc⟩ := h.headL (by omega)
        have hx : ls[i]? = some (ls[i]'(by omega)) := by simp
        obtain ⟨eo, el, ec, c0, tl⟩ := hc i _ hx
        have hkl := hk i _ hx
        have hst := rows_take hx
        generalize ls[i]'(by omega) = es at hx tl hkl hst
        have hXl : ∀ k ∈ own (.slice bo m cb), k < wr.heap.size := fun k hk => (hls.lt k hk).1
        have hlow := (tl.low (own (.slice bo m cb)) (fun k hk => (hls.lt k hk).2)).later RE.stable hb
        have hkeep := keep_far (own (.slice bo m cb)) eo el ec es 12 3 6 12 3 6 rfl rfl rfl (by omega) (by omega) (by omega) wr (tl.later RE.stable hb) hlow.lx hXl
        have c0 := cell_later hb c0
        have hiI : (i : Int) < la := by omega
        have hi6I : (i : Int) < 6 := by omega
        have hst : Hid (rowsL (i + 1) ls = rowsL i ls ++ [riseL (keepL 12 3 6 es)]) := hst
        have hacc : (rowsL i ls).length ≤ 1000000000 := by unfold rowsL; rw [List.length_map, List.length_take]; omega
        have hln : Hid ((rowsL i ls).length = i) := by show _ = _; unfold rowsL; rw [List.length_map, List.length_take]; omega
        clear hx hc hend
        generalize rowsL i ls = acc at *
        go_wp2_with fail
        with_reducible refine hkeep.mono ?_
        clear hkeep
        rintro r V ⟨ko, kl, kc, rfl, hkv, bV⟩
        rw [hkv.lx.len_eq] at hkl
        have hri := risex_any (own (.slice bo m cb)) ko kl kc _ V hkv (fun k hk => Nat.lt_of_lt_of_le (hXl k hk) bV.size) hkl
        go_wp2_with fail
        with_reducible refine hri.mono ?_
        clear hri
        rintro r V2 ⟨ro, rl, rc, rfl, hrv, bV2⟩
        have bA : Below V2.heap.size V2 (V2.alloc (.cells #[.slice ro rl rc] 23)) := (Below.refl _ _).alloc (Nat.le_refl _) _
        have bW := below_tr2 (below_tr2 (below_tr2 hb bV) bV2) bA
        have HL := ((hls.later RL.stable bV).later RL.stable bV2).later RL.stable bA
        have HR : RL (V2.alloc (.cells #[.slice ro rl rc] 23)) (own (.slice bo m cb)) [.slice ro rl rc] (riseL (keepL 12 3 6 es)) := ⟨ro, rl, rc, rfl, hrv.later RE.stable bA⟩
        have hu : ∀ j x, [Value.slice ro rl rc][j]? = some x → (V2.alloc (.cells #[.slice ro rl rc] 23)).cell? ((⟨V2.heap.size, 0, none⟩ : Addr).add j) = some x := fun j x hx => lx_cell_one V2 (.slice ro rl rc) 23 j x hx
        have hW4 := bW.size
        go_wp2_with (with_reducible show wpList _ _ _ (⟨some 26, _, _, _, _, _⟩ :: _) _ _; refine wpList_one RL.stable RL.plain Try.underlying22 Try.info23 rfl (by omega) (by omega) rfl _ _ rfl w.heap.size (.slice bo m cb) acc rfl HL ⟨V2.heap.size, 0, none⟩ 1 [.slice ro rl rc] _ rfl hu HR hacc hW4 ?_; intro ao5 n5 c5 w5 hn5 hls5 hof5 hsub5; have hn6 := hid_eqR hn5; clear hn5)
        go_roundw
        case rel => exact ⟨i + 1, n5, ao5, c5, by omega, by omega, by go_num, rfl, by show _ = _; rw [hn6.out, hln.out], by rw [hst.out]; exact hls5, bW.trans (hof5.below (fun q hq => (hls.lt q hq).2) hW4)⟩
        case measure => simp [intOf]; omega
      · have hiI : (i : Int) < la := by omega
        have hi6I : ¬ (i : Int) < 6 := by omega
        obtain ⟨ao9, cap9, e9, hl9⟩ := hls.read RL.stable RL.plain
        simp only [Value.slice.injEq] at e9
        rw [hend (by omega)] at hl9
        obtain ⟨rfl, e10, rfl⟩ := e9
        rw [hend (by omega)] at e10
        rw [← e10] at hl9
        clear hls hm e10 hend
        go_wp2
        go_ret
        exact ⟨bo, _, cb, rfl, hl9, hb⟩
    · have hiI : ¬ (i : Int) < la := by omega
      obtain ⟨ao9, cap9, e9, hl9⟩ := hls.read RL.stable RL.plain
      simp only [Value.slice.injEq] at e9
      rw [hend (by omega)] at hl9
      obtain ⟨rfl, e10, rfl⟩ := e9
      rw [hend (by omega)] at e10
      rw [← e10] at hl9
      clear hls hm e10 hend
      go_wp2
      go_ret
      exact ⟨bo, _, cb, rfl, hl9, hb⟩
end Go.Proofs.Ytjbppedphadenaa
