/- The walk of WalAgain. -/
import Derived.Test.YtkbhhidmndhnoaaWSame
import Derived.Test.YtkbhhidmndhnoaaWOpenX
namespace Go.Proofs.Ytkbhhidmndhnoaa
open Go.RowKit Go.Sort

theorem Wl.none {B : Nat} {w : World} {lg pb : Nat} {nm : ByteArray} {c : Nat} {d : Dm} {bo : Option Addr} {lb cb : Nat} {ess : List (List Ent)} (h : Wl B w lg pb nm c d bo lb cb ess) : Wl B w lg pb nm c d .none 0 0 [] := by
  obtain ⟨fv, vs, S, K, g, hg, hS, hB, l⟩ := h
  exact ⟨fv, vs, S, K, g, hg, hS, hB, Lv.nil _ _ _ _⟩
theorem names_l {B : Nat} {w : World} {pb : Nat} {d : Dm} (h : Dl B w pb d) (n : Nat) (hn : d.files.length = n) (hn9 : n ≤ 1000000) :
    Calls Try.prog 27 #[.pointer (some ⟨pb, 0, none⟩)] w fun e w' => ∃ ao cap, e = .returned (.slice ao n cap) ∧ Below w.heap.size w w' := by
  obtain ⟨fv, vs, S, K, hS, hB⟩ := h
  subst hn
  refine (names_any pb d fv vs S w K hn9).mono ?_
  rintro e w' ⟨ao, cap, rfl, _, _, b⟩
  exact ⟨ao, cap, rfl, b⟩
theorem normB_small {l : List (List Ent)} (h : ∀ es ∈ l, es.length ≤ 8191) : ∀ es ∈ normB l, es.length ≤ 8191 := by
  intro es he
  obtain ⟨x, hx, rfl⟩ := List.mem_map.1 he
  simpa using h x hx
def onew (xs : List Int) (s : Nat) : Dm := one 16777216 w0 xs s 0 false
theorem onew_files (xs : List Int) (s : Nat) : (onew xs s).files.length = 1 := rfl
theorem onew_files' (xs : List Int) (s : Nat) : (onew xs s).files.length ≤ 1000000 := by rw [onew_files]; omega
theorem onew_add (L : List (List Ent)) (s k : Nat) (x : List Ent) (hx : L[k]? = some x) (hf : Fine L) (hl : L.length ≤ 100) : (onew (rowB (L.take k)) s).append w0 (recL (batchL x)) = (onew (rowB (L.take (k + 1))) s, 0) := by
  obtain ⟨hk, rfl⟩ := List.getElem?_eq_some_iff.1 hx
  have h1 := rowB_length (L.take (k + 1)) (hf.take _)
  have h2 : rowB (L.take (k + 1)) = rowB (L.take k) ++ recL (batchL (L[k]'hk)) := by rw [List.take_succ_eq_append_getElem hk, rowB_snoc]
  rw [h2, List.length_append] at h1
  rw [h2]
  have h3 : (L.take (k + 1)).length ≤ 100 := by rw [List.length_take]; omega
  exact append_one 16777216 w0 _ _ s (by have := Nat.mul_le_mul_left 1006 h3; omega)
theorem onew_rd (xs : List Int) (s : Nat) : rd (onew xs s).files w0 = xs := by simp [onew, one, rd, get]
theorem onew_get (xs : List Int) (s : Nat) : (get (onew xs s).files w0).isSome = true := by simp [onew, one, get]
theorem open_onew {B : Nat} {w : World} {pb : Nat} (l : List (List Ent)) (s : Nat) (h : Dl B w pb (onew (rowB l) s)) (hl : Fine l) (n : Nat) (hln : l.length = n) :
    Calls Try.prog 11 #[.pointer (some ⟨pb, 0, none⟩), .string w0] w fun e w' => ∃ lg bo cb, e = .returned (.tuple #[.pointer (some ⟨lg, 0, none⟩), .slice bo n cb, .int .i64 0]) ∧ Wl B w' lg pb w0 n (onew (rowB l) s) bo n cb (normB l) ∧ Below w.heap.size w w' :=
  open_rowB 16777216 w0 l s 0 false h hl w0_size n hln

set_option maxHeartbeats 4000000 in
set_option maxRecDepth 100000 in
theorem again_walk (ao : Option Addr) (la ca : Nat) (l : List (List Ent)) (bo : Option Addr) (lb cb : Nat) (bs : List Bool) (w : World) (hl : Lx 1 RL w ao la ca l) (hx : Ox w bo lb cb bs) :
    Calls Try.prog 7 #[.slice ao la ca, .slice bo lb cb] w fun e w' => e = .returned (.bool true) ∧ Below w.heap.size w w' := by
  have f1 := batchesL_len 10 l
  have f2 := batchesL_fine 10 l
  have f3 := batchesL_small 10 l
  have k1 := batches_any ao la ca l 10 10 rfl (by omega) w hl
  generalize batchesL 10 l = L at f1 f2 f3 k1
  have e0 : openM ⟨16777216, [], 0, false⟩ w0 = (onew [] 0, [], 0) := open_new 16777216 w0 w0_ok
  have g0 : (⟨16777216, [], 0, false⟩ : Dm).files.length ≤ 1000000 := by simp
  have hz := w0_size
  have htop := hx.top
  have hble := hx.le
  unfold maxLen at htop
  go_enter Try.func7, Try.ntmps7
  go_wp2_with (first
    | (go_at_call 15; with_reducible refine k1.mono ?_; rintro e w1 ⟨po, lo, pc, rfl, x1, b1⟩)
    | (go_at_call 10; with_reducible refine (fresh_any w1).mono ?_; rintro e w2 ⟨rfl, d2, b2⟩)
    | (go_at_call 11; with_reducible refine (open_at d2 w0 (onew [] 0) [] 0 rfl e0 g0 hz).mono ?_; rintro e w3 ⟨lg, mo, mc, rfl, W3, b3⟩))
  have hlo := x1.len_eq
  have hpc := x1.le
  have hpt := x1.top
  unfold maxLen at hpt
  have hlo9 : lo ≤ 10 := by omega
  have hx1 := hx.later b1
  go_loopw [6, 8, 9, 10, 11, 12, 13, 14] (fun g e i _ _ _ _ _ wr => ∃ (k lg : Nat), k ≤ lo ∧ i = .int .i64 k ∧ e = .int .i64 0 ∧ g = .pointer (some ⟨lg, 0, none⟩) ∧ Wl w1.heap.size wr lg w1.heap.size w0 k (onew (rowB (L.take k)) 0) none 0 0 [] ∧ Below w1.heap.size w1 wr) (fun _ _ i _ _ _ _ _ _ => lo - (intOf i).toNat)
  case atStart => exact ⟨0, lg, by omega, rfl, rfl, rfl, W3.none, b2.trans b3⟩
  case round =>
    obtain ⟨k, lg, hk, rfl, rfl, rfl, Wr, hb⟩ := hrel
    by_cases hk2 : k < lo
    · obtain ⟨b, off, rfl, hc⟩ := x1.headL (by omega)
      have hxk : L[k]? = some (L[k]'(by omega)) := by simp
      obtain ⟨eo, el, ec, c1, t1⟩ := hc k _ hxk
      have hfx := f2 _ (List.getElem_mem (show k < L.length by omega))
      have hadd := onew_add L 0 k _ hxk f2 (by omega)
      generalize L[k]'(by omega) = x at t1 hfx hadd
      have c1 := cell_later hb c1
      have t1 := t1.later RE.stable hb
      have hfl := onew_files' (rowB (L.take k)) 0
      have hA := add_l Wr eo el ec x t1 hfx _ 0 (k + 1) hadd rfl hfl (by omega)
      clear hadd t1 hfx hxk hc
      have hlt : (L.take (k + 1)).length = k + 1 := by rw [List.length_take]; omega
      have hrd := onew_rd (rowB (L.take (k + 1))) 0
      have hgt := onew_get (rowB (L.take (k + 1))) 0
      have hfl2 := onew_files' (rowB (L.take (k + 1))) 0
      have hkc : k + 1 ≤ pc := by omega
      by_cases hkb : k < lb
      · obtain ⟨bb, boff, rfl, hcb⟩ := hx1.head (by omega)
        have c2 := hcb k hkb
        clear hcb
        cases hbit : bs.getD k false with
        | true =>
          rw [hbit] at c2
          go_wp2_with (first
            | (go_at_call 18; with_reducible refine hA.mono ?_; rintro e w4 ⟨rfl, W4, b4⟩; have B4 := hb.trans b4; have c2 := cell_later B4 c2)
            | (go_at_call 26; with_reducible refine (read_l W4.dl w0 _ true hrd hgt hfl2).mono ?_; rintro e w5 ⟨xo, lx, cx, rfl, t5, d5, b5⟩)
            | (go_at_call 11; with_reducible refine (open_onew (L.take (k + 1)) 0 d5 (f2.take _) (k + 1) hlt).mono ?_; rintro e w6 ⟨lg6, mo6, mc6, rfl, W6, b6⟩)
            | (go_at_call 26; with_reducible refine (read_l W6.dl w0 _ true hrd hgt hfl2).mono ?_; rintro e w7 ⟨yo, ly, cy, rfl, t7, d7, b7⟩; have W7 := W6.later b7; have B7 := ((B4.trans (b5.mono B4.size)).trans (b6.mono (Nat.le_trans B4.size b5.size))).trans (b7.mono (Nat.le_trans B4.size (Nat.le_trans b5.size b6.size))); have hS := same_yes mo6 _ (k + 1) mc6 (k + 1) pc (normB (L.take (k + 1))) (L.take (k + 1)) w7 W7.list ((x1.later RL.stable B7).take (k + 1) (by omega)) (by omega) (sameB_norm _) (normB_small (fun es he => f3 es (List.mem_of_mem_take he))))
            | (go_at_call 21; with_reducible refine hS.mono ?_; rintro e w8 ⟨rfl, b8⟩; have s1 := ((t5.later b6).later (b7.trans (b8.mono b7.size))).string; have s2 := (t7.later b8).string))
          go_roundw
          case rel => exact ⟨k + 1, lg6, by omega, by go_num, rfl, rfl, (W7.later b8).none, B7.trans (b8.mono B7.size)⟩
          case measure => simp [intOf]; omega
        | false =>
          rw [hbit] at c2
          go_wp2_with (first
            | (go_at_call 18; with_reducible refine hA.mono ?_; rintro e w4 ⟨rfl, W4, b4⟩; have B4 := hb.trans b4; have c2 := cell_later B4 c2))
          go_roundw
          case rel => exact ⟨k + 1, lg, by omega, by go_num, rfl, rfl, W4, B4⟩
          case measure => simp [intOf]; omega
      · have hkb' : ¬ (k : Int) < (lb : Int) := by omega
        go_wp2_with (first
            | (go_at_call 18; with_reducible refine hA.mono ?_; rintro e w4 ⟨rfl, W4, b4⟩; have B4 := hb.trans b4))
        go_roundw
        case rel => exact ⟨k + 1, lg, by omega, by go_num, rfl, rfl, W4, B4⟩
        case measure => simp [intOf]; omega
    · have hkl : k = lo := by omega
      rw [hkl, List.take_of_length_le (by omega)] at Wr
      have hnm := onew_files (rowB L) 0
      go_wp2_with (first
        | (go_at_call 11; with_reducible refine (open_onew L 0 Wr.dl f2 lo hlo).mono ?_; rintro e w6 ⟨lg6, mo6, mc6, rfl, W6, b6⟩; have B6 := hb.trans (b6.mono hb.size); have hS := same_yes mo6 po lo mc6 lo pc (normB L) L w6 W6.list (x1.later RL.stable B6) (by omega) (sameB_norm _) (normB_small f3))
        | (go_at_call 21; with_reducible refine hS.mono ?_; rintro e w8 ⟨rfl, b8⟩; have W8 := W6.later b8; have B8 := B6.trans (b8.mono B6.size))
        | (go_at_call 27; with_reducible refine (names_l W8.dl 1 hnm (by omega)).mono ?_; rintro e w9 ⟨no, nc, rfl, b9⟩; have B9 := B8.trans (b9.mono B8.size))
        | (go_at_call 14; with_reducible refine (known_any w9).mono ?_; rintro e v5 ⟨rfl, d5⟩))
      go_ret
      have B10 := B9.trans (d5.mono B9.size)
      exact ⟨rfl, b1.trans (B10.mono b1.size)⟩

end Go.Proofs.Ytkbhhidmndhnoaa
