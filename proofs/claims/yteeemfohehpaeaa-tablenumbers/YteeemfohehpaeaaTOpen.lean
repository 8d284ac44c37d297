/- The walk of table.Open. -/
import Derived.Test.YteeemfohehpaeaaTAdd
import Derived.Test.YteeemfohehpaeaaTOpenQ
namespace Go.Proofs.Yteeemfohehpaeaa
set_option maxRecDepth 100000
open Go.RowKit Go.Sort

set_option maxHeartbeats 4000000 in
theorem topen_any (ao : Option Addr) (la ca : Nat) (xs : List Int) (w : World) (ha : Tx w ao la ca xs) (sa : la ≤ 900000000) :
    Calls Try.prog 22 #[.slice ao la ca] w fun e w' =>
      ((∃ m pb, openT xs = some m ∧ e = .returned (.tuple #[.pointer (some ⟨pb, 0, none⟩), .int .i64 0]) ∧ Tb w' pb m) ∨ (openT xs = none ∧ e = .returned (.tuple #[.pointer none, .int .i64 12]))) ∧ Below w.heap.size w w' := by
  have hcl := bclone_any ao la ca xs w ha (by omega)
  have hxl := ha.len_eq
  go_enter Try.func22, Try.ntmps22
  go_wp2_with fail
  with_reducible refine hcl.mono ?_
  clear hcl
  rintro e W1 ⟨bo, cb, rfl, t1, f1, b1⟩
  have hcut := tcut_any bo la cb xs W1 t1 sa
  go_wp2_with fail
  with_reducible refine hcut.mono ?_
  clear hcut
  rintro e W2 ⟨⟨ts, to, tl, tc, hc, rfl, xT⟩ | ⟨hc, v, rfl⟩, b2⟩
  rotate_left
  · have hno : Hid (openT xs = none) := by show _ = _; rw [openT_eq, hc]
    go_wp2
    go_ret2
    exact ⟨.inr ⟨hno.out, rfl⟩, b1.trans (b2.mono b1.size)⟩
  · have B2 : Below w.heap.size w W2 := b1.trans (b2.mono b1.size)
    obtain ⟨hts1, hts2⟩ := cutsT_len hc
    have hop : Hid (openT xs = addsT 0 [] ts) := by show _ = _; rw [openT_eq, hc]
    have htl := xT.len_eq
    have bA : Below W2.heap.size W2 (W2.alloc (.cells #[.slice none 0 0, .int .i64 0] 73)) := (Below.refl _ _).alloc (Nat.le_refl _) _
    have g0 : Tg (W2.alloc (.cells #[.slice none 0 0, .int .i64 0] 73)) W2.heap.size W2.heap.size [] 0 none 0 0 :=
      ⟨by rw [cell_of_row _ W2.heap.size _ _ 73 (0, 0) (heap_alloc_new W2 _)]; rfl, by rw [cell_of_row _ W2.heap.size _ _ 73 (0, 0) (heap_alloc_new W2 _)]; rfl, fun j => frozen_of_row _ W2.heap.size j _ 73 (heap_alloc_new W2 _), Ls.nil _ _ _ _ _, by simp [own, Value.ownBlock], Nat.le_refl _, bA.size, rfl⟩
    clear hc
    go_wp2_with fail
    generalize W2.alloc (.cells #[.slice none 0 0, .int .i64 0] 73) = W3 at bA g0 ⊢
    go_loopw [21] (fun s21 wr => ∃ (k : Nat) (a : List Int) (m : List Ent) (ps : List Pk) (ls : List (List Ent)) (ro : Option Addr) (rl rc : Nat), k ≤ tl ∧ s21 = .int .i64 k ∧ Tg wr W2.heap.size W2.heap.size ps m.length ro rl rc ∧ AddsR ts k a m ps ls ∧ Below W2.heap.size W2 wr) (fun s21 _ => tl - (intOf s21).toNat)
    case atStart => exact ⟨0, [], [], [], [], none, 0, 0, by omega, rfl, g0, AddsR.start ts, bA⟩
    case round =>
      obtain ⟨k, a, m, ps, ls, ro, rl, rc, hk, rfl, hg, har, hb⟩ := hrel
      by_cases hk2 : k < tl
      · obtain ⟨rb, rf, rfl, hcell⟩ := xT.headB (by omega)
        have hx : ts[k]? = some (ts[k]'(by omega)) := by simp
        obtain ⟨xo, xl, xc, c1, tx⟩ := hcell k _ hx
        have hxle := hts2 _ (List.getElem_mem (l := ts) (n := k) (by omega))
        generalize ts[k]'(by omega) = x at hx tx hxle
        have c1r := cell_later hb c1
        have hxl2 := tx.len_eq
        have hadd := tadd_any W2.heap.size W2.heap.size ps m.length ro rl rc xo xl xc x wr hg (tx.later hb) (fun ad h1 h2 => tx.lt ad h1 h2) (by omega) har.pk.le (by have := har.k_eq; have := har.pk.cnt; have := har.pk.le; omega) a har.ga (by have := har.a_le; omega)
        have hX : Hid (ts[k]? = some x) := hx
        clear hx
        have hkl : (k : Int) < tl := by omega
        go_wp2_with fail
        with_reducible refine hadd.mono ?_
        clear hadd
        rintro e V ⟨⟨l, ro', rl', rc', hal, rfl, hg'⟩ | ⟨hal, rfl⟩, bV⟩
        · have hst := har.step hX.out hal (by omega)
          have hml : (m ++ l).length = m.length + l.length := by simp
          rw [← hml] at hg'
          clear hml
          go_wp2
          go_roundw
          case rel => exact ⟨k + 1, _, m ++ l, _, _, ro', rl', rc', by omega, by go_num, hg', hst, hb.trans bV⟩
          case measure => simp [intOf]; omega
        · have hno : Hid (openT xs = none) := by show _ = _; rw [hop.out]; exact har.no hX.out hal
          go_wp2
          go_ret2
          exact ⟨.inr ⟨hno.out, rfl⟩, B2.trans ((hb.trans bV).mono B2.size)⟩
      · have hyes : Hid (openT xs = some m) := by show _ = _; rw [hop.out]; exact har.done (by omega)
        have hkl : ¬ (k : Int) < tl := by omega
        go_wp2
        go_ret2
        exact ⟨.inl ⟨m, hyes.out, W2.heap.size, rfl, ps, ls, ro, rl, rc, hg.tab, har.pk⟩, B2.trans (hb.mono B2.size)⟩
end Go.Proofs.Yteeemfohehpaeaa
