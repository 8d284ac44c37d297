/- The walks of table.Blocks, table.Len and of the statements' own 'known'. -/
import Derived.Test.YteeemfohehpaeaaTOpen
import Derived.Test.YteeemfohehpaeaaTGet
import Derived.Test.YteeemfohehpaeaaTPlain
import Derived.Test.YteeemfohehpaeaaTBuildW
import Derived.Test.YteeemfohehpaeaaFWalksH
namespace Go.Proofs.Yteeemfohehpaeaa
set_option maxRecDepth 100000
open Go.RowKit Go.Sort

def knT (k : Nat) : List Ent := (List.range k).map (fun (i : Nat) => ⟨[(i : Int)], [(i : Int)], false⟩)
theorem knT_snoc (k : Nat) : knT (k + 1) = knT k ++ [⟨[(k : Int)], [(k : Int)], false⟩] := by simp [knT, List.range_succ]
theorem knT_len (k : Nat) : (knT k).length = k := by simp [knT]
theorem knT_hid {n k : Nat} (h : n = (knT k).length + 1) : Hid (n = k + 1) := by show _ = _; rw [h, knT_len]
theorem knT_key (k : Nat) : ∀ e ∈ knT k, e.k.length ≤ 1000000000000 := by
  intro e he
  simp only [knT, List.mem_map] at he
  obtain ⟨i, _, rfl⟩ := he
  simp
theorem knT_may : mayB 65535 (knT 9) = true := by decide
theorem knT_ok : okL [] (knT 9) = true := by decide
theorem knT_norm : (knT 9).map norm = knT 9 := by rfl
theorem knT_table : (tableL (knT 9)).length ≤ 1000 := by decide
theorem knT_get : getL (knT 9) [8] = some ⟨[8], [8], false⟩ := by rfl
theorem knT_nil : openT [] = none := by rfl
theorem knT_str : strOfNums [8] = { data := #[8] } := by decide

theorem tblocks_any (pb : Nat) (m : List Ent) (w : World) (h : Tb w pb m) : Calls Try.prog 40 #[.pointer (some ⟨pb, 0, none⟩)] w fun e w' => ∃ n : Nat, Hid (n = (m.length + 7) / 8) ∧ e = .returned (.int .i64 n) ∧ w' = w := by
  obtain ⟨ps, ls, ro, rl, rc, ht, hpk⟩ := h
  have hrl : Hid (rl = (m.length + 7) / 8) := by show _ = _; rw [← ht.row.len_eq, hpk.cnt]
  have c0 := ht.c0
  clear ht hpk
  go_enter Try.func40, Try.ntmps40
  go_wp2
  go_ret
  exact ⟨rl, hrl, rfl, rfl⟩
theorem tlen_any (pb : Nat) (m : List Ent) (w : World) (h : Tb w pb m) : Calls Try.prog 41 #[.pointer (some ⟨pb, 0, none⟩)] w fun e w' => e = .returned (.int .i64 m.length) ∧ w' = w := by
  obtain ⟨ps, ls, ro, rl, rc, ht, hpk⟩ := h
  have c1 := ht.c1
  clear ht hpk
  go_enter Try.func41, Try.ntmps41
  go_wp2
  go_ret
  exact ⟨rfl, rfl⟩
/-- Build and Open, of a list that may be built. -/
theorem tbuild_yes (ao : Option Addr) (len cap : Nat) (m : List Ent) (w : World) (h : Lx 3 RE w ao len cap m) (hs : ∀ e ∈ m, e.k.length ≤ 1000000000000) (hm : mayB 65535 m = true) :
    Calls Try.prog 17 #[.slice ao len cap] w fun e w' => ∃ bo lb cb, e = .returned (.tuple #[.slice bo lb cb, .int .i64 0]) ∧ Tx w' bo lb cb (tableL m) ∧ Below w.heap.size w w' := by
  refine (tbuild_any ao len cap m w h hs).mono ?_
  rintro e w' (⟨_, h2⟩ | ⟨h1, _⟩)
  · exact h2
  · rw [hm] at h1; cases h1
theorem topen_yes (ao : Option Addr) (la ca : Nat) (m : List Ent) (xs : List Int) (w : World) (ha : Tx w ao la ca xs) (sa : la ≤ 900000000) (ho : openT xs = some m) :
    Calls Try.prog 22 #[.slice ao la ca] w fun e w' => ∃ pb, e = .returned (.tuple #[.pointer (some ⟨pb, 0, none⟩), .int .i64 0]) ∧ Tb w' pb m ∧ Below w.heap.size w w' := by
  refine (topen_any ao la ca xs w ha sa).mono ?_
  rintro e w' ⟨⟨m', pb, h1, rfl, h3⟩ | ⟨h1, _⟩, b⟩
  · rw [ho] at h1; cases h1; exact ⟨pb, rfl, h3, b⟩
  · rw [ho] at h1; cases h1
theorem topen_no (ao : Option Addr) (la ca : Nat) (xs : List Int) (w : World) (ha : Tx w ao la ca xs) (sa : la ≤ 900000000) (ho : openT xs = none) :
    Calls Try.prog 22 #[.slice ao la ca] w fun e w' => e = .returned (.tuple #[.pointer none, .int .i64 12]) ∧ Below w.heap.size w w' := by
  refine (topen_any ao la ca xs w ha sa).mono ?_
  rintro e w' ⟨⟨m', pb, h1, rfl, h3⟩ | ⟨_, rfl⟩, b⟩
  · rw [ho] at h1; cases h1
  · exact ⟨rfl, b⟩
theorem tget_yes (pb : Nat) (m : List Ent) (bo : Option Addr) (lb cb : Nat) (ks : List Int) (w : World) (h : Tb w pb m) (hk : Tx w bo lb cb ks) (sk : lb ≤ 900000000) (en : Ent) (hg : getL m ks = some en) (G : Bool) (hG : en.g = G) :
    Calls Try.prog 23 #[.pointer (some ⟨pb, 0, none⟩), .slice bo lb cb] w fun e w' => ∃ ko kl kc vo vl vc, e = .returned (.tuple #[.agg #[.slice ko kl kc, .slice vo vl vc, .bool G], .bool true]) ∧ Tx w' ko kl kc en.k ∧ Tx w' vo vl vc en.v ∧ Below w.heap.size w w' := by
  subst hG
  refine (tget_any pb m bo lb cb ks w h hk sk).mono ?_
  rintro e w' ⟨⟨en', ko, kl, kc, vo, vl, vc, h1, rfl, tk, tv⟩ | ⟨h1, _⟩, b⟩
  · rw [hg] at h1; cases h1; exact ⟨ko, kl, kc, vo, vl, vc, rfl, tk, tv, b⟩
  · rw [hg] at h1; cases h1

set_option maxHeartbeats 8000000 in
theorem tknown_any (w : World) : Calls Try.prog 20 #[] w fun e w' => e = .returned (.bool true) ∧ Below w.heap.size w w' := by
  go_enter Try.func20, Try.ntmps20
  go_wp2
  go_loopw [1, 2] (fun s1 s2 wr => ∃ (k : Nat) (lo : Option Addr) (ln lc : Nat), k ≤ 9 ∧ s1 = .slice lo ln lc ∧ s2 = .int .i64 k ∧ Hid (ln = k) ∧ Ls 25 3 RE wr w.heap.size (.slice lo ln lc) (knT k) ∧ Below w.heap.size w wr) (fun _ s2 _ => 9 - (intOf s2).toNat)
  case atStart => exact ⟨0, none, 0, 0, by omega, rfl, rfl, rfl, Ls.nil _ _ _ _ _, Below.refl _ _⟩
  case round =>
    obtain ⟨k, lo, ln, lc, hk, rfl, rfl, hln, hls, hb⟩ := hrel
    by_cases hk9 : k < 9
    · have hw8 : IntKind.u8.wrap (k : Int) = k := by rw [IntKind.wrap_u8]; omega
      have hkI : (k : Int) < 9 := by omega
      have rk : (0 : Int) ≤ k ∧ (k : Int) ≤ 255 := by omega
      have ta := tx_one wr k rk
      have tb := tx_one_at (wr.alloc (.cells #[.int .u8 k] 5)) (wr.heap.size + 1) (by simp) k rk
      have ta2 := ta.alloc (.cells #[.int .u8 k] 5)
      have hX : Below wr.heap.size wr ((wr.alloc (.cells #[.int .u8 k] 5)).alloc (.cells #[.int .u8 k] 5)) := ((Below.refl _ _).alloc (Nat.le_refl _) _).alloc (by simp) _
      have hXs : ((wr.alloc (.cells #[.int .u8 k] 5)).alloc (.cells #[.int .u8 k] 5)).heap.size = wr.heap.size + 2 := by simp
      have HL := ls_ent hls hX (.cells #[.slice (some ⟨wr.heap.size, 0, none⟩) 1 1, .slice (some ⟨wr.heap.size + 1, 0, none⟩) 1 1, .bool false] 25)
      have HR := re_ent (e := ⟨[(k : Int)], [(k : Int)], false⟩) (G := false) hls rfl ta2 tb (fun ad ha _ => .inr (by cases ha; exact Nat.le_refl _)) (fun ad ha _ => .inr (by cases ha; simp)) (.cells #[.slice (some ⟨wr.heap.size, 0, none⟩) 1 1, .slice (some ⟨wr.heap.size + 1, 0, none⟩) 1 1, .bool false] 25)
      have hm8 : (knT k).length ≤ 1000000000 := by rw [knT_len]; omega
      have hw8b := size_ent (.cells #[.slice (some ⟨wr.heap.size, 0, none⟩) 1 1, .slice (some ⟨wr.heap.size + 1, 0, none⟩) 1 1, .bool false] 25) hb hX
      have hC := cells3_at ((wr.alloc (.cells #[.int .u8 k] 5)).alloc (.cells #[.int .u8 k] 5)) (wr.heap.size + 2) hXs.symm (.slice (some ⟨wr.heap.size, 0, none⟩) 1 1) (.slice (some ⟨wr.heap.size + 1, 0, none⟩) 1 1) (.bool false)
      clear ta tb ta2
      go_wp2_with (with_reducible show wpList _ _ _ (⟨some 24, _, _, _, _, _⟩ :: _) _ _; refine wpList_one RE.stable RE.plain Try.underlying22 Try.info25 rfl (by omega) (by omega) rfl _ _ rfl w.heap.size (.slice lo ln lc) (knT k) rfl HL ⟨wr.heap.size + 2, 0, none⟩ 1 [.slice (some ⟨wr.heap.size, 0, none⟩) 1 1, .slice (some ⟨wr.heap.size + 1, 0, none⟩) 1 1, .bool false] _ rfl hC HR hm8 hw8b ?_; intro ao5 n5 c5 w5 hn5 hls5 hof5 hsub5; have hn6 := knT_hid hn5; clear hn5; have b5 := below_ent hls hb hX hof5; clear HL HR hC hw8b)
      go_roundw
      case rel => exact ⟨k + 1, ao5, n5, c5, by omega, rfl, by go_num, hn6, by rw [knT_snoc]; exact hls5, b5⟩
      case measure => simp [intOf]; omega
    · have h9 : k = 9 := by omega
      subst h9
      have hx : Lx 3 RE wr lo ln lc (knT 9) := by
        obtain ⟨ao9, cap9, e9, hx9⟩ := hls.read RE.stable RE.plain
        simp only [Value.slice.injEq] at e9
        obtain ⟨rfl, e10, rfl⟩ := e9
        rw [← e10] at hx9
        exact hx9
      have hbd := tbuild_yes lo ln lc _ wr hx (knT_key 9) knT_may
      have hop : openT (tableL (knT 9)) = some (knT 9) := openT_table (knT 9) (by rw [knT_len]; omega) (by rw [knT_len]; omega) knT_ok knT_norm
      have htl := knT_table
      have hgt := knT_get
      have hlen : (knT 9).length = 9 := knT_len 9
      clear hx hls hln
      generalize tableL (knT 9) = tb at hbd hop htl
      generalize knT 9 = m at hop hgt hlen
      go_wp2_with fail
      with_reducible refine hbd.mono ?_
      clear hbd
      rintro e W1 ⟨bo, lb, cb, rfl, t1, b1⟩
      have hlb : lb ≤ 1000 := by rw [← t1.len_eq]; exact htl
      have hpn := topen_yes bo lb cb m tb W1 t1 (by omega) hop
      go_wp2_with fail
      with_reducible refine hpn.mono ?_
      clear hpn
      rintro e W2 ⟨pb, rfl, T2, b2⟩
      have hpo := topen_no none 0 0 [] W2 (Tx.nil W2) (by omega) knT_nil
      go_wp2_with fail
      with_reducible refine hpo.mono ?_
      clear hpo
      rintro e W3 ⟨rfl, b3⟩
      have T3 := T2.later b3
      have B3 := ((hb.trans (b1.mono hb.size)).trans (b2.mono (hb.trans (b1.mono hb.size)).size))
      have B3' := B3.trans (b3.mono B3.size)
      have bA : Below W3.heap.size W3 (W3.alloc (.cells #[.int .u8 8] 5)) := (Below.refl _ _).alloc (Nat.le_refl _) _
      have t8 := tx_one W3 8 (by omega)
      have T4 := T3.later bA
      have B4 := B3'.trans (bA.mono B3'.size)
      clear b1 b2 b3 B3 B3' T2 T3 t1
      go_wp2_with fail
      generalize W3.alloc (.cells #[.int .u8 8] 5) = W4 at bA t8 T4 B4 ⊢
      have hge := tget_yes pb m (some ⟨W3.heap.size, 0, none⟩) 1 1 [8] W4 T4 t8 (by omega) _ hgt false rfl
      with_reducible refine hge.mono ?_
      clear hge
      rintro e W5 ⟨ko, kl, kc, vo, vl, vc, rfl, tk, tv, b5⟩
      have T5 := T4.later b5
      have B5 := B4.trans (b5.mono B4.size)
      have bx := Box.new W5 (.slice ko kl kc) (.slice vo vl vc) false
      have b6 : Below W5.heap.size W5 (W5.alloc (.cells #[.slice ko kl kc, .slice vo vl vc, .bool false] 25)) := (Below.refl _ _).alloc (Nat.le_refl _) _
      have T6 := T5.later b6
      have s6 := (tv.later b6).string
      rw [knT_str] at s6
      have B6 := B5.trans (b6.mono B5.size)
      clear tk tv T4 T5 bA t8
      go_wp2_with fail
      generalize W5.alloc (.cells #[.slice ko kl kc, .slice vo vl vc, .bool false] 25) = W6 at bx b6 T6 s6 B6 ⊢
      obtain ⟨x0, x1, x2⟩ := bx
      go_wp2_with (first
        | (go_at_call 40; with_reducible refine (tblocks_any pb m W6 T6).mono ?_; rintro e V ⟨nb, hnb, rfl, rfl⟩; have hnb2 := hnb.out; rw [hlen] at hnb2; have hnb3 : nb = 2 := (by omega); clear hnb hnb2; subst hnb3)
        | (go_at_call 41; with_reducible refine (tlen_any pb m _ T6).mono ?_; rintro e V ⟨rfl, rfl⟩; rw [hlen]))
      go_ret
      exact ⟨rfl, B6⟩
end Go.Proofs.Yteeemfohehpaeaa
