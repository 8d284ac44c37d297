/- The walk of table.cut. -/
import Derived.Test.YteeemfohehpaeaaTParts
import Derived.Test.YteeemfohehpaeaaPE
namespace Go.Proofs.Yteeemfohehpaeaa
set_option maxRecDepth 100000
open Go.RowKit Go.Sort


/-- What cut answers. -/
def cutsT (xs : List Int) : Option (List (List Int)) :=
  match partsT xs with
  | none => none
  | some (a, b) => cutT (b.length / 4) a b

/-- How far cutting has come: what is left of both, and what has been cut. -/
structure CutR (w wr : World) (A B : List Int) (C k : Nat) (qo : Option Addr) (ql qc : Nat) (bb bo : Nat) (bl bc : Nat) (lo : Nat) (ll lc : Nat) (ts : List (List Int)) (bl' ls : List Int) : Prop where
  lst : Ls 23 1 RB wr w.heap.size (.slice qo ql qc) ts
  tb : Tx wr (some ⟨bb, bo, none⟩) bl bc bl'
  tl : Tx wr (some ⟨bb, lo, none⟩) ll lc ls
  cnt : ls.length = 4 * (C - k)
  kle : k ≤ C
  tk : ts.length = k
  came : cutT C A B = (cutT (C - k) bl' ls).map (ts ++ ·)
  bel : Below w.heap.size w wr
  b8 : bl + 8 ≤ bc
  l8 : ll + 8 ≤ lc
  b9 : bl ≤ 900000000
  l9 : ll ≤ 900000000
  low : bb < w.heap.size
  qk : ql = k

set_option maxHeartbeats 4000000 in
theorem tcut_any (ao : Option Addr) (la ca : Nat) (xs : List Int) (w : World) (ha : Tx w ao la ca xs) (sa : la ≤ 900000000) :
    Calls Try.prog 42 #[.slice ao la ca] w fun e w' =>
      ((∃ ts bo bl bc, cutsT xs = some ts ∧ e = .returned (.tuple #[.slice bo bl bc, .bool true]) ∧ Lx 1 RB w' bo bl bc ts) ∨ (cutsT xs = none ∧ ∃ v, e = .returned (.tuple #[v, .bool false]))) ∧ Below w.heap.size w w' := by
  have hpt := tparts_any ao la ca xs w ha sa
  go_enter Try.func42, Try.ntmps42
  go_wp2_with fail
  with_reducible refine hpt.mono ?_
  clear hpt
  rintro e W ⟨⟨A, B, bb, o1, l1, c1, o2, l2, c2, hp, rfl, tA, tB, h18, h28, h19, h29⟩ | ⟨hp, rfl⟩, bW⟩
  rotate_left
  · have hno : Hid (cutsT xs = none) := by show _ = _; rw [cutsT, hp]
    clear hp
    go_wp2
    go_ret2
    exact ⟨.inr ⟨hno.out, _, rfl⟩, bW⟩
  · obtain ⟨C, hC1, hC4⟩ := partsT_len hp
    have hcut : cutsT xs = cutT C A B := by rw [cutsT, hp]; simp only; rw [hC4, Nat.mul_div_cancel_left _ (by omega)]
    have hlB := tB.len_eq
    have hlow : bb < w.heap.size := by
      have h1 : 0 < l2 := by omega
      have := tB.lt _ rfl h1
      simpa using this
    have hcut : Hid (cutsT xs = cutT C A B) := hcut
    clear hp
    have hC4 : Hid (B.length = 4 * C) := hC4
    go_wp2
    go_loopw [4, 5, 7] (fun s4 s5 s7 wr => ∃ (k : Nat) (qo : Option Addr) (ql qc bo bl bc lo ll lc : Nat) (ts : List (List Int)) (bl' ls : List Int), s4 = .slice (some ⟨bb, bo, none⟩) bl bc ∧ s5 = .slice (some ⟨bb, lo, none⟩) ll lc ∧ s7 = .slice qo ql qc ∧ CutR w wr A B C k qo ql qc bb bo bl bc lo ll lc ts bl' ls) (fun _ s5 _ _ => sliceLen s5)
    case atStart => exact ⟨0, none, 0, 0, o1, l1, c1, o2, l2, c2, [], A, B, rfl, rfl, rfl, ⟨⟨[], rfl, ⟨rfl, .inl ⟨rfl, rfl⟩⟩, by simp⟩, tA.later bW, tB.later bW, by rw [hC4.out]; simp, by omega, rfl, by simp, bW, h18, h28, h19, h29, hlow, rfl⟩⟩
    case round =>
      obtain ⟨k, qo, ql, qc, bo, bl, bc, lo, ll, lc, ts, bl', ls, rfl, rfl, rfl, hr⟩ := hrel
      have hll := hr.tl.len_eq
      have hbl := hr.tb.len_eq
      have hcnt := hr.cnt
      have hkle := hr.kle
      have hb8 := hr.b8
      have hl8 := hr.l8
      have hb9 := hr.b9
      have hbt := hr.tb.top
      have hlt := hr.tl.top
      unfold maxLen at hbt hlt
      have hll9 := hr.l9
      by_cases hk : k < C
      · have hget := get_any _ ll lc 4 ls wr hr.tl (by omega) (by omega) (by omega)
        have hnn := getN_nn ls 4
        have hcm := hr.came
        obtain ⟨c, hc⟩ : ∃ c, C - k = c + 1 := ⟨C - k - 1, by omega⟩
        rw [hc, cutT] at hcm
        have hl0 : (0 : Int) < ll := by omega
        have hwb : IntKind.u64.wrap (bl : Int) = bl := by rw [IntKind.wrap_u64]; omega
        have hbH : Hid (bl'.length = bl) := hbl
        rw [hbl] at hcm
        generalize getN ls 4 = G at hget hnn hcm
        by_cases hG : (bl : Int) < G
        · rw [if_pos hG] at hcm
          have hno : Hid (cutsT xs = none) := by show _ = _; rw [hcut.out, hcm]; rfl
          clear hcm hcnt hbl hll hc
          go_wp2_with (go_at_call 68; with_reducible refine hget.mono ?_; rintro e V ⟨rfl, rfl⟩)
          go_ret2
          exact ⟨.inr ⟨hno.out, _, rfl⟩, hr.bel⟩
        · obtain ⟨g, rfl⟩ : ∃ g : Nat, G = (g : Int) := ⟨G.toNat, by omega⟩
          have hgb : g ≤ bl := by omega
          rw [if_neg hG, Int.toNat_natCast] at hcm
          have hcm : Hid (cutT C A B = ((cutT c (bl'.drop g) (ls.drop 4)).map (bl'.take g :: ·)).map (ts ++ ·)) := hcm
          have hcH : Hid (C - k = c + 1) := hc
          have hcnt : Hid (ls.length = 4 * (C - k)) := hcnt
          have hllH : Hid (ls.length = ll) := hll
          have hl4 : 4 ≤ ll := by have := hcnt.out; omega
          have tbk := hr.tb.take g (by omega)
          have hqk := hr.qk
          have htk := hr.tk
          have hown : ∀ q ∈ own (.slice qo ql qc), bb ≠ q := fun q hq e => by have := (hr.lst.lt q hq).2; have := hr.low; omega
          have bA : Below wr.heap.size wr (wr.alloc (.cells #[.slice (some ⟨bb, bo, none⟩) g bc] 23)) := (Below.refl _ _).alloc (Nat.le_refl _) _
          have HL := hr.lst.later RB.stable bA
          have HR : RB (wr.alloc (.cells #[.slice (some ⟨bb, bo, none⟩) g bc] 23)) (own (.slice qo ql qc)) [.slice (some ⟨bb, bo, none⟩) g bc] (bl'.take g) := ⟨_, rfl, (tbk.later bA).at _ (fun ad ha _ hk => by cases ha; exact hown _ hk rfl)⟩
          have HB : w.heap.size ≤ (wr.alloc (.cells #[.slice (some ⟨bb, bo, none⟩) g bc] 23)).heap.size := by have := hr.bel.size; simp; omega
          have hts9 : Hid (ts.length ≤ 1000000000) := by show _ ≤ _; have := hcnt.out; omega
          have hts1 : Hid (ts.length + 1 = ql + 1) := by show _ = _; omega
          have hqkH : Hid (ql = k) := hqk
          have hgc : ¬ bc = g := by omega
          have hlc4 : ¬ lc = 4 := by omega
          have hgl : (g : Int) ≤ bl := by omega
          clear hbl hll hc htk hqk
          go_wp2_with (first
            | (go_at_call 68; with_reducible refine hget.mono ?_; rintro e V ⟨rfl, rfl⟩)
            | (with_reducible show wpList _ _ _ (⟨some 36, _, _, _, _, _⟩ :: _) _ _; refine wpList_one RB.stable RB.plain Try.underlying67 Try.info23 rfl (by omega) (by omega) rfl _ _ rfl w.heap.size (.slice qo ql qc) ts rfl HL ⟨wr.heap.size, 0, none⟩ 1 [.slice (some ⟨bb, bo, none⟩) g bc] (bl'.take g) rfl (lx_cell_one wr _ 23) HR hts9.out HB ?_; intro ao5 n5 c5 w5 hn5 hls5 hof5 hsub5; have hn6 := hn5.trans hts1.out; clear hn5; subst hn6))
          go_region
          all_goals
            go_wp2
            go_roundw
            case rel =>
              have hbw : Below w.heap.size w w5 := (hr.bel.trans (bA.mono hr.bel.size)).trans (hof5.below (fun q hq => (hr.lst.lt q hq).2) HB)
              have hoff : Off (own (.slice qo ql qc)) wr w5 := (Off.of_below (S := own (.slice qo ql qc)) bA).trans hof5
              have tb5 := (hr.tb.drop g (by omega)).off hoff (fun ad ha _ hk => by cases ha; exact hown _ hk rfl)
              have tl5 := (hr.tl.drop 4 (by omega)).off hoff (fun ad ha _ hk => by cases ha; exact hown _ hk rfl)
              have b0 : Below w5.heap.size w5 w5.drew := (Below.refl _ _).drew
              exact ⟨k + 1, ao5, ql + 1, c5, bo + g, bl - g, bc - g, lo + 4, ll - 4, lc - 4, ts ++ [bl'.take g], bl'.drop g, ls.drop 4, rfl, rfl, rfl,
                ⟨hls5.later RB.stable b0, tb5.later b0, tl5.later b0, by have := hcnt.out; simp; omega, by omega, by have := hr.tk; simp; omega, by have h1 := hcm.out; have h2 := hcH.out; rw [h1, show C - (k + 1) = c by omega]; cases cutT c (bl'.drop g) (ls.drop 4) <;> simp, hbw.drew, by omega, by omega, by omega, by omega, hr.low, by have := hqkH.out; omega⟩⟩
            case measure => simp [sliceLen]; omega
      · have hkC : k = C := by omega
        have hcm := hr.came
        rw [show C - k = 0 by omega, cutT] at hcm
        have hl0 : ll = 0 := by omega
        subst hl0
        obtain ⟨ao9, cap9, e9, hx9⟩ := hr.lst.read RB.stable RB.plain
        simp only [Value.slice.injEq] at e9
        obtain ⟨rfl, e10, rfl⟩ := e9
        rw [← e10] at hx9
        rw [hbl] at hcm
        have hbel := hr.bel
        by_cases hz : bl = 0
        · rw [if_pos hz] at hcm
          have hyes : Hid (cutsT xs = some ts) := by show _ = _; rw [hcut.out, hcm]; simp
          subst hz
          clear hcm hcnt hbl hll e10 hr
          go_wp2
          go_ret2
          exact ⟨.inl ⟨ts, qo, ql, qc, hyes.out, rfl, hx9⟩, hbel⟩
        · rw [if_neg hz] at hcm
          have hno : Hid (cutsT xs = none) := by show _ = _; rw [hcut.out, hcm]; rfl
          have hzb : ((bl : Int) == 0) = false := by simp [hz]
          clear hcm hcnt hbl hll e10 hr
          go_wp2
          go_ret2
          exact ⟨.inr ⟨hno.out, _, rfl⟩, hbel⟩
end Go.Proofs.Yteeemfohehpaeaa
