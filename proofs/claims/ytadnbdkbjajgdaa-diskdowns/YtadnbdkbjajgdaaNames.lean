/- The walk of DiskNames. -/
import Derived.Test.YtadnbdkbjajgdaaKnown
import Derived.Test.YtadnbdkbjajgdaaOpen
namespace Go.Proofs.Ytadnbdkbjajgdaa
open Go.RowKit Go.Sort

/-- What holds of the disk between two rounds. -/
structure NInv (D : Dm) (nm : ByteArray) (b : List Int) (u m : Nat) : Prop where
  left : D.left = 0
  down : D.down = false
  lim : D.limit = 1000
  rise : Rising D.files
  got : get D.files nm = some ⟨nm, b, 0⟩
  use : used D.files ≤ u
  len : D.files.length ≤ m

theorem NInv.up {D : Dm} {nm : ByteArray} {b : List Int} {u m u' m' : Nat} (h : NInv D nm b u m) (hu : u ≤ u') (hm : m ≤ m') : NInv D nm b u' m' := ⟨h.left, h.down, h.lim, h.rise, h.got, Nat.le_trans h.use hu, Nat.le_trans h.len hm⟩

theorem ninv_other {D : Dm} {nm nx : ByteArray} {b c : List Int} {u m : Nat} (h : NInv D nm b u m) (hne : nx ≠ nm) (hok : okName nx = true) (hu : u + c.length ≤ 1000) :
    ∃ D1 D2, D.create nx = (D1, 0) ∧ D1.append nx c = (D2, 0) ∧ NInv D2 nm b (u + c.length) (m + 1) ∧ D1.files.length ≤ m + 1 := by
  have h1 := get_put h.rise ⟨nx, [], 0⟩
  have r1 := rising_put h.rise ⟨nx, [], 0⟩
  have u1 := used_put D.files ⟨nx, [], 0⟩
  have u2 := used_parts h.rise nx
  have u3 := used_put (put D.files ⟨nx, [], 0⟩) ⟨nx, [] ++ c, 0⟩
  have u4 := used_parts r1 nx
  have hg : get (put D.files ⟨nx, [], 0⟩) nx = some ⟨nx, [], 0⟩ := by rw [h1]; simp
  rw [hg] at u4
  have l1 := length_put h.rise ⟨nx, [], 0⟩
  have l2 : (put (put D.files ⟨nx, [], 0⟩) ⟨nx, [] ++ c, 0⟩).length ≤ (put D.files ⟨nx, [], 0⟩).length := by
    rw [← set_put r1 (nm := nx) (f := ⟨nx, [] ++ c, 0⟩) hg rfl]; simp
  have hu1 := h.use
  have hl := h.len
  simp at u1 u3 u4
  refine ⟨{ D with files := put D.files ⟨nx, [], 0⟩ }, { D with files := put (put D.files ⟨nx, [], 0⟩) ⟨nx, [] ++ c, 0⟩ }, create_calm h.left h.down hok, append_calm (d := { D with files := put D.files ⟨nx, [], 0⟩ }) h.left h.down hg c ?_, ⟨h.left, h.down, h.lim, rising_put r1 _, ?_, ?_, ?_⟩, ?_⟩
  · show c.length + used (put D.files ⟨nx, [], 0⟩) ≤ D.limit
    rw [h.lim, used_put]; simp; omega
  · show get (put (put D.files _) _) nm = _
    rw [get_put r1, get_put h.rise]
    simp [hne, h.got]
  · show used (put (put D.files ⟨nx, [], 0⟩) ⟨nx, [] ++ c, 0⟩) ≤ _
    rw [used_put]; simp; omega
  · show (put (put D.files ⟨nx, [], 0⟩) ⟨nx, [] ++ c, 0⟩).length ≤ _
    omega
  · show (put D.files ⟨nx, [], 0⟩).length ≤ _
    omega

theorem ninv_turn {D : Dm} {nm nx : ByteArray} {b : List Int} {u m : Nat} (h : NInv D nm b u m) (hok : okName nx = true) :
    ∃ D1, D.rename nm nx = (D1, 0) ∧ NInv D1 nx b u m ∧ (get D1.files nm).isSome = decide (nx = nm) := by
  have r1 := rising_del h.rise nm
  have u1 := used_put (del D.files nm) ⟨nx, b, 0⟩
  have u2 := used_parts h.rise nm
  have u3 := used_parts r1 nx
  rw [h.got] at u2
  have l1 := length_put r1 ⟨nx, b, 0⟩
  have l2 := length_parts h.rise nm
  rw [h.got] at l2
  have l3 : (del D.files nm).length + 1 = D.files.length := by simp [del] at l2 ⊢; omega
  have hu1 := h.use
  have hl := h.len
  simp at u1 u2
  refine ⟨{ D with files := put (del D.files nm) ⟨nx, b, 0⟩ }, rename_calm h.left h.down h.got hok, ⟨h.left, h.down, h.lim, rising_put r1 _, ?_, ?_, ?_⟩, ?_⟩
  · show get (put (del D.files nm) _) nx = _
    rw [get_put r1]; simp
  · show used (put (del D.files nm) ⟨nx, b, 0⟩) ≤ _
    rw [used_put]; simp; omega
  · show (put (del D.files nm) ⟨nx, b, 0⟩).length ≤ _
    omega
  · show (get (put (del D.files nm) _) nm).isSome = _
    rw [get_put r1, get_del h.rise]
    by_cases e : nx = nm
    · simp [e]
    · simp [e]

theorem ninv_end {D : Dm} {nm : ByteArray} {b : List Int} {u m : Nat} (h : NInv D nm b u m) : ∃ D1, D.remove nm = (D1, 0) ∧ D1.remove nm = (D1, 22) ∧ D1.files.length ≤ m := by
  refine ⟨_, remove_calm h.left h.down h.got, remove_none ?_, ?_⟩
  · show get (del D.files nm) nm = none
    rw [get_del h.rise]; simp
  · show (del D.files nm).length ≤ m
    exact Nat.le_trans (length_del h.rise nm) h.len

theorem conv_other (w : World) : (convert 31 31 (.slice (some ⟨w.heap.size, 0, none⟩) 5 5)).run Try.prog (w.alloc (.cells #[.int .u8 111, .int .u8 116, .int .u8 104, .int .u8 101, .int .u8 114] 5)) = .ok (.slice (some ⟨w.heap.size, 0, none⟩) 5 5) (w.alloc (.cells #[.int .u8 111, .int .u8 116, .int .u8 104, .int .u8 101, .int .u8 114] 5 (5, 6))) :=
  Lib.run_convert_bytes_const w 31 5 #[.int .u8 111, .int .u8 116, .int .u8 104, .int .u8 101, .int .u8 114] 5 5 Try.underlying31 Try.underlying5

theorem names_start (b : List Int) (hb : b.length ≤ 100) : ∃ D1 D2, (⟨1000, [], 0, false⟩ : Dm).create ⟨#[102, 48]⟩ = (D1, 0) ∧ D1.append ⟨#[102, 48]⟩ b = (D2, 0) ∧ NInv D2 ⟨#[102, 48]⟩ b 100 1 ∧ D1.files.length ≤ 1 := by
  have h1 := get_put rising_nil ⟨⟨#[102, 48]⟩, [], 0⟩
  have r1 := rising_put rising_nil ⟨⟨#[102, 48]⟩, [], 0⟩
  have hg : get (put [] ⟨⟨#[102, 48]⟩, [], 0⟩) ⟨#[102, 48]⟩ = some ⟨⟨#[102, 48]⟩, [], 0⟩ := by rw [h1]; simp
  have u1 : used (put [] ⟨⟨#[102, 48]⟩, [], 0⟩) = 0 := by rw [used_put]; simp [del, lo, hi, used]
  have u3 := used_put (put [] ⟨⟨#[102, 48]⟩, [], 0⟩) ⟨⟨#[102, 48]⟩, [] ++ b, 0⟩
  have u4 := used_parts r1 ⟨#[102, 48]⟩
  have l1 := length_put rising_nil ⟨⟨#[102, 48]⟩, [], 0⟩
  have l2 : (put (put [] ⟨⟨#[102, 48]⟩, [], 0⟩) ⟨⟨#[102, 48]⟩, [] ++ b, 0⟩).length ≤ (put [] ⟨⟨#[102, 48]⟩, [], 0⟩).length := by
    rw [← set_put r1 (nm := ⟨#[102, 48]⟩) (f := ⟨⟨#[102, 48]⟩, [] ++ b, 0⟩) hg rfl]; simp
  rw [hg] at u4
  simp at u3 u4 l1
  refine ⟨⟨1000, put [] ⟨⟨#[102, 48]⟩, [], 0⟩, 0, false⟩, ⟨1000, put (put [] ⟨⟨#[102, 48]⟩, [], 0⟩) ⟨⟨#[102, 48]⟩, [] ++ b, 0⟩, 0, false⟩, create_calm rfl rfl rfl, append_calm (d := ⟨1000, put [] ⟨⟨#[102, 48]⟩, [], 0⟩, 0, false⟩) rfl rfl hg b ?_, ⟨rfl, rfl, rfl, rising_put r1 _, ?_, ?_, ?_⟩, ?_⟩
  · show b.length + used (put [] _) ≤ 1000
    rw [u1]; omega
  · show get (put (put [] _) _) _ = _
    rw [get_put r1]; simp
  · show used (put (put [] ⟨⟨#[102, 48]⟩, [], 0⟩) ⟨⟨#[102, 48]⟩, [] ++ b, 0⟩) ≤ 100
    rw [used_put]; simp; omega
  · show (put (put [] ⟨⟨#[102, 48]⟩, [], 0⟩) ⟨⟨#[102, 48]⟩, [] ++ b, 0⟩).length ≤ 1
    omega
  · show (put [] ⟨⟨#[102, 48]⟩, [], 0⟩).length ≤ 1
    omega

/-- What Within answers. -/
def wfun (n lo hi : Int) : Int := if lo ≤ n ∧ n ≤ hi then n else lo + (if n.tmod (hi - lo + 1) < 0 then n.tmod (hi - lo + 1) + hi - lo + 1 else n.tmod (hi - lo + 1))
theorem wfun_rng (n lo hi : Int) (h : lo ≤ hi) : lo ≤ wfun n lo hi ∧ wfun n lo hi ≤ hi := by
  have t := tmod_rng n (hi - lo + 1) (by omega)
  unfold wfun
  split
  · assumption
  · split <;> omega
theorem within_eq (n lo hi : Int) (h1 : -9223372036854775808 ≤ n) (h2 : n ≤ 9223372036854775807) (l1 : -1000000 ≤ lo) (l2 : lo ≤ hi) (l3 : hi ≤ 1000000) (w : World) :
    Calls Try.prog 15 #[.int .i64 n, .int .i64 lo, .int .i64 hi] w fun e w' => e = .returned (.int .i64 (wfun n lo hi)) ∧ w = w' := by
  have t := tmod_rng n (hi - lo + 1) (by omega)
  have hne : ¬ hi - lo + 1 = 0 := by omega
  have hne' : ((hi - lo + 1 : Int) == 0) = false := by simp; omega
  have hw : ∀ v, (v = wfun n lo hi) → Ending.returned (.int .i64 v) = .returned (.int .i64 (wfun n lo hi)) := fun v h => by rw [h]
  have hd : Hid (wfun n lo hi = if lo ≤ n ∧ n ≤ hi then n else lo + (if n.tmod (hi - lo + 1) < 0 then n.tmod (hi - lo + 1) + hi - lo + 1 else n.tmod (hi - lo + 1))) := rfl
  generalize wfun n lo hi = R at *
  go_enter Try.func15, Try.ntmps15
  go_wp2
  all_goals go_ret
  all_goals refine ⟨hw _ ?_, rfl⟩
  all_goals (rw [hd.out]; (repeat split) <;> omega)

theorem next_size (r : Int) (h1 : 0 ≤ r) (h2 : r ≤ 9) : ¬ 9223372036854775807 < 1 + (Utf8.encode (48 + r)).size := by
  obtain ⟨k, rfl⟩ : ∃ k : Nat, r = (k : Int) := ⟨r.toNat, by omega⟩
  have : k < 10 := by omega
  have h : ∀ k : Fin 10, (Utf8.encode (48 + ((k.val : Nat) : Int))).size ≤ 4 := by decide +kernel
  have := h ⟨k, this⟩
  simp only at this
  omega

theorem next_ok (r : Int) (h1 : 0 ≤ r) (h2 : r ≤ 9) : okName (⟨#[102]⟩ ++ Utf8.encode (48 + r)) = true ∧ (⟨#[102]⟩ ++ Utf8.encode (48 + r) : ByteArray).size ≤ 9223372036854775807 := by
  obtain ⟨k, rfl⟩ : ∃ k : Nat, r = (k : Int) := ⟨r.toNat, by omega⟩
  have : k < 10 := by omega
  have h : ∀ k : Fin 10, okName (⟨#[102]⟩ ++ Utf8.encode (48 + ((k.val : Nat) : Int))) = true ∧ (⟨#[102]⟩ ++ Utf8.encode (48 + ((k.val : Nat) : Int)) : ByteArray).size ≤ 9223372036854775807 := by decide +kernel
  exact h ⟨k, this⟩

theorem ne_list {a b : ByteArray} (h : a ≠ b) : (a.toList == b.toList) = false := by
  cases hz : (a.toList == b.toList) with
  | false => rfl
  | true => exact absurd (toList_inj (by simpa using hz)) h

theorem wit_lo {n lo hi r : Int} (h : Wit n lo hi r) : lo ≤ r := h.1
theorem wit_hi {n lo hi r : Int} (h : Wit n lo hi r) : r ≤ hi := h.2.1

set_option maxHeartbeats 4000000 in
set_option maxRecDepth 100000 in
theorem names_walk (ao : Option Addr) (la ca : Nat) (xs : List Int) (bo : Option Addr) (lb cb : Nat) (zs : List Int) (w : World) (ha : Tx w ao la ca xs) (hz : Ix w bo lb cb zs) :
    Calls Try.prog 7 #[.slice ao la ca, .slice bo lb cb] w fun e w' => e = .returned (.bool true) ∧ Below w.heap.size w w' := by
  have hl0 : (⟨1000, [], 0, false⟩ : Dm).files.length ≤ 1000000 := by simp
  have hs1 : (⟨#[102, 48]⟩ : ByteArray).size ≤ 9223372036854775807 := by decide
  obtain ⟨D1, D2, e1, e2, I2, hD1⟩ := names_start (xs.take 100) (by simp; omega)
  have e1 : Hid ((⟨1000, [], 0, false⟩ : Dm).create ⟨#[102, 48]⟩ = (D1, 0)) := e1
  have e2 : Hid (D1.append ⟨#[102, 48]⟩ (xs.take 100) = (D2, 0)) := e2
  have hel := fun wr Dr nx D' (h : Dl w.heap.size wr w.heap.size Dr) hE hn => append_l h nx (some ⟨wr.heap.size, 0, none⟩) 5 5 [111, 116, 104, 101, 114] _ ((Below.refl _ _).alloc (Nat.le_refl _) _) (tx_lit wr #[.int .u8 111, .int .u8 116, .int .u8 104, .int .u8 101, .int .u8 114] (5, 6) [111, 116, 104, 101, 114] 5 rfl rfl (by omega) (by simp)) (fun ad ha _ => by cases ha; exact .inr (Nat.le_refl _)) (by omega) D' 0 hE hn
  go_enter Try.func7, Try.ntmps7
  go_wp2_with (first
    | (go_at_call 9; with_reducible refine (new_l 1000 1000 rfl (by omega) w).mono ?_; rintro e w1 ⟨rfl, d1, b1⟩)
    | (go_at_call 16; with_reducible refine (kcut_any ao la ca 100 100 rfl xs w ha (by omega) w1).mono ?_; rintro e w1' ⟨l0, rfl, hl0', tA, rfl⟩)
    | (go_at_call 17; with_reducible refine (create_l d1 ⟨#[102, 48]⟩ D1 0 e1.out hl0 hs1).mono ?_; rintro e w2 ⟨rfl, d2, b2⟩; have b12 := b1.trans b2)
    | (go_at_call 18; with_reducible refine (append_l d2 ⟨#[102, 48]⟩ ao l0 ca (xs.take 100) w2 (Below.refl _ _) (tA.later b12) (fun ad h1 h2 => .inl (tA.low ad h1 h2)) (by omega) D2 0 e2.out (by omega)).mono ?_; rintro e w3 ⟨rfl, d3, b3⟩; have b13 := b12.trans b3))
  have hsl := tA.le
  have hst := tA.top
  have hzl := hz.len_eq
  have hzc := hz.le
  have hzt := hz.top
  unfold maxLen at hst hzt
  go_loopw [7, 8] (fun nw i wr => ∃ (nm : ByteArray) (k : Nat) (D : Dm), nw = .string nm ∧ i = .int .i64 k ∧ k ≤ 20 ∧ k ≤ lb ∧ NInv D nm (xs.take 100) (100 + 5 * k) (1 + k) ∧ Dl w.heap.size wr w.heap.size D ∧ Below w.heap.size w wr) (fun _ i _ => 20 - (intOf i).toNat)
  case atStart => exact ⟨_, 0, D2, rfl, rfl, by omega, by omega, I2, d3, b13⟩
  case round =>
    obtain ⟨nm, k, D, rfl, rfl, hk20, hklb, I, dr, br⟩ := hrel
    by_cases hlt : k < lb ∧ k < 20
    · obtain ⟨zb, zo, rfl, hzcell⟩ := hz.head (by omega)
      have cz := hzcell k hlt.1
      have rz := hz.rngAt k
      generalize zs.getD k 0 = z at cz rz
      have cz := cell_later br cz
      have hq1 : (k : Int) < (lb : Int) := by omega
      have hq2 : (k : Int) < 20 := by omega
      clear hzcell
      have hwi := within_eq z 0 9 rz.1 rz.2 (by omega) (by omega) (by omega) wr
      obtain ⟨hr1, hr2⟩ := wfun_rng z 0 9 (by omega)
      generalize wfun z 0 9 = r at hwi hr1 hr2
      obtain ⟨hok, hsz⟩ := next_ok r hr1 hr2
      have hsz2 := next_size r hr1 hr2
      obtain ⟨nx, hnx⟩ : ∃ nx : ByteArray, (⟨#[102]⟩ ++ Utf8.encode (48 + r) : ByteArray) = nx := ⟨_, rfl⟩
      rw [hnx] at hok hsz
      have hokH : Hid (okName nx = true) := hok
      clear hok
      have hlen : D.files.length ≤ 21 := by have := I.len; omega
      by_cases h3 : k % 3 = 0
      · have m1 : (k : Int) % 3 = 0 := by omega
        clear h3
        by_cases hsame : nx = nm
        · -- nothing is laid there
          obtain ⟨D3, e3, I3, g3⟩ := ninv_turn I hokH.out
          have e3 : Hid (D.rename nm nx = (D3, 0)) := e3
          have r3 : Hid (rd D3.files nx = xs.take 100 ∧ (get D3.files nx).isSome = true) := ⟨rd_some I3.got, by rw [I3.got]; rfl⟩
          have hlen3 : D3.files.length ≤ 22 := by have := I3.len; omega
          obtain ⟨ob, hob⟩ : ∃ ob, Hid (rd D3.files nm = ob) := ⟨_, rfl⟩
          have g3 : Hid ((get D3.files nm).isSome = true) := by show _ = _; rw [g3, hsame]; simp
          have t1 : nx.toList = nm.toList := by rw [hsame]
          clear hsame
          go_wp2_with (first
            | (go_at_call 15; with_reducible refine hwi.mono ?_; rintro e wr' ⟨rfl, rfl⟩)
            | (go_at_call 20; with_reducible refine (rename_l dr nm nx D3 0 e3.out (by omega) hsz).mono ?_; rintro e w4 ⟨rfl, d4, b4⟩; have c4 := br.trans b4)
            | (go_at_call 22; with_reducible refine (read_l d4 nx (xs.take 100) true r3.out.1 r3.out.2 (by omega)).mono ?_; rintro e w5 ⟨bo5, lb5, cb5, rfl, t5, d5, b5⟩; have c5 := c4.trans (b5.mono d4.size))
            | (go_at_call 22; with_reducible refine (read_l d5 nm ob true hob.out g3.out (by omega)).mono ?_; rintro e w6 ⟨bo6, lb6, cb6, rfl, t6, d6, b6⟩; have c6 := c5.trans (b6.mono d5.size); have s5 := (t5.later b6).string; have s6 := (tA.later c6).string))
          go_roundw
          case rel => exact ⟨nx, k + 1, D3, rfl, by go_num, by omega, by omega, I3.up (by omega) (by omega), d6, c6⟩
          case measure => simp [intOf]; omega
        · obtain ⟨Da, Db, ea, eb, Ib, hDa⟩ := ninv_other (c := [111, 116, 104, 101, 114]) I hsame hokH.out (by simp; omega)
          have ea : Hid (D.create nx = (Da, 0)) := ea
          have eb : Hid (Da.append nx [111, 116, 104, 101, 114] = (Db, 0)) := eb
          have hlb : Db.files.length ≤ 22 := by have := Ib.len; omega
          simp only [List.length_cons, List.length_nil] at Ib
          obtain ⟨D3, e3, I3, g3⟩ := ninv_turn Ib hokH.out
          have e3 : Hid (Db.rename nm nx = (D3, 0)) := e3
          have r3 : Hid (rd D3.files nx = xs.take 100 ∧ (get D3.files nx).isSome = true) := ⟨rd_some I3.got, by rw [I3.got]; rfl⟩
          have hlen3 : D3.files.length ≤ 22 := by have := I3.len; omega
          obtain ⟨ob, hob⟩ : ∃ ob, Hid (rd D3.files nm = ob) := ⟨_, rfl⟩
          have g3 : Hid ((get D3.files nm).isSome = false) := by show _ = _; rw [g3]; simp [hsame]
          have t1 : ¬ nx.toList = nm.toList := fun e => hsame (toList_inj e)
          have t2 : (nx.toList == nm.toList) = false := ne_list hsame
          clear hsame
          go_wp2_with (first
            | (go_at_call 15; with_reducible refine hwi.mono ?_; rintro e wr' ⟨rfl, rfl⟩)
            | (go_at_call 17; with_reducible refine (create_l dr nx Da 0 ea.out (by omega) hsz).mono ?_; rintro e wa ⟨rfl, da, ba⟩; have cv := conv_other wa; have hel2 := hel wa Da nx Db da eb.out (by omega); have ca' := br.trans ba)
            | (go_at_call 18; with_reducible refine hel2.mono ?_; rintro e wb ⟨rfl, db, bb⟩; have cb' := ca'.trans bb)
            | (go_at_call 20; with_reducible refine (rename_l db nm nx D3 0 e3.out (by omega) hsz).mono ?_; rintro e w4 ⟨rfl, d4, b4⟩; have c4 := cb'.trans b4)
            | (go_at_call 22; with_reducible refine (read_l d4 nx (xs.take 100) true r3.out.1 r3.out.2 (by omega)).mono ?_; rintro e w5 ⟨bo5, lb5, cb5, rfl, t5, d5, b5⟩; have c5 := c4.trans (b5.mono d4.size))
            | (go_at_call 22; with_reducible refine (read_l d5 nm ob false hob.out g3.out (by omega)).mono ?_; rintro e w6 ⟨bo6, lb6, cb6, rfl, t6, d6, b6⟩; have c6 := c5.trans (b6.mono d5.size); have s5 := (t5.later b6).string; have s6 := (tA.later c6).string))
          go_roundw
          case rel => exact ⟨nx, k + 1, D3, rfl, by go_num, by omega, by omega, I3.up (by omega) (by omega), d6, c6⟩
          case measure => simp [intOf]; omega
      · have m1 : ¬ (k : Int) % 3 = 0 := by omega
        clear h3
        by_cases hsame : nx = nm
        · -- nothing is laid there
          obtain ⟨D3, e3, I3, g3⟩ := ninv_turn I hokH.out
          have e3 : Hid (D.rename nm nx = (D3, 0)) := e3
          have r3 : Hid (rd D3.files nx = xs.take 100 ∧ (get D3.files nx).isSome = true) := ⟨rd_some I3.got, by rw [I3.got]; rfl⟩
          have hlen3 : D3.files.length ≤ 22 := by have := I3.len; omega
          obtain ⟨ob, hob⟩ : ∃ ob, Hid (rd D3.files nm = ob) := ⟨_, rfl⟩
          have g3 : Hid ((get D3.files nm).isSome = true) := by show _ = _; rw [g3, hsame]; simp
          have t1 : nx.toList = nm.toList := by rw [hsame]
          clear hsame
          go_wp2_with (first
            | (go_at_call 15; with_reducible refine hwi.mono ?_; rintro e wr' ⟨rfl, rfl⟩)
            | (go_at_call 20; with_reducible refine (rename_l dr nm nx D3 0 e3.out (by omega) hsz).mono ?_; rintro e w4 ⟨rfl, d4, b4⟩; have c4 := br.trans b4)
            | (go_at_call 22; with_reducible refine (read_l d4 nx (xs.take 100) true r3.out.1 r3.out.2 (by omega)).mono ?_; rintro e w5 ⟨bo5, lb5, cb5, rfl, t5, d5, b5⟩; have c5 := c4.trans (b5.mono d4.size))
            | (go_at_call 22; with_reducible refine (read_l d5 nm ob true hob.out g3.out (by omega)).mono ?_; rintro e w6 ⟨bo6, lb6, cb6, rfl, t6, d6, b6⟩; have c6 := c5.trans (b6.mono d5.size); have s5 := (t5.later b6).string; have s6 := (tA.later c6).string))
          go_roundw
          case rel => exact ⟨nx, k + 1, D3, rfl, by go_num, by omega, by omega, I3.up (by omega) (by omega), d6, c6⟩
          case measure => simp [intOf]; omega
        · -- nothing is laid there either
          obtain ⟨D3, e3, I3, g3⟩ := ninv_turn I hokH.out
          have e3 : Hid (D.rename nm nx = (D3, 0)) := e3
          have r3 : Hid (rd D3.files nx = xs.take 100 ∧ (get D3.files nx).isSome = true) := ⟨rd_some I3.got, by rw [I3.got]; rfl⟩
          have hlen3 : D3.files.length ≤ 22 := by have := I3.len; omega
          obtain ⟨ob, hob⟩ : ∃ ob, Hid (rd D3.files nm = ob) := ⟨_, rfl⟩
          have g3 : Hid ((get D3.files nm).isSome = false) := by show _ = _; rw [g3]; simp [hsame]
          have t1 : ¬ nx.toList = nm.toList := fun e => hsame (toList_inj e)
          have t2 : (nx.toList == nm.toList) = false := ne_list hsame
          clear hsame
          go_wp2_with (first
            | (go_at_call 15; with_reducible refine hwi.mono ?_; rintro e wr' ⟨rfl, rfl⟩)
            | (go_at_call 20; with_reducible refine (rename_l dr nm nx D3 0 e3.out (by omega) hsz).mono ?_; rintro e w4 ⟨rfl, d4, b4⟩; have c4 := br.trans b4)
            | (go_at_call 22; with_reducible refine (read_l d4 nx (xs.take 100) true r3.out.1 r3.out.2 (by omega)).mono ?_; rintro e w5 ⟨bo5, lb5, cb5, rfl, t5, d5, b5⟩; have c5 := c4.trans (b5.mono d4.size))
            | (go_at_call 22; with_reducible refine (read_l d5 nm ob false hob.out g3.out (by omega)).mono ?_; rintro e w6 ⟨bo6, lb6, cb6, rfl, t6, d6, b6⟩; have c6 := c5.trans (b6.mono d5.size); have s5 := (t5.later b6).string; have s6 := (tA.later c6).string))
          go_roundw
          case rel => exact ⟨nx, k + 1, D3, rfl, by go_num, by omega, by omega, I3.up (by omega) (by omega), d6, c6⟩
          case measure => simp [intOf]; omega
    · obtain ⟨D4, e4, e5, hl4⟩ := ninv_end I
      have e4 : Hid (D.remove nm = (D4, 0)) := e4
      have e5 : Hid (D4.remove nm = (D4, 22)) := e5
      have hlen : D.files.length ≤ 21 := by have := I.len; omega
      have hq : (k : Int) < (lb : Int) → ¬ (k : Int) < 20 := by omega
      clear hz
      go_wp2_with (first
        | (go_at_call 27; with_reducible refine (remove_l dr nm D4 0 e4.out (by omega)).mono ?_; rintro e w4 ⟨rfl, d4, b4⟩; have c4 := br.trans b4)
        | (go_at_call 27; with_reducible refine (remove_l d4 nm D4 22 e5.out (by omega)).mono ?_; rintro e w5 ⟨rfl, d5, b5⟩; have c5 := c4.trans b5)
        | (go_at_call 14; with_reducible refine (known_any w5).mono ?_; rintro e w6 ⟨rfl, b6⟩))
      all_goals go_ret
      all_goals exact ⟨rfl, c5.trans (b6.mono c5.size)⟩


end Go.Proofs.Ytadnbdkbjajgdaa
