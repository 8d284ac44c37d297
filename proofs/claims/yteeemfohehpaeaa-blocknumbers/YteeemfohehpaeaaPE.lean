/- The walk of the statements' own 'known'. The walks of block.readStarts and block.Restarts. The walk of block.Seek. -/
import Derived.Test.YteeemfohehpaeaaBWalksG
import Derived.Test.YteeemfohehpaeaaPD
import Derived.Test.YteeemfohehpaeaaPA
namespace Go.Proofs.Yteeemfohehpaeaa

section
set_option maxRecDepth 100000
open Go.RowKit

theorem build_yes (ao : Option Addr) (len cap : Nat) (l : List Ent) (w : World) (h : Lx 3 RE w ao len cap l) (hs : ∀ e ∈ l, e.k.length ≤ 1000000000000) (hm : mayB 255 l = true) (hf : fitB 0 0 [] l = true) (bs : List Int) (hbs : blockL l = bs) :
    Calls Try.prog 32 #[.slice ao len cap] w fun e w' => ∃ bo lb cb, e = .returned (.tuple #[.slice bo lb cb, .int .i64 0]) ∧ Tx w' bo lb cb bs ∧ Below w.heap.size w w' := by
  refine (build_any ao len cap l w h hs).mono ?_
  rintro e w' (⟨h1, _⟩ | ⟨_, h2, _⟩ | ⟨_, _, bo, lb, cb, rfl, g, b⟩)
  · rw [hm] at h1; cases h1
  · rw [hf] at h2; cases h2
  · exact ⟨bo, lb, cb, rfl, by rw [← hbs]; exact g.tx, b⟩
theorem build_arg (ao : Option Addr) (len cap : Nat) (l : List Ent) (w : World) (h : Lx 3 RE w ao len cap l) (hs : ∀ e ∈ l, e.k.length ≤ 1000000000000) (hm : mayB 255 l = false) :
    Calls Try.prog 32 #[.slice ao len cap] w fun e w' => e = .returned (.tuple #[.slice none 0 0, .int .i64 1]) ∧ Below w.heap.size w w' := by
  refine (build_any ao len cap l w h hs).mono ?_
  rintro e w' (⟨_, h2, h3⟩ | ⟨h1, _⟩ | ⟨h1, _⟩)
  · exact ⟨h2, h3⟩
  · rw [hm] at h1; cases h1
  · rw [hm] at h1; cases h1
theorem build_long (ao : Option Addr) (len cap : Nat) (l : List Ent) (w : World) (h : Lx 3 RE w ao len cap l) (hs : ∀ e ∈ l, e.k.length ≤ 1000000000000) (hm : mayB 255 l = true) (hf : fitB 0 0 [] l = false) :
    Calls Try.prog 32 #[.slice ao len cap] w fun e w' => e = .returned (.tuple #[.slice none 0 0, .int .i64 3]) ∧ Below w.heap.size w w' := by
  refine (build_any ao len cap l w h hs).mono ?_
  rintro e w' (⟨h1, _⟩ | ⟨_, _, h2, h3⟩ | ⟨_, h2, _⟩)
  · rw [hm] at h1; cases h1
  · exact ⟨h2, h3⟩
  · rw [hf] at h2; cases h2
theorem all_yes (X : List Nat) (ao : Option Addr) (la ca : Nat) (xs : List Int) (w : World) (ha : Tx w ao la ca xs) (sa : la ≤ 900000000) (hX : ∀ q ∈ X, q < w.heap.size) (es : List Ent) (h : allB xs = some es) :
    Calls Try.prog 28 #[.slice ao la ca] w fun e w' => ∃ bo lb cb, e = .returned (.tuple #[.slice bo lb cb, .int .i64 0]) ∧ Lx 3 (REx X) w' bo lb cb es ∧ Below w.heap.size w w' := by
  refine (all_any X ao la ca xs w ha sa hX).mono ?_
  rintro e w' (⟨es', bo, lb, cb, h1, rfl, hl, hb⟩ | ⟨h1, _⟩)
  · rw [h] at h1; cases h1; exact ⟨bo, lb, cb, rfl, hl, hb⟩
  · rw [h] at h1; cases h1
theorem all_nope (ao : Option Addr) (la ca : Nat) (xs : List Int) (w : World) (ha : Tx w ao la ca xs) (sa : la ≤ 900000000) (h : allB xs = none) :
    Calls Try.prog 28 #[.slice ao la ca] w fun e w' => e = .returned (.tuple #[.slice none 0 0, .int .i64 12]) ∧ Below w.heap.size w w' := by
  refine (all_any [] ao la ca xs w ha sa (by simp)).mono ?_
  rintro e w' (⟨es', bo, lb, cb, h1, _⟩ | ⟨_, h2, h3⟩)
  · rw [h] at h1; cases h1
  · exact ⟨h2, h3⟩

theorem lx_ent_two (V : World) {k v k2 v2 : Value} {e e2 : Ent} (hk : BytesAt V [] k e.k) (hv : BytesAt V [] v e.v) (hk2 : BytesAt V [] k2 e2.k) (hv2 : BytesAt V [] v2 e2.v) (G G2 : Bool) (hG : G = e.g) (hG2 : G2 = e2.g) :
    Lx 3 RE (V.alloc (.cells #[k, v, .bool G, k2, v2, .bool G2] 25)) (some ⟨V.heap.size, 0, none⟩) 2 2 [e, e2] ∧ Below V.heap.size V (V.alloc (.cells #[k, v, .bool G, k2, v2, .bool G2] 25)) := by
  have hb : Below V.heap.size V (V.alloc (.cells #[k, v, .bool G, k2, v2, .bool G2] 25)) := (Below.refl _ _).alloc (Nat.le_refl _) _
  refine ⟨⟨rfl, Nat.le_refl _, by unfold maxLen; omega, fun h => (by cases h), fun ad ha j x hx => ?_⟩, hb⟩
  cases ha
  have hj : j < 2 := by have := (List.getElem?_eq_some_iff.1 hx).1; simpa using this
  have h3 : j = 0 ∨ j = 1 := by omega
  rcases h3 with rfl | rfl
  · simp at hx
    subst hx
    refine ⟨[k, v, .bool G], fun i y hy => ?_, k, v, by rw [hG], hk.off (.of_below hb) (by simp), hv.off (.of_below hb) (by simp)⟩
    have hi : i < 3 := by have := (List.getElem?_eq_some_iff.1 hy).1; simpa using this
    rw [Addr.add_lit, Nat.zero_add]
    refine cells_at V _ 25 _ y ?_
    have h3 : i = 0 ∨ i = 1 ∨ i = 2 := by omega
    rcases h3 with rfl | rfl | rfl <;> simpa using hy
  · simp at hx
    subst hx
    refine ⟨[k2, v2, .bool G2], fun i y hy => ?_, k2, v2, by rw [hG2], hk2.off (.of_below hb) (by simp), hv2.off (.of_below hb) (by simp)⟩
    have hi : i < 3 := by have := (List.getElem?_eq_some_iff.1 hy).1; simpa using this
    rw [Addr.add_lit, Nat.zero_add]
    refine cells_at V _ 25 _ y ?_
    have h3 : i = 0 ∨ i = 1 ∨ i = 2 := by omega
    rcases h3 with rfl | rfl | rfl <;> simpa using hy

def knE : List Ent := [⟨[97, 98], [], false⟩, ⟨[97, 99], [], true⟩]
def knB : List Int := [0, 2, 97, 98, 1, 0, 0, 1, 1, 99, 0, 0, 0, 1]
theorem kn_may : mayB 255 knE = true := by decide
theorem kn_fit : fitB 0 0 [] knE = true := by decide
theorem kn_block : blockL knE = knB := by decide
theorem kn_str : strOfNums knB = { data := #[0, 2, 97, 98, 1, 0, 0, 1, 1, 99, 0, 0, 0, 1] } := by decide
theorem kn_len : ∀ e ∈ knE, e.k.length ≤ 1000000000000 := by
  intro e he
  simp [knE] at he
  rcases he with rfl | rfl <;> simp

set_option maxHeartbeats 2000000 in
theorem known_any (w : World) : Calls Try.prog 13 #[] w fun e w' => e = .returned (.bool true) ∧ Below w.heap.size w w' := by
  have hr1 : ∀ x ∈ ([97, 98] : List Int), 0 ≤ x ∧ x ≤ 255 := by decide
  have hr2 : ∀ x ∈ ([97, 99] : List Int), 0 ≤ x ∧ x ≤ 255 := by decide
  have hno : mayB 255 [] = false := rfl
  go_enter Try.func13, Try.ntmps13
  go_wp2_with (first
    | (with_reducible show wpList _ _ _ (⟨some 9, _, _, _, _, _⟩ :: _) _ _; refine wpList_convs rfl _ rfl w w.heap.size #[.int .u8 97, .int .u8 98] [97, 98] 2 rfl rfl rfl rfl rfl (by omega) hr1 ?_; intro W1 t1 b1)
    | (with_reducible show wpList _ _ _ (⟨some 12, _, _, _, _, _⟩ :: _) _ _; refine wpList_convs rfl _ rfl W1 W1.heap.size #[.int .u8 97, .int .u8 99] [97, 99] 2 rfl rfl rfl rfl rfl (by omega) hr2 ?_; intro W2 t2 b2; have hlx := lx_ent_two W2 (e := ⟨[97, 98], [], false⟩) (e2 := ⟨[97, 99], [], true⟩) ((t1.later b2).at [] (by simp)) ((Tx.nil W2).at [] (by simp)) (t2.at [] (by simp)) ((Tx.nil W2).at [] (by simp)) false true rfl rfl; have hbu := build_yes _ _ _ knE _ hlx.1 kn_len kn_may kn_fit knB kn_block)
    | (go_at_call 32; with_reducible refine hbu.mono ?_; rintro e W3 ⟨bo, lb, cb, rfl, t3, b3⟩; have hal := all_nope none 0 0 [] W3 (Tx.nil W3) (by omega) rfl)
    | (go_at_call 28; with_reducible refine hal.mono ?_; rintro e W4 ⟨rfl, b4⟩; have hba := build_arg none 0 0 [] W4 (Lx.nil _ _ _) (by simp) hno; have s3 := (t3.later b4).string; rw [kn_str] at s3)
    | (go_at_call 32; with_reducible refine hba.mono ?_; rintro e W5 ⟨rfl, b5⟩; have s5 := ((t3.later b4).later b5).string; rw [kn_str] at s5))
  go_ret
  have B2 := b1.trans (b2.mono b1.size)
  have B3 := B2.trans ((hlx.2.trans (b3.mono hlx.2.size)).mono B2.size)
  have B4 := B3.trans (b4.mono B3.size)
  exact ⟨rfl, B4.trans (b5.mono B4.size)⟩
end

section
set_option maxRecDepth 100000
open Go.RowKit

/-- A number as an element. -/
def RI : Reads Int := fun _ _ u n => u = [.int .i64 n]
theorem RI.st : Stable RI := fun _ _ _ _ _ _ h _ _ => h
theorem RI.pl : Plain 1 RI := by
  rintro w S u n rfl
  exact ⟨rfl, by simp [Value.oneCell']⟩
theorem RI.mk (w : World) (S : List Nat) (v : Int) : RI w S [.int .i64 v] v := rfl
theorem Try.info3 : (Try.prog.info? 3).map (fun i => (i.zero, i.size, i.bytes)) = some (some (.int .i64 0), 1, 8) := by kernel_rfl

theorem start_head (l : List Ent) (h : 1 ≤ l.length) : ∃ r, startL 0 0 [] l = [0, 0] ++ r := by
  cases l with
  | nil => simp at h
  | cons e l => exact ⟨_, by simp [startL, low2]; rfl⟩
theorem startL_bytes : ∀ (l : List Ent) (i o : Nat) (p : List Int), Bytes (startL i o p l)
  | [], _, _, _ => by simp [startL, Bytes]
  | e :: l, i, o, p => by
    unfold startL
    refine Bytes.app ?_ (startL_bytes l _ _ _)
    split
    · exact Bytes.low 2 _
    · exact Bytes.nil

set_option maxHeartbeats 4000000 in
theorem readstarts_yes (ao : Option Addr) (la ca : Nat) (xs : List Int) (w : World) (ha : Tx w ao la ca xs) (sa : la ≤ 900000000) (l : List Ent) (h : allB xs = some l) :
    Calls Try.prog 55 #[.slice ao la ca] w fun e w' => ∃ bo cb, e = .returned (.slice bo (cntB l) cb) ∧ (∃ g o, bo = some ⟨g, o, none⟩ ∧ w'.cell? ⟨g, o, none⟩ = some (.int .i64 0)) ∧ Below w.heap.size w w' := by
  obtain ⟨h1, _⟩ := (allB_iff xs l).1 h
  obtain ⟨m1, m2, hx⟩ := (validB_iff l xs).1 h1
  obtain ⟨n1, n2, n3⟩ := (mayB_iff 255 l).1 m1
  have hp0 := parts_block l
  rw [hx] at hp0
  obtain ⟨tl, htl⟩ := start_head l n1
  have hcl := start_cnt l
  have hc1 : 1 ≤ cntB l ∧ cntB l ≤ 64 := by unfold cntB; omega
  clear h1 m1 m2 n1 n2 n3 h
  generalize startL 0 0 [] l = st at hp0 htl hcl
  generalize cntB l = C at hcl hc1
  have hpa := parts_any ao la ca xs w ha sa
  go_enter Try.func55, Try.ntmps55
  go_wp2_with fail
  with_reducible refine hpa.mono ?_
  clear hpa
  rintro e W (⟨r0, st', bo, l1, c1, co, l2, c2, hp, rfl, _, t2, b1⟩ | ⟨hp, rfl, b1⟩)
  rotate_left
  · rw [hp0] at hp; cases hp
  have hst : st' = st := by rw [hp0] at hp; cases hp; rfl
  subst hst
  have hl2 := t2.len_eq
  have R0 := Rd.one W co l2 c2 st' (t2.later b1)
  have bW : Below W.heap.size W (W.alloc (.cells #[.slice co l2 c2] 109)) := (Below.refl _ _).alloc (Nat.le_refl _) _
  have hw := b1.size
  clear hp hp0
  go_wp2
  generalize W.alloc (.cells #[.slice co l2 c2] 109) = V0 at R0 bW ⊢
  go_loopw [6] (fun s6 V => ∃ (j m : Nat) (qo : Option Addr) (qc : Nat) (ns : List Int), s6 = .slice qo m qc ∧ Hid (m = j) ∧ j ≤ C ∧ ns.length = j ∧ Hid (0 < j → ns[0]? = some 0) ∧ Ls 3 1 RI V (W.heap.size + 1) (.slice qo m qc) ns ∧ (∃ ro rl rc, Rd W V W.heap.size ro rl rc (st'.drop (2 * j)) ∧ rl ≤ 900000000) ∧ Below w.heap.size w V ∧ W.heap.size + 1 ≤ V.heap.size) (fun s6 _ => 100 - sliceLen s6)
  case atStart => exact ⟨0, 0, none, 0, [], rfl, rfl, by omega, rfl, fun h => (by omega), Ls.nil _ _ _ _ _, ⟨_, _, _, by simpa using R0, by omega⟩, b1.trans (bW.mono hw), R0.lt⟩
  case round =>
    obtain ⟨j, m, qo, qc, ns, rfl, hmj, hj, hns, hh0, ls, ⟨ro, rl, rc, Rk, srl⟩, hB, hsz⟩ := hrel
    obtain rfl : m = j := hmj.out
    have cc := Rk.cell
    have hrl := Rk.tx.len_eq
    rw [List.length_drop] at hrl
    by_cases hmC : m < C
    · have hby : Bytes (st'.drop (2 * m)) := Rk.tx.rng
      have n1 := bnum_yes W W.heap.size ro rl rc _ 2 2 rfl (by omega) (by omega) (num2 (st'.drop (2 * m))) (fun _ => num2_get _ hby (by rw [List.length_drop]; omega)) (num2_rng hby).1 (by have := (num2_rng hby).2; omega) wr Rk srl (by omega)
      have hfirst : m = 0 → num2 (st'.drop (2 * m)) = 0 := fun h0 => by rw [h0, htl]; simp [num2]
      have hdd : (st'.drop (2 * m)).drop 2 = st'.drop (2 * (m + 1)) := by rw [List.drop_drop]; congr 1
      rw [hdd] at n1
      generalize num2 (st'.drop (2 * m)) = v at n1 hfirst
      have hrlp : (0 : Int) < rl := by omega
      have hst2 : ∀ (w2 : World), Off [W.heap.size] wr w2 → Ls 3 1 RI w2 (W.heap.size + 1) (.slice qo m qc) ns := fun w2 ho => by
        obtain ⟨us, u1, u2, u3⟩ := ls
        exact ⟨us, u1, rows_offB u2 ho (fun q hq hk => by have := (own_lt u2 q hq).2; simp at hk; omega), fun i u e hu he => u3 i u e hu he⟩
      have hml : Hid (ns.length = m) := hns
      have hl9 : ns.length ≤ 1000000000 := by omega
      go_wp2_with fail
      with_reducible refine n1.mono ?_
      rintro e1 w2 ⟨b9, o9, rl9, rc9, rfl, R9, O2⟩
      have L2 := (hst2 w2 O2).later RI.st ((Below.refl w2.heap.size w2).alloc (Nat.le_refl _) (.cells #[.int .i64 v] 3))
      have hs2 : W.heap.size + 1 ≤ w2.heap.size := by have := O2.size; omega
      have hr9 : rl9 ≤ 900000000 := by have := R9.tx.len_eq; rw [List.length_drop] at this; omega
      clear n1 hst2
      go_wp2_with (with_reducible show wpList _ _ _ (⟨some 25, _, _, _, _, _⟩ :: _) _ _; refine wpList_one RI.st RI.pl Try.underlying58 Try.info3 rfl (by omega) (by omega) rfl _ _ rfl (W.heap.size + 1) (.slice qo m qc) ns rfl L2 ⟨w2.heap.size, 0, none⟩ 1 [.int .i64 v] v rfl (lx_cell_one w2 _ 3) (RI.mk _ _ _) hl9 (by simp; omega) ?_; intro ao5 n5 c5 w5 hn5 hls5 hof5 hsub5; have hn6 : n5 = m + 1 := (by have := hml.out; omega); clear hn5; subst hn6)
      go_roundw
      case rel =>
        have hb2 : Below w.heap.size w w2 := hB.trans (O2.below (by simpa using hw) hB.size)
        have bA : Below w2.heap.size w2 (w2.alloc (.cells #[.int .i64 v] 3)) := (Below.refl _ _).alloc (Nat.le_refl _) _
        refine ⟨m + 1, m + 1, ao5, c5, ns ++ [v], rfl, rfl, by omega, by simp [hns], fun _ => ?_, hls5, ⟨_, _, _, (R9.later bA).off hof5 (fun hq => by have := (ls.lt _ hq).2; omega) (fun q hq => by have := (ls.lt q hq).2; omega), hr9⟩, ?_, ?_⟩
        · by_cases hm0 : m = 0
          · have : ns = [] := List.eq_nil_of_length_eq_zero (by omega)
            rw [this, hfirst hm0]; rfl
          · rw [List.getElem?_append_left (by omega)]; exact hh0.out (by omega)
        · exact (hb2.trans (bA.mono hb2.size)).trans (hof5.below (fun q hq => by have := (ls.lt q hq).2; omega) (by have := hb2.size; simp; omega))
        · have := hof5.size; simp at this; omega
      case measure => simp [sliceLen]; omega
    · have hz : rl = 0 := by omega
      subst hz
      obtain ⟨qo', qc', e9, hlx⟩ := ls.read RI.st RI.pl
      simp only [Value.slice.injEq] at e9
      obtain ⟨rfl, e10, rfl⟩ := e9
      obtain ⟨g, o, hg, hc⟩ := hlx.head RI.pl (by omega) (by omega)
      obtain ⟨u, hu1, hu2⟩ := hc 0 0 (hh0.out (by omega))
      have hcell : wr.cell? ⟨g, o, none⟩ = some (.int .i64 0) := by
        have hu3 : u = [.int .i64 0] := hu2
        subst hu3
        simpa using hu1 0 _ rfl
      have hmC2 : Hid (m = C) := by show _ = _; omega
      subst hg
      clear hlx hc e10
      go_wp2
      go_ret
      exact ⟨some ⟨g, o, none⟩, ⟨qc, by show Ending.returned (.slice (some ⟨g, o, none⟩) m qc) = _; rw [hmC2.out]⟩, ⟨g, o, rfl, hcell⟩, hB⟩
end

section
set_option maxRecDepth 100000
open Go.RowKit

/-- What Seek answers. -/
def SeekPost (w : World) (xs ks : List Int) (e : Ending) (w' : World) : Prop :=
  ((∃ en ko kl kc vo vl vc, seekL (entsOf xs) ks = some en ∧ e = .returned (.tuple #[.agg #[.slice ko kl kc, .slice vo vl vc, .bool en.g], .bool true]) ∧ Tx w' ko kl kc en.k ∧ Tx w' vo vl vc en.v) ∨ (seekL (entsOf xs) ks = none ∧ e = .returned (.tuple #[.agg #[.slice none 0 0, .slice none 0 0, .bool false], .bool false]))) ∧ Below w.heap.size w w'

theorem ents_len (xs : List Int) : ∀ e ∈ entsOf xs, e.k.length ≤ 255 := by
  intro e he
  unfold entsOf at he
  cases h : allB xs with
  | none => rw [h] at he; simp at he
  | some l =>
    rw [h] at he
    obtain ⟨h1, _⟩ := (allB_iff xs l).1 h
    obtain ⟨m1, _⟩ := (validB_iff l xs).1 h1
    obtain ⟨_, _, n3⟩ := (mayB_iff 255 l).1 m1
    exact ((fitsE_iff e).1 (okL_fits l [] n3 e (by simpa using he))).2.1

theorem seek_hit {w V : World} {xs ks : List Int} {en : Ent} {ko vo : Option Addr} {kl kc vl vc : Nat} {G : Bool} (hG : en.g = G) (h : seekL (entsOf xs) ks = some en) (hlt : ∀ ad, ko = some ad → 0 < kl → ad.block ≠ w.heap.size) (hlt2 : ∀ ad, vo = some ad → 0 < vl → ad.block ≠ w.heap.size) (tk : Tx V ko kl kc en.k) (tv : Tx V vo vl vc en.v) (hb : Below w.heap.size w V) :
    SeekPost w xs ks (.returned (.tuple #[.agg #[.slice ko kl kc, .slice vo vl vc, .bool G], .bool true])) (((V.setCell ⟨w.heap.size, 0, none⟩ (.slice ko kl kc)).setCell ⟨w.heap.size, 1, none⟩ (.slice vo vl vc)).setCell ⟨w.heap.size, 2, none⟩ (.bool G)) := by
  subst hG
  have O3 : Off [w.heap.size] V (((V.setCell ⟨w.heap.size, 0, none⟩ (.slice ko kl kc)).setCell ⟨w.heap.size, 1, none⟩ (.slice vo vl vc)).setCell ⟨w.heap.size, 2, none⟩ (.bool en.g)) :=
    (((Off.refl [w.heap.size] V).setCell (p := ⟨w.heap.size, 0, none⟩) (by simp) _).setCell (p := ⟨w.heap.size, 1, none⟩) (by simp) _).setCell (p := ⟨w.heap.size, 2, none⟩) (by simp) _
  exact ⟨.inl ⟨en, ko, kl, kc, vo, vl, vc, h, rfl, tk.off O3 (fun ad ha h0 hk => by simp at hk; exact hlt ad ha h0 hk), tv.off O3 (fun ad ha h0 hk => by simp at hk; exact hlt2 ad ha h0 hk)⟩, hb.trans (O3.below (by simp) hb.size)⟩
theorem seek_miss {w V : World} {xs ks : List Int} (h : seekL (entsOf xs) ks = none) (hb : Below w.heap.size w V) :
    SeekPost w xs ks (.returned (.tuple #[.agg #[.slice none 0 0, .slice none 0 0, .bool false], .bool false])) (((V.setCell ⟨w.heap.size, 0, none⟩ (.slice none 0 0)).setCell ⟨w.heap.size, 1, none⟩ (.slice none 0 0)).setCell ⟨w.heap.size, 2, none⟩ (.bool false)) := by
  have O3 : Off [w.heap.size] V (((V.setCell ⟨w.heap.size, 0, none⟩ (.slice none 0 0)).setCell ⟨w.heap.size, 1, none⟩ (.slice none 0 0)).setCell ⟨w.heap.size, 2, none⟩ (.bool false)) :=
    (((Off.refl [w.heap.size] V).setCell (p := ⟨w.heap.size, 0, none⟩) (by simp) _).setCell (p := ⟨w.heap.size, 1, none⟩) (by simp) _).setCell (p := ⟨w.heap.size, 2, none⟩) (by simp) _
  exact ⟨.inr ⟨h, rfl⟩, hb.trans (O3.below (by simp) hb.size)⟩

set_option maxHeartbeats 4000000 in
theorem seek_any (ao : Option Addr) (la ca : Nat) (xs : List Int) (bo : Option Addr) (lb cb : Nat) (ks : List Int) (w : World) (ha : Tx w ao la ca xs) (hk : Tx w bo lb cb ks) (sa : la ≤ 900000000) (sk : lb ≤ 900000000) :
    Calls Try.prog 30 #[.slice ao la ca, .slice bo lb cb] w fun e w' => SeekPost w xs ks e w' := by
  have b0 : Below w.heap.size w (w.alloc (.cells #[.slice none 0 0, .slice none 0 0, .bool false] 25)) := (Below.refl _ _).alloc (Nat.le_refl _) _
  have bx0 := Boxf.new' w (.slice none 0 0) (.slice none 0 0) false
  go_enter Try.func30, Try.ntmps30
  go_wp2_with fail
  generalize w.alloc (.cells #[.slice none 0 0, .slice none 0 0, .bool false] 25) = V0 at b0 bx0 ⊢
  have hall := all_any [w.heap.size] ao la ca xs V0 (ha.later b0) sa (by simpa using bx0.lt)
  with_reducible refine hall.mono ?_
  clear hall
  intro e V1 hpost
  have hcase : ∃ (co : Option Addr) (lc cc : Nat) (z : Int), e = .returned (.tuple #[.slice co lc cc, .int .i64 z]) ∧ Lx 3 (REx [w.heap.size]) V1 co lc cc (entsOf xs) ∧ Below V0.heap.size V0 V1 := by
    rcases hpost with ⟨es, co, lc, cc, h1, rfl, hl, hb⟩ | ⟨h1, rfl, hb⟩
    · exact ⟨co, lc, cc, 0, rfl, by unfold entsOf; rw [h1]; exact hl, hb⟩
    · exact ⟨none, 0, 0, 12, rfl, by unfold entsOf; rw [h1]; exact Lx.nil _ _ _, hb⟩
  clear hpost
  obtain ⟨co, lc, cc, z, rfl, hl, b1⟩ := hcase
  have hkl := ents_len xs
  have hseek := fun k e => seek_at (entsOf xs) ks k e
  have hnone := seek_none (entsOf xs) ks
  have hlen := hl.len_eq
  have hle := hl.le
  have htop := hl.top
  unfold maxLen at htop
  have bw1 : Below w.heap.size w V1 := b0.trans (b1.mono b0.size)
  have bx1 := bx0.off (S := []) (.of_below b1) (by simp)
  have hz1 := bx1.lt
  by_cases h0 : 0 < lc
  · obtain ⟨b, off, rfl, hc⟩ := hl.headX h0
    go_wp2
    go_loopw [17] (fun i wr => ∃ k : Nat, k ≤ lc ∧ i = .int .i64 k ∧ Hid (∀ (j : Nat) (y : Ent), j < k → (entsOf xs)[j]? = some y → lessB y.k ks = true) ∧ Below V1.heap.size V1 wr) (fun i _ => lc - (intOf i).toNat)
    case atStart => exact ⟨0, by omega, rfl, fun j y hj => (by omega), Below.refl _ _⟩
    case round =>
      obtain ⟨k, hk2, rfl, hbef, hb⟩ := hrel
      have bxr := bx1.off (S := []) (.of_below hb) (by simp)
      have bwr : Below w.heap.size w wr := bw1.trans (hb.mono bw1.size)
      by_cases hk3 : k < lc
      · have hx : (entsOf xs)[k]? = some ((entsOf xs)[k]'(by omega)) := by simp
        obtain ⟨ko, kl, kc, vo, vl, vc, c0, c1, c2, tk, tv, nk, nv⟩ := hc k _ hx
        have hkle := hkl _ (List.getElem_mem (l := entsOf xs) (n := k) (by omega))
        generalize (entsOf xs)[k]'(by omega) = en at hx c2 tk tv hkle
        rw [tk.len_eq] at hkle
        have hX : Hid ((entsOf xs)[k]? = some en) := hx
        clear hx
        have c0 := cell_later hb c0
        have c1 := cell_later hb c1
        have c2 := cell_later hb c2
        obtain ⟨G, hG⟩ : ∃ G, Hid (en.g = G) := ⟨_, rfl⟩
        rw [hG.out] at c2
        have bx := Box.new wr (.slice ko kl kc) (.slice vo vl vc) G
        have hB := fun (o : Obj) => (hb.alloc hb.size o : Below V1.heap.size V1 (wr.alloc o))
        have hBw := fun (o : Obj) => (bwr.alloc bwr.size o : Below w.heap.size w (wr.alloc o))
        have hless := fun (o : Obj) => less_any ko bo kl kc lb cb en.k ks (wr.alloc o) (tk.later (hB o)) (hk.later (hBw o)) (by omega) (by omega)
        obtain ⟨F, hF⟩ : ∃ F, Hid (lessB en.k ks = F) := ⟨_, rfl⟩
        rw [hF.out] at hless
        cases F with
        | true =>
          have hnx : Hid (∀ (j : Nat) (y : Ent), j < k + 1 → (entsOf xs)[j]? = some y → lessB y.k ks = true) := fun j y hj hy => by
            by_cases hjk : j = k
            · subst hjk
              rw [hX.out] at hy
              cases hy
              exact hF.out
            · exact hbef.out j y (by omega) hy
          go_wp2_with (go_at_call 35; with_reducible refine (hless _).mono ?_; rintro r w1 ⟨rfl, b2⟩)
          go_roundw
          case rel => exact ⟨k + 1, by omega, by go_num, hnx, (hb.alloc hb.size _).trans (b2.mono (by have := hb.size; simp; omega))⟩
          case measure => simp [intOf]; omega
        | false =>
          have hfound : Hid (seekL (entsOf xs) ks = some en) := hseek k en hX.out hbef.out hF.out
          clear hseek hnone
          have nk' : ∀ ad, ko = some ad → 0 < kl → ad.block ≠ w.heap.size := fun ad h h0 => by simpa using nk ad h h0
          have nv' : ∀ ad, vo = some ad → 0 < vl → ad.block ≠ w.heap.size := fun ad h h0 => by simpa using nv ad h h0
          have hfin : ∀ (w1 : World), Below wr.heap.size wr w1 → Boxf w1 w.heap.size (.slice none 0 0) (.slice none 0 0) false ∧ SeekPost w xs ks (.returned (.tuple #[.agg #[.slice ko kl kc, .slice vo vl vc, .bool G], .bool true])) (((w1.setCell ⟨w.heap.size, 0, none⟩ (.slice ko kl kc)).setCell ⟨w.heap.size, 1, none⟩ (.slice vo vl vc)).setCell ⟨w.heap.size, 2, none⟩ (.bool G)) := fun w1 b =>
            ⟨bxr.off (S := []) (.of_below b) (by simp), seek_hit hG.out hfound.out nk' nv' (tk.later (hb.trans (b.mono hb.size))) (tv.later (hb.trans (b.mono hb.size))) (bwr.trans (b.mono bwr.size))⟩
          have bA : Below wr.heap.size wr (wr.alloc (.cells #[.slice ko kl kc, .slice vo vl vc, .bool G] 25)) := (Below.refl _ _).alloc (Nat.le_refl _) _
          go_wp2_with (go_at_call 35; with_reducible refine (hless _).mono ?_; rintro r w1 ⟨rfl, b2⟩; have bx2 := bx.later b2; have y0 := bx2.c0; have y1 := bx2.c1; have y2 := bx2.c2; have hf := hfin w1 (bA.trans (b2.mono bA.size)); have x0 := hf.1.c0; have x1 := hf.1.c1; have x2 := hf.1.c2; have z0 := hf.1.z 0; have z1 := hf.1.z 1; have z2 := hf.1.z 2)
          have q := box_set w1 w.heap.size (.slice ko kl kc) (.slice vo vl vc) _ _ hf.1 (.bool G)
          have hend := hf.2
          generalize ((w1.setCell ⟨w.heap.size, 0, none⟩ (.slice ko kl kc)).setCell ⟨w.heap.size, 1, none⟩ (.slice vo vl vc)).setCell ⟨w.heap.size, 2, none⟩ (.bool G) = F at q hend ⊢
          obtain ⟨q0, q1, q2⟩ := q
          exact bodyPost_ret (v := .tuple #[.agg #[.slice ko kl kc, .slice vo vl vc, .bool G], .bool true]) (by simp [results, Try.results30, go_sem, q0, q1, q2]) rfl hend
      · have hno : Hid (seekL (entsOf xs) ks = none) := hnone (fun j y hj hy => hbef.out j y (by omega) hy)
        obtain ⟨x0, x1, x2, zz⟩ := bxr
        have q := box_set wr w.heap.size (.slice none 0 0) (.slice none 0 0) _ _ ⟨x0, x1, x2, zz⟩ (.bool false)
        have z0 := zz 0
        have z1 := zz 1
        have z2 := zz 2
        have hend := seek_miss (w := w) (V := wr) hno.out bwr
        go_wp2
        generalize ((wr.setCell ⟨w.heap.size, 0, none⟩ (.slice none 0 0)).setCell ⟨w.heap.size, 1, none⟩ (.slice none 0 0)).setCell ⟨w.heap.size, 2, none⟩ (.bool false) = F at q hend ⊢
        obtain ⟨q0, q1, q2⟩ := q
        exact bodyPost_ret (v := .tuple #[.agg #[.slice none 0 0, .slice none 0 0, .bool false], .bool false]) (by simp [results, Try.results30, go_sem, q0, q1, q2]) rfl hend
  · obtain rfl : lc = 0 := by omega
    have hno : Hid (seekL (entsOf xs) ks = none) := hnone (fun j y hj hy => by omega)
    obtain ⟨x0, x1, x2, zz⟩ := bx1
    have q := box_set V1 w.heap.size (.slice none 0 0) (.slice none 0 0) _ _ ⟨x0, x1, x2, zz⟩ (.bool false)
    have z0 := zz 0
    have z1 := zz 1
    have z2 := zz 2
    have hend := seek_miss (w := w) (V := V1) hno.out bw1
    go_wp2
    refine wp_loop_rounds 1 ?_
    rw [rounds_succ]
    go_wp2
    generalize ((V1.setCell ⟨w.heap.size, 0, none⟩ (.slice none 0 0)).setCell ⟨w.heap.size, 1, none⟩ (.slice none 0 0)).setCell ⟨w.heap.size, 2, none⟩ (.bool false) = F at q hend ⊢
    obtain ⟨q0, q1, q2⟩ := q
    exact bodyPost_ret (v := .tuple #[.agg #[.slice none 0 0, .slice none 0 0, .bool false], .bool false]) (by simp [results, Try.results30, go_sem, q0, q1, q2]) rfl hend
end

end Go.Proofs.Yteeemfohehpaeaa
