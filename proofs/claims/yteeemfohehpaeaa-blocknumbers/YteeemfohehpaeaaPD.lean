/- The walks of the document's Put and All, of row, few and all. The walk of the document's All. The walks of frame's reader: number, text, entry. The walk of frame's reader's entry. The walk of frame.Entries: a panic of its reader is a refusal. The walks of the document's May and Batch, and of the statements' own 'batch'. The walk of the document's Batch. The walks of the document's reader: Num and Some. The walks of the document's reader's Some; both, whatever is left. Laws for FrameNumbers: constant texts, lists that are written out, a row of entries that is filled. -/
import Derived.Test.YteeemfohehpaeaaFWalksH
import Derived.Defers
import Derived.Recover
import Derived.Deep.RegionHeldLaw
import Derived.Test.YteeemfohehpaeaaPC
import Derived.Deep.MidRow
namespace Go.Proofs.Yteeemfohehpaeaa

section
set_option maxRecDepth 100000
open Go.RowKit

theorem RefPut.gr {w wr : World} {k : Nat} {xs : List Int} {n : Int} {ao : Option Addr} {l cap : Nat} {zs : List Int} (h : RefPut w wr k xs n 0 ao l cap zs) : Gr w.heap.size wr ao l cap (xs ++ low k n) := by
  have := h.eq
  simp [low] at this
  rw [← this]
  exact ⟨h.own, h.rng, h.below.size⟩

theorem refput_own (ao : Option Addr) (la ca : Nat) (n size : Int) (xs : List Int) (w : World) (ha : Tx w ao la ca xs) (sa : la ≤ 900000000) (_n1 : 0 ≤ n) (_n2 : n < 18446744073709551616)
    (h1 : -9223372036854775808 ≤ size) (h2 : size ≤ 9223372036854775807) :
    Calls Try.prog 26 #[.slice ao la ca, .int .u64 n, .int .i64 size] w fun e w' => ∃ bo lb cb, e = .returned (.slice bo lb cb) ∧ Gr w.heap.size w' bo lb cb (xs ++ low (clampN size) n) ∧ Below w.heap.size w w' := by
  have e1 := ha.len_eq
  have hk := clampN_cast size
  have hk8 := clampN_le size
  generalize clampN size = k at hk hk8
  have hsz : (size < 0 ∧ k ≤ 0) ∨ (size = 0 ∧ k ≤ 0) ∨ (0 < size ∧ size ≤ 8 ∧ size = k) ∨ (8 < size ∧ 8 ≤ k) := by omega
  clear hk
  rcases hsz with ⟨s1, k0⟩ | ⟨rfl, k0⟩ | ⟨s1, s2, rfl⟩ | ⟨s1, k0⟩
  all_goals
    go_enter Try.func26, Try.ntmps26
    go_wp2_with (with_reducible show wpList _ _ _ (⟨some 11, _, _, _, _, _⟩ :: _) _ _; (refine wpList_append_bytes _ rfl _ _ rfl w.heap.size (.slice (some ⟨w.heap.size, 0, none⟩) 0 0) 0 [] rfl (own_empty w) (by simp) ao la ca xs rfl (ha.alloc _) (by omega) (by simp) ?_; intro ao1 l1 cap1 w1 hl1 hown1 htx1 hb1; clear hl1))
    go_loopw [7, 8] (fun o i wr => ∃ (q : Nat) (ao' : Option Addr) (l' cap' : Nat) (zs : List Int), i = .int .i64 ((q : Int) - 1) ∧ o = .slice ao' l' cap' ∧ RefPut w wr k xs n q ao' l' cap' zs) (fun _ i _ => (intOf i + 1).toNat)
    case atStart =>
      refine ⟨k, ao1, l1, cap1, xs, by go_num, rfl, ⟨Nat.le_refl _, hown1, ha.rng, rfl, ((Below.refl w.heap.size w).alloc (Nat.le_refl _) _).trans hb1⟩⟩
    case round =>
      obtain ⟨q, ao', l', cap', zs, rfl, rfl, hput⟩ := hrel
      have q2 := hput.hq
      by_cases hq : 0 < q
      · obtain ⟨p, rfl⟩ : ∃ p, q = p + 1 := ⟨q - 1, by omega⟩
        have ei : ((p + 1 : Nat) : Int) - 1 = p := by omega
        rw [ei]
        first
          | (exfalso; omega)
          | (have hbs := hput.below.size
             have hlen := hput.len
             have hle : l' + 1 ≤ 1000000000 := by omega
             clear hlen
             go_wp2_with (with_reducible show wpList _ _ _ (⟨some 29, _, _, _, _, _⟩ :: _) _ _; refine wpList_append_bytes _ rfl _ _ rfl w.heap.size (.slice ao' l' cap') l' zs rfl (hput.own.alloc _) hput.rng (some ⟨wr.heap.size, 0, none⟩) 1 1 [n / 2 ^ (8 * p) % 256] rfl (tx_one wr _ (byte_rng _)) hle (by simp; omega) ?_; intro ao2 l2 cap2 w2 hl2 hown2 htx2 hb2; clear hl2)
             go_roundw
             case rel => exact ⟨p, ao2, l2, cap2, _, by go_num, rfl, hput.step (pow_byte n p) hown2 ((hput.below.alloc hbs _).trans hb2)⟩
             case measure => simp [intOf])
      · obtain rfl : q = 0 := by omega
        go_wp2
        go_ret
        exact ⟨_, _, _, rfl, hput.gr, hput.below⟩

theorem rowL_take_succ (l : List (List Int)) (k : Nat) (x : List Int) (h : l[k]? = some x) : rowL (l.take (k + 1)) = rowL (l.take k) ++ recL x := by
  obtain ⟨hk, rfl⟩ := List.getElem?_eq_some_iff.1 h
  rw [rowL, rowL, List.take_succ_eq_append_getElem hk, List.flatMap_append, List.flatMap_cons, List.flatMap_nil, List.append_nil]
theorem rowL_take_le (l : List (List Int)) (k : Nat) : (rowL (l.take k)).length ≤ (rowL l).length := by
  have : rowL l = rowL (l.take k) ++ rowL (l.drop k) := by rw [rowL, rowL, rowL, ← List.flatMap_append, List.take_append_drop]
  rw [this]; simp

def fewL (n m : Nat) (l : List (List Int)) : List (List Int) := (l.take n).map (List.take m)
theorem fewL_succ (l : List (List Int)) (j m : Nat) (x : List Int) (h : l[j]? = some x) : fewL (j + 1) m l = fewL j m l ++ [x.take m] := by
  obtain ⟨hk, rfl⟩ := List.getElem?_eq_some_iff.1 h
  rw [fewL, fewL, List.take_succ_eq_append_getElem hk, List.map_append]; rfl
theorem fewL_len (l : List (List Int)) (j m : Nat) (h : j ≤ l.length) : (fewL j m l).length = j := by simp [fewL]; omega
theorem rb_old {wr : World} {v : Value} {B : Nat} {es : List (List Int)} (hls : Ls 23 1 RB wr B v es) {ao : Option Addr} {la ca : Nat} {x : List Int} (t : Tx wr ao la ca x) (hf : ∀ ad, ao = some ad → 0 < la → ad.block < B) (o : Obj) : RB (wr.alloc o) (own v) [.slice ao la ca] x :=
  ⟨_, rfl, (t.alloc o).at _ (fun ad ha h0 hk => by have := hls.lt _ hk; have := hf ad ha h0; omega)⟩
end

section
set_option maxRecDepth 100000
open Go.RowKit

theorem own_empty2 (w : World) : Gr w.heap.size (w.alloc (.cells #[] 5)) (some ⟨w.heap.size, 0, none⟩) 0 0 [] := ⟨own_empty w, by simp, by simp⟩

theorem rget_yes (K : Int) (k : Nat) (hK : K = (k : Int)) (hk : k ≤ 8) (ao : Option Addr) (l c : Nat) (ys : List Int) (w : World) (h : Tx w ao l c ys) (hl : ¬ l < k) (hl9 : l ≤ 1000000000) :
    Calls Try.prog 62 #[.slice ao l c, .int .i64 K] w fun e w' => e = .returned (.tuple #[.int .u64 (getN ys k), .bool true]) ∧ w = w' := by
  subst hK
  have g : okG ys k = true := by have := h.len_eq; simp [okG]; omega
  refine (refget_any ao l c k ys w h (by omega) (by omega) (by omega)).mono ?_
  rintro e w' ⟨rfl, hw⟩
  exact ⟨by rw [g], hw⟩
theorem rget_no (K : Int) (k : Nat) (hK : K = (k : Int)) (hk : k ≤ 8) (ao : Option Addr) (l c : Nat) (ys : List Int) (w : World) (h : Tx w ao l c ys) (hl : l < k) :
    Calls Try.prog 62 #[.slice ao l c, .int .i64 K] w fun e w' => e = .returned (.tuple #[.int .u64 0, .bool false]) ∧ w = w' := by
  subst hK
  have g := getN_short k ys (by have := h.len_eq; omega)
  refine (refget_any ao l c k ys w h (by omega) (by omega) (by omega)).mono ?_
  rintro e w' ⟨rfl, hw⟩
  exact ⟨by rw [g.1, g.2], hw⟩

theorem rall_end {w wr : World} {xs : List Int} {out : List (List Int)} {a n : Nat} {ok : Bool} {ro : Option Addr} {rc : Nat} (hd : allL xs = (out, a, ok)) (hls : Ls 23 1 RB wr w.heap.size (.slice ro n rc) out) (hb : Below w.heap.size w wr) :
    ∃ bo lb cb, Ending.returned (.tuple #[.slice ro n rc, .int .i64 a, .bool ok]) = .returned (.tuple #[.slice bo lb cb, .int .i64 (allL xs).2.1, .bool (allL xs).2.2]) ∧ Lx 1 RB wr bo lb cb (allL xs).1 ∧ Below w.heap.size w wr := by
  obtain ⟨ao, cap, e, hl⟩ := hls.read RB.stable RB.plain
  simp only [Value.slice.injEq] at e
  obtain ⟨rfl, rfl, rfl⟩ := e
  rw [hd]
  exact ⟨ro, out.length, rc, rfl, hl, hb⟩

theorem rb_gr {X wr : World} {ro co : Option Addr} {n rc : Nat} {B A cc : Nat} {out : List (List Int)} {x : List Int} (hls : Ls 23 1 RB wr B (.slice ro n rc) out) (g : Gr wr.heap.size X co A cc x) (o : Obj) : RB (X.alloc o) (own (.slice ro n rc)) [.slice co A cc] x :=
  rb_new hls g.tx (fun ad ha => (g.lt ad.block (by subst ha; simp [own, Value.ownBlock])).2) o
end

section
set_option maxRecDepth 100000
open Go.RowKit

/-- The reader lies at block rb of w; what it has yet to read, xs, lies in W, which stands. -/
structure Rd (W w : World) (rb : Nat) (ro : Option Addr) (rl rc : Nat) (xs : List Int) : Prop where
  cell : w.cell? ⟨rb, 0, none⟩ = some (.slice ro rl rc)
  free : w.frozen? ⟨rb, 0, none⟩ = false
  tx : Tx W ro rl rc xs
  bel : Below W.heap.size W w
  out : W.heap.size ≤ rb

theorem Rd.lt {W w : World} {rb : Nat} {ro : Option Addr} {rl rc : Nat} {xs : List Int} (h : Rd W w rb ro rl rc xs) : rb < w.heap.size := World.block_lt_of_cell? _ _ h.cell
theorem Rd.later {W w w' : World} {rb : Nat} {ro : Option Addr} {rl rc : Nat} {xs : List Int} (h : Rd W w rb ro rl rc xs) (hb : Below w.heap.size w w') : Rd W w' rb ro rl rc xs :=
  ⟨cell_later hb h.cell, (hb.frozen (p := ⟨rb, 0, none⟩) h.lt).trans h.free, h.tx, h.bel.trans (hb.mono h.bel.size), h.out⟩
theorem Rd.off {S : List Nat} {W w w' : World} {rb : Nat} {ro : Option Addr} {rl rc : Nat} {xs : List Int} (h : Rd W w rb ro rl rc xs) (ho : Off S w w') (hn : rb ∉ S) (hs : ∀ k ∈ S, W.heap.size ≤ k) : Rd W w' rb ro rl rc xs :=
  ⟨ho.cell h.cell hn, by rw [World.frozen?_of_block (w := w) (ho.block rb h.lt hn)]; exact h.free, h.tx, h.bel.trans (ho.below hs h.bel.size), h.out⟩
theorem Rd.set {W w : World} {rb : Nat} {ro ro' : Option Addr} {rl rc rl' rc' : Nat} {xs xs' : List Int} (h : Rd W w rb ro rl rc xs) (t : Tx W ro' rl' rc' xs') : Rd W (w.setCell ⟨rb, 0, none⟩ (.slice ro' rl' rc')) rb ro' rl' rc' xs' :=
  ⟨World.cell?_setCell_same _ _ _ h.cell, by simpa using h.free, t, h.bel.setCell (p := ⟨rb, 0, none⟩) h.out _, h.out⟩

/-- The refusal that readers panic with. -/
def formE : List PanicEntry := [{ v := .iface 35 (.int .i64 12), recovered := false }]
end

section
set_option maxRecDepth 100000
open Go.RowKit

theorem Boxf.new' (w : World) (k v : Value) (g : Bool) : Boxf (w.alloc (.cells #[k, v, .bool g] 25)) w.heap.size k v g :=
  ⟨(Box.new w k v g).c0, (Box.new w k v g).c1, (Box.new w k v g).c2, fun j => frozen_of_row (w.alloc (.cells #[k, v, .bool g] 25)) w.heap.size j _ 25 (heap_alloc_new w _)⟩

theorem num1_get (xs : List Int) (hb : Bytes xs) (h : ¬ xs.length < 1) : getN xs 1 = num1 xs := by
  match xs, h, hb with
  | [], h, _ => exact absurd (by simp) h
  | a :: r, _, hb =>
    have ha := hb.head
    have hok : okG (a :: r) 1 = true := by simp [okG]; omega
    rw [getN, if_pos hok]
    show joinB 0 a = _
    rw [joinB_eq 0 a (by omega) (by omega) (by omega) (by omega)]
    simp [num1]
theorem num2_get (xs : List Int) (hb : Bytes xs) (h : ¬ xs.length < 2) : getN xs 2 = num2 xs := by
  match xs, h, hb with
  | [], h, _ => exact absurd (by simp) h
  | [_], h, _ => exact absurd (by simp) h
  | a :: b :: r, _, hb =>
    have ha := hb.head
    have hb1 := hb.tail.head
    have hok : okG (a :: b :: r) 2 = true := by simp [okG]; omega
    rw [getN, if_pos hok]
    show joinB (joinB 0 a) b = _
    rw [joinB_eq 0 a (by omega) (by omega) (by omega) (by omega), joinB_eq _ b (by omega) (by omega) (by omega) (by omega)]
    simp [num2]
theorem getD_byte {xs : List Int} (h : Bytes xs) (j : Nat) : 0 ≤ xs.getD j 0 ∧ xs.getD j 0 ≤ 255 := by
  by_cases hj : j < xs.length
  · have e : xs.getD j 0 = xs[j] := by simp [List.getD, hj]
    rw [e]; exact h _ (List.getElem_mem hj)
  · simp [List.getD, hj]
theorem num1_rng {xs : List Int} (h : Bytes xs) : 0 ≤ num1 xs ∧ num1 xs ≤ 255 := getD_byte h 0
theorem num2_rng {xs : List Int} (h : Bytes xs) : 0 ≤ num2 xs ∧ num2 xs ≤ 65535 := by
  have := getD_byte h 0; have := getD_byte h 1
  unfold num2; omega

/-- What one entry's reading leaves. -/
def EntPost (W w : World) (rb : Nat) (xs : List Int) (e : Ending) (w' : World) : Prop :=
  (∃ en r ko kl kc vo vl vc b o rl rc, parseE xs = some (en, r) ∧ e = .returned (.agg #[.slice ko kl kc, .slice vo vl vc, .bool en.g]) ∧ Tx w' ko kl kc en.k ∧ Tx w' vo vl vc en.v ∧ (∀ ad, ko = some ad → w.heap.size ≤ ad.block) ∧ (∀ ad, vo = some ad → w.heap.size ≤ ad.block) ∧ Rd W w' rb (some ⟨b, o, none⟩) rl rc r ∧ rl ≤ 900000000 ∧ Off [rb] w w') ∨ (parseE xs = none ∧ e = .panicked formE ∧ Off [rb] w w')

theorem Off.setNew {S : List Nat} {a w : World} (h : Off S a w) {p : Addr} (hp : a.heap.size ≤ p.block) (u : Value) : Off S a (w.setCell p u) :=
  ⟨h.os, h.tape, h.output, Nat.le_trans h.size (by simp [World.setCell]), fun k hk hn => (Below.heap_setCell _ _ _ _ (fun e => by omega)).trans (h.block k hk hn)⟩
theorem Boxf.off {S : List Nat} {w w' : World} {bx : Nat} {k v : Value} {g : Bool} (h : Boxf w bx k v g) (ho : Off S w w') (hn : bx ∉ S) : Boxf w' bx k v g :=
  ⟨ho.cell h.c0 hn, ho.cell h.c1 hn, ho.cell h.c2 hn, fun j => by rw [World.frozen?_of_block (w := w) (ho.block bx (World.block_lt_of_cell? _ _ h.c0) hn)]; exact h.z j⟩
/-- The box is written whole. -/
theorem box_set (w : World) (bx : Nat) (k v a b : Value) (h : Boxf w bx a b false) (c : Value) :
    (((w.setCell ⟨bx, 0, none⟩ k).setCell ⟨bx, 1, none⟩ v).setCell ⟨bx, 2, none⟩ c).cell? ⟨bx, 0, none⟩ = some k ∧ (((w.setCell ⟨bx, 0, none⟩ k).setCell ⟨bx, 1, none⟩ v).setCell ⟨bx, 2, none⟩ c).cell? ⟨bx, 1, none⟩ = some v ∧ (((w.setCell ⟨bx, 0, none⟩ k).setCell ⟨bx, 1, none⟩ v).setCell ⟨bx, 2, none⟩ c).cell? ⟨bx, 2, none⟩ = some c := by
  have e0 : (w.setCell ⟨bx, 0, none⟩ k).cell? ⟨bx, 0, none⟩ = some k := World.cell?_setCell_same _ _ _ h.c0
  have e1 : (w.setCell ⟨bx, 0, none⟩ k).cell? ⟨bx, 1, none⟩ = some b := by rw [World.cell?_setCell_other _ _ _ _ (by simp)]; exact h.c1
  have e2 : (w.setCell ⟨bx, 0, none⟩ k).cell? ⟨bx, 2, none⟩ = some (.bool false) := by rw [World.cell?_setCell_other _ _ _ _ (by simp)]; exact h.c2
  have f0 : ((w.setCell ⟨bx, 0, none⟩ k).setCell ⟨bx, 1, none⟩ v).cell? ⟨bx, 0, none⟩ = some k := by rw [World.cell?_setCell_other _ _ _ _ (by simp)]; exact e0
  have f1 : ((w.setCell ⟨bx, 0, none⟩ k).setCell ⟨bx, 1, none⟩ v).cell? ⟨bx, 1, none⟩ = some v := World.cell?_setCell_same _ _ _ e1
  have f2 : ((w.setCell ⟨bx, 0, none⟩ k).setCell ⟨bx, 1, none⟩ v).cell? ⟨bx, 2, none⟩ = some (.bool false) := by rw [World.cell?_setCell_other _ _ _ _ (by simp)]; exact e2
  exact ⟨by rw [World.cell?_setCell_other _ _ _ _ (by simp)]; exact f0, by rw [World.cell?_setCell_other _ _ _ _ (by simp)]; exact f1, World.cell?_setCell_same _ _ _ f2⟩

/-- The end of an entry's reading: the box is written and handed back. -/
theorem ent_end {W w V : World} {rb : Nat} {xs r : List Int} {en : Ent} {ko vo : Option Addr} {kl kc vl vc b o rl rc : Nat} (hp : parseE xs = some (en, r)) (tk : Tx V ko kl kc en.k) (tv : Tx V vo vl vc en.v) (fk : ∀ ad, ko = some ad → w.heap.size < ad.block) (fv : ∀ ad, vo = some ad → w.heap.size < ad.block) (hR : Rd W V rb (some ⟨b, o, none⟩) rl rc r) (hrb : rb < w.heap.size) (hW : W.heap.size ≤ w.heap.size) (hl : rl ≤ 900000000) (ho : Off [rb] w V) (c : Value) (hc : c = .bool en.g) :
    EntPost W w rb xs (.returned (.agg #[.slice ko kl kc, .slice vo vl vc, c])) (((V.setCell ⟨w.heap.size, 0, none⟩ (.slice ko kl kc)).setCell ⟨w.heap.size, 1, none⟩ (.slice vo vl vc)).setCell ⟨w.heap.size, 2, none⟩ c) := by
  subst hc
  have hne : ∀ (o1 : Option Addr) (l : Nat), (∀ ad, o1 = some ad → w.heap.size < ad.block) → ∀ ad, o1 = some ad → 0 < l → ad.block ≠ w.heap.size := fun o1 l f ad ha _ => by have := f ad ha; omega
  have O3 : Off [w.heap.size] V (((V.setCell ⟨w.heap.size, 0, none⟩ (.slice ko kl kc)).setCell ⟨w.heap.size, 1, none⟩ (.slice vo vl vc)).setCell ⟨w.heap.size, 2, none⟩ (.bool en.g)) :=
    (((Off.refl [w.heap.size] V).setCell (p := ⟨w.heap.size, 0, none⟩) (by simp) _).setCell (p := ⟨w.heap.size, 1, none⟩) (by simp) _).setCell (p := ⟨w.heap.size, 2, none⟩) (by simp) _
  refine .inl ⟨en, r, ko, kl, kc, vo, vl, vc, b, o, rl, rc, hp, rfl, ?_, ?_, fun ad ha => Nat.le_of_lt (fk ad ha), fun ad ha => Nat.le_of_lt (fv ad ha), ?_, hl, ?_⟩
  · exact tk.off O3 (fun ad ha h0 hk => by simp at hk; exact hne ko kl fk ad ha h0 hk)
  · exact tv.off O3 (fun ad ha h0 hk => by simp at hk; exact hne vo vl fv ad ha h0 hk)
  · exact hR.off O3 (by simp; omega) (by simpa using hW)
  · exact ((ho.setNew (p := ⟨w.heap.size, 0, none⟩) (Nat.le_refl _) _).setNew (p := ⟨w.heap.size, 1, none⟩) (Nat.le_refl _) _).setNew (p := ⟨w.heap.size, 2, none⟩) (Nat.le_refl _) _
end

section
set_option maxRecDepth 100000
open Go.RowKit

/-- The call's two named results lie in the two blocks behind w: the list v, the refusal z. -/
structure Held (w V : World) (v : Value) (z : Int) : Prop where
  bel : Below w.heap.size w V
  c0 : V.cell? ⟨w.heap.size, 0, none⟩ = some v
  c1 : V.cell? ⟨w.heap.size + 1, 0, none⟩ = some (.int .i64 z)
  f0 : V.frozen? ⟨w.heap.size, 0, none⟩ = false
  f1 : V.frozen? ⟨w.heap.size + 1, 0, none⟩ = false
theorem Held.lt0 {w V : World} {v : Value} {z : Int} (h : Held w V v z) : w.heap.size + 1 < V.heap.size := World.block_lt_of_cell? _ _ h.c1
theorem Held.off {S : List Nat} {w V V' : World} {v : Value} {z : Int} (h : Held w V v z) (ho : Off S V V') (hs : ∀ k ∈ S, w.heap.size + 1 < k) : Held w V' v z := by
  have n0 : w.heap.size ∉ S := fun e => by have := hs _ e; omega
  have n1 : w.heap.size + 1 ∉ S := fun e => by have := hs _ e; omega
  have l0 := h.lt0
  exact ⟨h.bel.trans (ho.below (fun k hk => by have := hs k hk; omega) h.bel.size), ho.cell h.c0 n0, ho.cell h.c1 n1, by rw [World.frozen?_of_block (w := V) (ho.block w.heap.size (by omega) n0)]; exact h.f0, by rw [World.frozen?_of_block (w := V) (ho.block (w.heap.size + 1) l0 n1)]; exact h.f1⟩
theorem Held.set {w V : World} {v : Value} {z : Int} (h : Held w V v z) (v' : Value) : Held w (V.setCell ⟨w.heap.size, 0, none⟩ v') v' z :=
  ⟨h.bel.setCell (p := ⟨w.heap.size, 0, none⟩) (Nat.le_refl _) _, World.cell?_setCell_same _ _ _ h.c0, by rw [World.cell?_setCell_other _ _ _ _ (by simp)]; exact h.c1, by simpa using h.f0, by simpa using h.f1⟩
theorem Held.set1 {w V : World} {v : Value} {z : Int} (h : Held w V v z) (z' : Int) : Held w (V.setCell ⟨w.heap.size + 1, 0, none⟩ (.int .i64 z')) v z' :=
  ⟨h.bel.setCell (p := ⟨w.heap.size + 1, 0, none⟩) (by simp) _, by rw [World.cell?_setCell_other _ _ _ _ (by simp)]; exact h.c0, World.cell?_setCell_same _ _ _ h.c1, by simpa using h.f0, by simpa using h.f1⟩

theorem catch_idle (w : World) (p q : Value) :
    CallsD Try.prog 51 #[p, q] .returning w fun e u' w' => e = .returned (.tuple #[]) ∧ u' = .returning ∧ w' = w := by
  refine callsD_of_wpS Try.func51 rfl fun c₀ cs hu => ?_
  apply wpS_seq
  apply wpS_region
  simp [wpOpsS, go_sem, recoverD, hu, Try.ntmps51, Exit.thenS]
  refine wpS_cond (t := false) (by simp [Act.eval, Array.replicate]) ?_
  simp only [Bool.false_eq_true, if_false]
  refine wpS_of_wp (wp_skip ?_)
  cases c₀
  simp_all [bodyPostS, results, Try.results51]

theorem catch_panicking (w V : World) (v : Value) (z : Int) (h : Held w V v z) (u : TypeId) (pv : Value) (older : List PanicEntry) :
    CallsD Try.prog 51 #[.pointer (some ⟨w.heap.size, 0, none⟩), .pointer (some ⟨w.heap.size + 1, 0, none⟩)] (.panicking ({ v := .iface u pv, recovered := false } :: older)) V fun e u' w' =>
      e = .returned (.tuple #[]) ∧ u' = .panicking ({ v := .iface u pv, recovered := true } :: older) ∧ Held w w' (.slice none 0 0) 12 := by
  have H := (h.set (.slice none 0 0)).set1 12
  obtain ⟨_, c0, c1, f0, f1⟩ := h
  refine callsD_of_wpS Try.func51 rfl fun c₀ cs hu => ?_
  apply wpS_seq
  apply wpS_region
  simp [wpOpsS, go_sem, recoverD, hu, Try.ntmps51, Exit.thenS]
  refine wpS_cond (t := true) (by simp [Act.eval, Array.replicate]) ?_
  simp only [if_true]
  apply wpS_region
  simp [wpOpsS, go_sem, c0, c1, f0, f1, bodyPostS, results, Try.results51]
  exact H

/-- What Entries answers. -/
def EntsPost (w : World) (xs : List Int) (e : Ending) (w' : World) : Prop :=
  (∃ es bo lb cb, entriesL xs = some es ∧ e = .returned (.tuple #[.slice bo lb cb, .int .i64 0]) ∧ Lx 3 RE w' bo lb cb es ∧ Below w.heap.size w w') ∨ (entriesL xs = none ∧ e = .returned (.tuple #[.slice none 0 0, .int .i64 12]) ∧ Below w.heap.size w w')

/-- An entry that lies in none of the blocks X either. -/
def REx (X : List Nat) : Reads Ent := fun w S u e => RE w (S ++ X) u e
theorem REx.stable (X : List Nat) : ∀ w w' S S' u e, REx X w S u e → (∀ k ∈ S ++ X, k < w.heap.size) → Off S w w' → (∀ k ∈ S', k ∈ S ∨ w.heap.size ≤ k) → REx X w' S' u e := by
  rintro w w' S S' u e ⟨k, v, hu, h, h'⟩ hX ho hs
  have hof : Off (S ++ X) w w' := ho.mono (fun k hk => List.mem_append_left _ hk)
  have hss : ∀ k ∈ S' ++ X, k ∈ S ++ X ∨ w.heap.size ≤ k := fun k hk => by
    rcases List.mem_append.1 hk with hk | hk
    · exact (hs k hk).imp_left (List.mem_append_left _)
    · exact .inl (List.mem_append_right _ hk)
  exact ⟨k, v, hu, h.off hof hss, h'.off hof hss⟩
theorem REx.st (X : List Nat) : Stable (REx X) := by
  rintro w w' S S' u e ⟨k, v, hu, h, h'⟩ ho hs
  have hof : Off (S ++ X) w w' := ho.mono (fun k hk => List.mem_append_left _ hk)
  have hss : ∀ k ∈ S' ++ X, k ∈ S ++ X ∨ w.heap.size ≤ k := fun k hk => by
    rcases List.mem_append.1 hk with hk | hk
    · exact (hs k hk).imp_left (List.mem_append_left _)
    · exact .inl (List.mem_append_right _ hk)
  exact ⟨k, v, hu, h.off hof hss, h'.off hof hss⟩
theorem REx.pl (X : List Nat) : Plain 3 (REx X) := fun w S u e h => RE.plain w (S ++ X) u e h
theorem Ls.offX {X : List Nat} {w w' : World} {B : Nat} {v : Value} {es : List Ent} (h : Ls 25 3 (REx X) w B v es) (ho : Off X w w') (hd : ∀ k ∈ own v, k ∉ X) : Ls 25 3 (REx X) w' B v es := by
  obtain ⟨us, h1, h2, h3⟩ := h
  refine ⟨us, h1, rows_offB h2 ho hd, fun i u e hu he => ?_⟩
  obtain ⟨k, v', hu', h, h'⟩ := h3 i u e hu he
  have hof : Off (own v ++ X) w w' := ho.mono (fun k hk => List.mem_append_right _ hk)
  exact ⟨k, v', hu', h.off hof (fun k hk => .inl hk), h'.off hof (fun k hk => .inl hk)⟩
theorem Lx.weaken {X : List Nat} {w : World} {ao : Option Addr} {len cap : Nat} {es : List Ent} (h : Lx 3 (REx X) w ao len cap es) : Lx 3 RE w ao len cap es :=
  ⟨h.len_eq, h.le, h.top, h.bare, fun ad ha j e he => by
    obtain ⟨u, h1, k, v, hu, hk, hv⟩ := h.cell ad ha j e he
    exact ⟨u, h1, k, v, hu, hk.off (.refl _ _) (by simp), hv.off (.refl _ _) (by simp)⟩⟩

theorem entriesL_yes {xs r : List Int} {n : Nat} {es : List Ent} (h1 : takeN 2 num2 0 8191 xs = some ((n : Int), r)) (h2 : parseN n r = some (es, [])) : entriesL xs = some es := by simp only [entriesL, h1, Int.toNat_natCast, h2]
theorem entriesL_no {xs r : List Int} {n : Nat} (h1 : takeN 2 num2 0 8191 xs = some ((n : Int), r)) (h2 : parseN n r = none) : entriesL xs = none := by simp only [entriesL, h1, Int.toNat_natCast, h2]
theorem entriesL_more {xs r : List Int} {n : Nat} {es : List Ent} {r' : List Int} (hr : r' ≠ []) (h1 : takeN 2 num2 0 8191 xs = some ((n : Int), r)) (h2 : parseN n r = some (es, r')) : entriesL xs = none := by
  cases r' with
  | nil => exact absurd rfl hr
  | cons a b => simp only [entriesL, h1, Int.toNat_natCast, h2]

/-- What holds at each round's head of Entries' loop. -/
structure EntsRel (w V : World) (rb n : Nat) (r0 : List Int) (i : Nat) (bo : Option Addr) (m cb : Nat) (es : List Ent) : Prop where
  held : Held w V (.slice bo m cb) 0
  ls : Ls 25 3 (REx [w.heap.size, w.heap.size + 1, rb]) V (w.heap.size + 3) (.slice bo m cb) es
  rd : ∃ ro rl rc r, Rd w V rb ro rl rc r ∧ rl ≤ 900000000 ∧ Came n r0 i es r
  size : w.heap.size + 3 ≤ V.heap.size

theorem Rd.new (w : World) (ao : Option Addr) (la ca : Nat) (xs : List Int) (ha : Tx w ao la ca xs) :
    Rd w (((w.alloc (.cells #[.slice none 0 0] 22)).alloc (.cells #[.int .i64 0] 35)).alloc (.cells #[.slice ao la ca] 109)) (w.heap.size + 1 + 1) ao la ca xs :=
  ⟨by simp [go_sem], by simp [go_sem], ha, (((Below.refl _ _).alloc (Nat.le_refl _) _).alloc (by simp) _).alloc (by simp; omega) _, by omega⟩
theorem Held.new (w : World) (o : Obj) : Held w (((w.alloc (.cells #[.slice none 0 0] 22)).alloc (.cells #[.int .i64 0] 35)).alloc o) (.slice none 0 0) 0 :=
  ⟨(((Below.refl _ _).alloc (Nat.le_refl _) _).alloc (by simp) _).alloc (by simp; omega) _, by simp [go_sem], by simp [go_sem], by simp [go_sem], by simp [go_sem]⟩

theorem ents_no {w V : World} {xs : List Int} (hp : entriesL xs = none) (H : Held w V (.slice none 0 0) 12) : EntsPost w xs (.returned (.tuple #[.slice none 0 0, .int .i64 12])) V := .inr ⟨hp, rfl, H.bel⟩

theorem ents_read {w wr F : World} {rb n k m cb : Nat} {bo : Option Addr} {r0 : List Int} {es : List Ent} (hE : EntsRel w wr rb n r0 k bo m cb es) (hrb : rb < w.heap.size + 3) (ho : Off [w.heap.size, w.heap.size + 1, rb] wr F) : Lx 3 RE F bo m cb es := by
  have hF := hE.ls.offX ho (fun q hq => by have := (hE.ls.lt q hq).2; simp; omega)
  obtain ⟨ao9, cap9, e9, hx9⟩ := hF.read (REx.st _) (REx.pl _)
  simp only [Value.slice.injEq] at e9
  obtain ⟨rfl, e10, rfl⟩ := e9
  rw [← e10] at hx9
  exact hx9.weaken
theorem ls_over {w wr w2 : World} {rb : Nat} {v : Value} {es : List Ent} (ls : Ls 25 3 (REx [w.heap.size, w.heap.size + 1, rb]) wr (w.heap.size + 3) v es) (O2 : Off [rb] wr.drew w2) (_hs : w.heap.size + 3 ≤ wr.heap.size) (hrb : rb < w.heap.size + 3) : Ls 25 3 (REx [w.heap.size, w.heap.size + 1, rb]) w2 (w.heap.size + 3) v es := by
  have h1 : Off [w.heap.size, w.heap.size + 1, rb] wr w2 := ((Off.refl [w.heap.size, w.heap.size + 1, rb] wr).drew).trans (O2.mono (by simp))
  refine ls.offX h1 (fun k hk => ?_)
  have := (ls.lt k hk).2
  simp; omega
theorem rex_new {X : List Nat} {wr w2 : World} {B : Nat} {v : Value} {es : List Ent} (ls : Ls 25 3 (REx X) wr B v es) {ko vo : Option Addr} {kl kc vl vc : Nat} {en : Ent} {G : Bool} (hG : G = en.g) (tk : Tx w2 ko kl kc en.k) (tv : Tx w2 vo vl vc en.v) (fk : ∀ ad, ko = some ad → wr.heap.size ≤ ad.block) (fv : ∀ ad, vo = some ad → wr.heap.size ≤ ad.block) (hX : ∀ k ∈ X, k < wr.heap.size) (o : Obj) : REx X (w2.alloc o) (own v) [.slice ko kl kc, .slice vo vl vc, .bool G] en := by
  have hn : ∀ b, wr.heap.size ≤ b → b ∉ own v ++ X := fun b hb hk => by
    rcases List.mem_append.1 hk with hk | hk
    · have := (ls.lt b hk).1; omega
    · have := hX b hk; omega
  exact ⟨_, _, by rw [hG], (tk.alloc o).at _ (fun ad ha _ => hn _ (fk ad ha)), (tv.alloc o).at _ (fun ad ha _ => hn _ (fv ad ha))⟩
theorem ents_held {w w2 w5 : World} {rb : Nat} {v : Value} {z : Int} {es : List Ent} {o : Obj} (H : Held w w2 v z) (L : Ls 25 3 (REx [w.heap.size, w.heap.size + 1, rb]) w2 (w.heap.size + 3) v es) (ho : Off (own v) (w2.alloc o) w5) : Held w w5 v z :=
  (H.off ((Off.refl (own v) w2).alloc o) (fun k hk => by have := (L.lt k hk).2; omega)).off ho (fun k hk => by have := (L.lt k hk).2; omega)
theorem ents_step {w wr w2 w5 : World} {rb n k m cb n5 c5 b9 o9 rl9 rc9 : Nat} {bo ao5 : Option Addr} {r0 r r' : List Int} {es : List Ent} {en : Ent} {o : Obj} (hE : EntsRel w wr rb n r0 k bo m cb es) (hk : k < n) (hcame : Came n r0 k es r) (hpe : parseE r = some (en, r')) (H5 : Held w w5 (.slice bo m cb) 0) (L3 : Ls 25 3 (REx [w.heap.size, w.heap.size + 1, rb]) w2 (w.heap.size + 3) (.slice bo m cb) es) (hls5 : Ls 25 3 (REx [w.heap.size, w.heap.size + 1, rb]) w5 (w.heap.size + 3) (.slice ao5 n5 c5) (es ++ [en])) (ho : Off (own (.slice bo m cb)) (w2.alloc o) w5) (R9 : Rd w w2 rb (some ⟨b9, o9, none⟩) rl9 rc9 r') (s9 : rl9 ≤ 900000000) (hr1 : w.heap.size + 1 < rb) (hr2 : rb < w.heap.size + 3) :
    EntsRel w (w5.setCell ⟨w.heap.size, 0, none⟩ (.slice ao5 n5 c5)) rb n r0 (k + 1) ao5 n5 c5 (es ++ [en]) := by
  have hl5 := H5.lt0
  have O6 : Off [w.heap.size, w.heap.size + 1, rb] w5 (w5.setCell ⟨w.heap.size, 0, none⟩ (.slice ao5 n5 c5)) := (Off.refl _ _).setCell (p := ⟨w.heap.size, 0, none⟩) (by simp) _
  have O7 : Off [w.heap.size] w5 (w5.setCell ⟨w.heap.size, 0, none⟩ (.slice ao5 n5 c5)) := (Off.refl _ _).setCell (p := ⟨w.heap.size, 0, none⟩) (by simp) _
  have R5 := (R9.later ((Below.refl _ _).alloc (Nat.le_refl _) o)).off ho (fun hk => by have := (L3.lt _ hk).2; omega) (fun q hq => by have := (L3.lt q hq).2; omega)
  refine ⟨H5.set _, hls5.offX O6 (fun q hq => by have := (hls5.lt q hq).2; simp; omega), ⟨_, _, _, _, R5.off O7 (by simp; omega) (by simp), s9, hcame.step hk hpe⟩, ?_⟩
  have h1 := ho.size
  have h2 := hE.size
  have h3 := R5.lt
  simp [World.setCell]
  have h4 := H5.bel.size
  omega
end

section
set_option maxRecDepth 100000
open Go.RowKit

/-- 'append(out, b...)' in a region that draws. -/
theorem step_gr {ops : Array Oper} {o : Oper} {a : Act} {w : World} {K : Act → World → Prop} {Q : Exit → Act → World → Prop} {E : Prop}
    (hg : o.guard = none) (s x : Operand) (hop : o.op = Op.call { callee := Callee.builtin Builtin.append, args := #[s, x], argTypes := #[23, 23] })
    (B : Nat) (bo : Option Addr) (n cap : Nat) (xs : List Int) (hs : a.eval s = .slice bo n cap) (h : Gr B w bo n cap xs)
    (ao : Option Addr) (m c : Nat) (ys : List Int) (hx : a.eval x = .slice ao m c) (ht : Tx w ao m c ys) (b : n + m ≤ 1000000000)
    (hK : ∀ bo' n' cap' w', Hid (n' = n + m) → Gr B w' bo' n' cap' (xs ++ ys) → Moves (.slice bo n cap) (.slice bo' n' cap') w w' → K (a.put o.dst (.slice bo' n' cap')) w') :
    if Region.wanted o (yielded ops a.tmps) = true then Oper.wp Try.prog o a w K Q else E :=
  step_app hg s x hop B (.slice bo n cap) n xs hs h.own ao m c ys hx ht b h.hB (fun bo' cap' w' h1 h2 h3 => hK bo' _ cap' w' rfl ⟨h1, fun x hx => (List.mem_append.1 hx).elim (h.rng x) (ht.rng x), Nat.le_trans h.hB h2.size⟩ ⟨h2, h3⟩)

theorem tx_two (w : World) (x y : Int) (hx : 0 ≤ x ∧ x ≤ 255) (hy : 0 ≤ y ∧ y ≤ 255) : Tx (w.alloc (.cells #[.int .u8 x, .int .u8 y] 5)) (some ⟨w.heap.size, 0, none⟩) 2 2 [x, y] := by
  have hr : Row (w.alloc (.cells #[.int .u8 x, .int .u8 y] 5)) w.heap.size [x, y] := heap_alloc_new w _
  refine hr.tx 2 rfl (by omega) (fun n hn => ?_)
  simp at hn
  rcases hn with rfl | rfl <;> assumption
end

section
set_option maxRecDepth 100000
open Go.RowKit

theorem Gr.drew {B : Nat} {w : World} {ao : Option Addr} {n cap : Nat} {xs : List Int} (h : Gr B w ao n cap xs) : Gr B w.drew ao n cap xs := h.later ((Below.refl _ _).drew)
theorem Box.drew {w : World} {bx : Nat} {k v : Value} {g : Bool} (h : Box w bx k v g) : Box w.drew bx k v g := ⟨h.c0, h.c1, h.c2⟩

theorem Gr.mono {B C : Nat} {w : World} {ao : Option Addr} {n cap : Nat} {xs : List Int} (h : Gr B w ao n cap xs) (hBC : C ≤ B) : Gr C w ao n cap xs := by
  refine ⟨⟨h.own.1, ?_⟩, h.rng, Nat.le_trans hBC h.hB⟩
  rcases h.own.2 with h' | ⟨g, cap', cur, e, hb, r⟩
  · exact .inl h'
  · exact .inr ⟨g, cap', cur, e, Nat.le_trans hBC hb, r⟩
end

section
set_option maxRecDepth 100000
open Go.RowKit

/-- The document's reader at block rb: what is left, and whether bytes lacked. -/
structure Rf (W w : World) (rb : Nat) (ro : Option Addr) (rl rc : Nat) (bad : Bool) (xs : List Int) : Prop where
  c0 : w.cell? ⟨rb, 0, none⟩ = some (.slice ro rl rc)
  c1 : w.cell? ⟨rb, 1, none⟩ = some (.bool bad)
  free : ∀ j, w.frozen? ⟨rb, j, none⟩ = false
  tx : Tx W ro rl rc xs
  bel : Below W.heap.size W w
  out : W.heap.size ≤ rb

theorem Rf.lt {W w : World} {rb : Nat} {ro : Option Addr} {rl rc : Nat} {bad : Bool} {xs : List Int} (h : Rf W w rb ro rl rc bad xs) : rb < w.heap.size := World.block_lt_of_cell? _ _ h.c0
theorem Rf.off {S : List Nat} {W w w' : World} {rb : Nat} {ro : Option Addr} {rl rc : Nat} {bad : Bool} {xs : List Int} (h : Rf W w rb ro rl rc bad xs) (ho : Off S w w') (hn : rb ∉ S) (hs : ∀ k ∈ S, W.heap.size ≤ k) : Rf W w' rb ro rl rc bad xs :=
  ⟨ho.cell h.c0 hn, ho.cell h.c1 hn, fun j => by rw [World.frozen?_of_block (w := w) (ho.block rb h.lt hn)]; exact h.free j, h.tx, h.bel.trans (ho.below hs h.bel.size), h.out⟩
theorem Rf.later {W w w' : World} {rb : Nat} {ro : Option Addr} {rl rc : Nat} {bad : Bool} {xs : List Int} (h : Rf W w rb ro rl rc bad xs) (hb : Below w.heap.size w w') : Rf W w' rb ro rl rc bad xs := h.off (S := []) (.of_below hb) (by simp) (by simp)
theorem Rf.set {W w : World} {rb : Nat} {ro ro' : Option Addr} {rl rc rl' rc' : Nat} {bad : Bool} {xs xs' : List Int} (h : Rf W w rb ro rl rc bad xs) (t : Tx W ro' rl' rc' xs') : Rf W (w.setCell ⟨rb, 0, none⟩ (.slice ro' rl' rc')) rb ro' rl' rc' bad xs' :=
  ⟨World.cell?_setCell_same _ _ _ h.c0, by rw [World.cell?_setCell_other _ _ _ _ (by simp)]; exact h.c1, fun j => by simpa using h.free j, t, h.bel.setCell (p := ⟨rb, 0, none⟩) h.out _, h.out⟩
theorem Rf.spoil {W w : World} {rb : Nat} {ro : Option Addr} {rl rc : Nat} {bad : Bool} {xs : List Int} (h : Rf W w rb ro rl rc bad xs) : Rf W ((w.setCell ⟨rb, 1, none⟩ (.bool true)).setCell ⟨rb, 0, none⟩ (.slice none 0 0)) rb none 0 0 true [] := by
  have e0 : (w.setCell ⟨rb, 1, none⟩ (.bool true)).cell? ⟨rb, 0, none⟩ = some (.slice ro rl rc) := by rw [World.cell?_setCell_other _ _ _ _ (by simp)]; exact h.c0
  have e1 : (w.setCell ⟨rb, 1, none⟩ (.bool true)).cell? ⟨rb, 1, none⟩ = some (.bool true) := World.cell?_setCell_same _ _ _ h.c1
  exact ⟨World.cell?_setCell_same _ _ _ e0, by rw [World.cell?_setCell_other _ _ _ _ (by simp)]; exact e1, fun j => by simpa using h.free j, Tx.nil W, (h.bel.setCell (p := ⟨rb, 1, none⟩) h.out _).setCell (p := ⟨rb, 0, none⟩) h.out _, h.out⟩

theorem rnum_no (W : World) (rb : Nat) (ro : Option Addr) (rl rc : Nat) (bad : Bool) (xs : List Int) (K : Int) (k : Nat) (hK : K = (k : Int)) (hk : k ≤ 8) (w : World) (h : Rf W w rb ro rl rc bad xs) (hs : rl < k) :
    Calls Try.prog 53 #[.pointer (some ⟨rb, 0, none⟩), .int .i64 K] w fun e w' => e = .returned (.int .i64 0) ∧ Rf W w' rb none 0 0 true [] ∧ Off [rb] w w' := by
  have hc := h.c0
  have hc1 := h.c1
  have hz0 := h.free 0
  have hz1 := h.free 1
  have hsp := h.spoil
  subst hK
  have ge := rget_no k k rfl hk ro rl rc xs w (h.tx.later h.bel) hs
  go_enter Try.func53, Try.ntmps53
  go_wp2_with (go_at_call 62; with_reducible refine ge.mono ?_; rintro e w1 ⟨rfl, rfl⟩)
  go_ret
  exact ⟨rfl, hsp, ((Off.refl _ _).setCell (p := ⟨rb, 1, none⟩) (by simp) _).setCell (p := ⟨rb, 0, none⟩) (by simp) _⟩

theorem rnum_yes (W : World) (rb : Nat) (ro : Option Addr) (rl rc : Nat) (bad : Bool) (xs : List Int) (K : Int) (k : Nat) (hK : K = (k : Int)) (hk0 : 0 < k) (hk : k ≤ 8) (f : Int) (hf : ¬ rl < k → getN xs k = f) (f0 : 0 ≤ f) (f9 : f < 65536) (w : World) (h : Rf W w rb ro rl rc bad xs) (sr : rl ≤ 900000000) (hs : ¬ rl < k) :
    Calls Try.prog 53 #[.pointer (some ⟨rb, 0, none⟩), .int .i64 K] w fun e w' => ∃ b o rl' rc', e = .returned (.int .i64 f) ∧ Rf W w' rb (some ⟨b, o, none⟩) rl' rc' bad (xs.drop k) ∧ Off [rb] w w' := by
  obtain ⟨b, off, rfl, _⟩ := h.tx.head (by omega)
  have hc := h.c0
  have hz := h.free 0
  have tw := h.tx.later h.bel
  have hle := h.tx.le
  have htop := h.tx.top
  have hxl := h.tx.len_eq
  unfold maxLen at htop
  have ge := rget_yes K k hK hk _ rl rc xs w tw hs (by omega)
  rw [hf hs] at ge
  subst hK
  by_cases hcap : rc = k
  · have hst := h.set (ro' := some ⟨b, off, none⟩) (rl' := rl - k) (rc' := 0) (xs' := xs.drop k) (by
      have : xs.drop k = [] := List.drop_eq_nil_of_le (by omega)
      rw [this]; exact Tx.ended _ _ _ _ (by omega) (by omega))
    have hc1 : rc ≤ k := by omega
    have hc2 : k ≤ rc := by omega
    clear hcap
    go_enter Try.func53, Try.ntmps53
    go_wp2_with (go_at_call 62; with_reducible refine ge.mono ?_; rintro e w1 ⟨rfl, rfl⟩)
    go_ret
    exact ⟨b, off, _, _, rfl, hst, (Off.refl _ _).setCell (p := ⟨rb, 0, none⟩) (by simp) _⟩
  · have hst := h.set (h.tx.drop k (by omega))
    go_enter Try.func53, Try.ntmps53
    go_wp2_with (go_at_call 62; with_reducible refine ge.mono ?_; rintro e w1 ⟨rfl, rfl⟩)
    go_ret
    exact ⟨b, off + k, _, _, rfl, hst, (Off.refl _ _).setCell (p := ⟨rb, 0, none⟩) (by simp) _⟩

theorem rsome_no (W : World) (rb : Nat) (ro : Option Addr) (rl rc : Nat) (bad : Bool) (xs : List Int) (M : Int) (m : Nat) (hM : M = (m : Int)) (w : World) (h : Rf W w rb ro rl rc bad xs) (hno : bad = true ∨ rl < m) :
    Calls Try.prog 54 #[.pointer (some ⟨rb, 0, none⟩), .int .i64 M] w fun e w' => e = .returned (.slice none 0 0) ∧ Rf W w' rb none 0 0 true [] ∧ Off [rb] w w' := by
  have hc := h.c0
  have hc1 := h.c1
  have hz0 := h.free 0
  have hz1 := h.free 1
  have hsp := h.spoil
  subst hM
  cases bad with
  | true =>
    go_enter Try.func54, Try.ntmps54
    go_wp2
    go_ret
    exact ⟨rfl, hsp, ((Off.refl _ _).setCell (p := ⟨rb, 1, none⟩) (by simp) _).setCell (p := ⟨rb, 0, none⟩) (by simp) _⟩
  | false =>
    have hlt : rl < m := by simpa using hno
    go_enter Try.func54, Try.ntmps54
    go_wp2
    go_ret
    exact ⟨rfl, hsp, ((Off.refl _ _).setCell (p := ⟨rb, 1, none⟩) (by simp) _).setCell (p := ⟨rb, 0, none⟩) (by simp) _⟩
end

section
set_option maxRecDepth 100000
open Go.RowKit

theorem rsome_yes (W : World) (rb : Nat) (b off : Nat) (rl rc : Nat) (xs : List Int) (M : Int) (m : Nat) (hM : M = (m : Int)) (w : World) (h : Rf W w rb (some ⟨b, off, none⟩) rl rc false xs) (hyes : ¬ rl < m) (hm : m ≤ 100000) :
    Calls Try.prog 54 #[.pointer (some ⟨rb, 0, none⟩), .int .i64 M] w fun e w' => ∃ ko kl kc b' o' rl' rc', e = .returned (.slice ko kl kc) ∧ Tx w' ko kl kc (xs.take m) ∧ (∀ ad, ko = some ad → w.heap.size ≤ ad.block) ∧ Rf W w' rb (some ⟨b', o', none⟩) rl' rc' false (xs.drop m) ∧ Off [rb] w w' := by
  have hc := h.c0
  have hc1 := h.c1
  have hz := h.free 0
  have hle := h.tx.le
  have htop := h.tx.top
  have hxl := h.tx.len_eq
  unfold maxLen at htop
  subst hM
  have g0 := own_empty2 w
  have bz : Below w.heap.size w (w.alloc (.cells #[] 5)) := (Below.refl _ _).alloc (Nat.le_refl _) _
  have hZ := h.later bz
  have hZc := hZ.c0
  have ts : Tx (w.alloc (.cells #[] 5)) (some ⟨b, off, none⟩) m rc (xs.take m) := ((h.tx.later h.bel).take m (by omega)).later bz
  by_cases hcap : rc = m
  · have hst := fun V (hV : Below w.heap.size w V) => (h.later hV).set (ro' := some ⟨b, off, none⟩) (rl' := rl - m) (rc' := 0) (xs' := xs.drop m) (by
      have : xs.drop m = [] := List.drop_eq_nil_of_le (by omega)
      rw [this]; exact Tx.ended _ _ _ _ (by omega) (by omega))
    have hc1' : rc ≤ m := by omega
    have hc2' : m ≤ rc := by omega
    clear hcap
    go_enter Try.func54, Try.ntmps54
    go_wp2_with (with_reducible show wpList _ _ _ (⟨some 32, _, _, _, _, _⟩ :: _) _ _; refine wpList_gr rfl _ _ rfl w.heap.size (some ⟨w.heap.size, 0, none⟩) 0 0 [] rfl g0 (some ⟨b, off, none⟩) m rc (xs.take m) rfl ts (by omega) ?_; intro ko kl kc V hn5 g5 m5; rw [List.nil_append] at g5; have bV := bz.trans (m5.below g0); have h2 := h.later bV; have hc2 := h2.c0; have hz2 := h2.free 0; clear hn5)
    go_ret
    have fk : ∀ ad, ko = some ad → w.heap.size ≤ ad.block := fun ad ha => (g5.lt ad.block (by subst ha; simp [own, Value.ownBlock])).2
    exact ⟨ko, kl, kc, b, off, _, _, rfl, tx_beside g5.tx (fun ad ha _ e => by have := fk ad ha; have := h.lt; omega) _, fk, hst V bV, (Off.of_below bV).setCell (p := ⟨rb, 0, none⟩) (by simp) _⟩
  · have hst := fun V (hV : Below w.heap.size w V) => (h.later hV).set (h.tx.drop m (by omega))
    go_enter Try.func54, Try.ntmps54
    go_wp2_with (with_reducible show wpList _ _ _ (⟨some 32, _, _, _, _, _⟩ :: _) _ _; refine wpList_gr rfl _ _ rfl w.heap.size (some ⟨w.heap.size, 0, none⟩) 0 0 [] rfl g0 (some ⟨b, off, none⟩) m rc (xs.take m) rfl ts (by omega) ?_; intro ko kl kc V hn5 g5 m5; rw [List.nil_append] at g5; have bV := bz.trans (m5.below g0); have h2 := h.later bV; have hc2 := h2.c0; have hz2 := h2.free 0; clear hn5)
    go_ret
    have fk : ∀ ad, ko = some ad → w.heap.size ≤ ad.block := fun ad ha => (g5.lt ad.block (by subst ha; simp [own, Value.ownBlock])).2
    exact ⟨ko, kl, kc, b, off + m, _, _, rfl, tx_beside g5.tx (fun ad ha _ e => by have := fk ad ha; have := h.lt; omega) _, fk, hst V bV, (Off.of_below bV).setCell (p := ⟨rb, 0, none⟩) (by simp) _⟩

/-- The document's numbers and texts, whatever is left. -/
theorem rnum_any (W : World) (rb : Nat) (ro : Option Addr) (rl rc : Nat) (bad : Bool) (xs : List Int) (K : Int) (k : Nat) (hK : K = (k : Int)) (hk0 : 0 < k) (hk : k ≤ 8) (f : List Int → Int) (hf : Bytes xs → ¬ xs.length < k → getN xs k = f xs) (f0 : Bytes xs → 0 ≤ f xs ∧ f xs ≤ 65535) (w : World) (h : Rf W w rb ro rl rc bad xs) (sr : rl ≤ 900000000) :
    Calls Try.prog 53 #[.pointer (some ⟨rb, 0, none⟩), .int .i64 K] w fun e w' =>
      (∃ v b o rl' rc', ¬ xs.length < k ∧ f xs = v ∧ 0 ≤ v ∧ v ≤ 65535 ∧ e = .returned (.int .i64 v) ∧ Rf W w' rb (some ⟨b, o, none⟩) rl' rc' bad (xs.drop k) ∧ rl' ≤ 900000000 ∧ Off [rb] w w') ∨ (xs.length < k ∧ e = .returned (.int .i64 0) ∧ Rf W w' rb none 0 0 true [] ∧ Off [rb] w w') := by
  have hl := h.tx.len_eq
  have hb : Bytes xs := h.tx.rng
  obtain ⟨g1, g2⟩ := f0 hb
  by_cases hno : rl < k
  · refine (rnum_no W rb ro rl rc bad xs K k hK hk w h hno).mono ?_
    rintro e w' ⟨rfl, hR, ho⟩
    exact .inr ⟨by omega, rfl, hR, ho⟩
  · refine (rnum_yes W rb ro rl rc bad xs K k hK hk0 hk (f xs) (fun h => hf hb (by omega)) g1 (by omega) w h sr hno).mono ?_
    rintro e w' ⟨b, o, rl', rc', rfl, hR, ho⟩
    exact .inl ⟨f xs, b, o, rl', rc', by omega, rfl, g1, g2, rfl, hR, by have := hR.tx.len_eq; simp at this; omega, ho⟩
theorem rsome_any (W : World) (rb : Nat) (b off : Nat) (rl rc : Nat) (xs : List Int) (M : Int) (h0 : 0 ≤ M) (h9 : M ≤ 65535) (w : World) (h : Rf W w rb (some ⟨b, off, none⟩) rl rc false xs) (sr : rl ≤ 900000000) :
    Calls Try.prog 54 #[.pointer (some ⟨rb, 0, none⟩), .int .i64 M] w fun e w' =>
      (∃ x r ko kl kc b' o' rl' rc', takeT M.toNat xs = some (x, r) ∧ x.length = M.toNat ∧ e = .returned (.slice ko kl kc) ∧ Tx w' ko kl kc x ∧ (∀ ad, ko = some ad → w.heap.size ≤ ad.block) ∧ Rf W w' rb (some ⟨b', o', none⟩) rl' rc' false r ∧ rl' ≤ 900000000 ∧ Off [rb] w w') ∨ (takeT M.toNat xs = none ∧ e = .returned (.slice none 0 0) ∧ Rf W w' rb none 0 0 true [] ∧ Off [rb] w w') := by
  have hl := h.tx.len_eq
  by_cases hno : rl < M.toNat
  · refine (rsome_no W rb _ rl rc false xs M M.toNat (by omega) w h (.inr hno)).mono ?_
    rintro e w' ⟨rfl, hR, ho⟩
    exact .inr ⟨by rw [takeT, if_pos (by omega)], rfl, hR, ho⟩
  · refine (rsome_yes W rb b off rl rc xs M M.toNat (by omega) w h hno (by omega)).mono ?_
    rintro e w' ⟨ko, kl, kc, b', o', rl', rc', rfl, tk, fk, hR, ho⟩
    exact .inl ⟨_, _, ko, kl, kc, b', o', rl', rc', by rw [takeT, if_neg (by omega)], by simp; omega, rfl, tk, fk, hR, by have := hR.tx.len_eq; simp at this; omega, ho⟩
end

section
set_option maxRecDepth 100000
open Go.RowKit Go.Sort

theorem wpList_unguard {P : Program} {ops : Array Oper} {Q : Exit → Act → World → Prop} {a : Act} {w : World} {rest : List Oper} {o : Oper}
    (hw : Region.wanted o (yielded ops a.tmps) = true) (h : wpList P ops Q ({ o with guard := none } :: rest) a w) : wpList P ops Q (o :: rest) a w := by
  have h0 : Region.wanted { o with guard := none } (yielded ops a.tmps) = true := by simp [Region.wanted]
  unfold wpList at h ⊢
  rw [if_pos h0] at h
  rw [if_pos hw]
  exact h

/-- A constant text as bytes. -/
theorem wpList_convs {ops : Array Oper} {rest : List Oper} {o : Oper} {a : Act} {w : World} {Q : Exit → Act → World → Prop}
    (hg : o.guard = none) (x : Operand) (hop : o.op = .convert 23 23 x) (V : World) (b : Nat) (cs : Array Value) (xs : List Int) (n : Nat) (hb : b = V.heap.size) (hx : a.eval x = .slice (some ⟨b, 0, none⟩) n n) (hw : w = V.alloc (.cells cs 5)) (hc : cs = (xs.map (Value.int .u8)).toArray) (hn : xs.length = n) (hn9 : n ≤ 1000000) (hr : ∀ x ∈ xs, 0 ≤ x ∧ x ≤ 255)
    (hK : ∀ W, Tx W (some ⟨b, 0, none⟩) n n xs → Below V.heap.size V W → wpList Try.prog ops Q rest (a.put o.dst (.slice (some ⟨b, 0, none⟩) n n)) W) :
    wpList Try.prog ops Q (o :: rest) a w := by
  subst hb hw
  refine wpList_plain hg fun K hKK => ?_
  have hrun := Lib.run_convert_bytes_const (P := Try.prog) V 23 5 cs n n Try.underlying23 Try.underlying5
  unfold Oper.wp
  simp [execOp, hop, hx, hrun, Result.andThen]
  exact hKK _ _ (hK _ (tx_mark V cs _ xs n hc hn hn9 hr) ((Below.refl _ _).alloc (Nat.le_refl _) _))

def zerosN (n : Nat) : List Int := List.replicate n 0
theorem zerosN_len (n : Nat) : (zerosN n).length = n := List.length_replicate
def kEnts (n : Nat) : List Ent := List.replicate n ⟨[107], [], true⟩
/-- Zeros that are made. -/
theorem wpList_zeros (w : World) {ops : Array Oper} {rest : List Oper} {o : Oper} {a : Act} {Q : Exit → Act → World → Prop}
    (hg : o.guard = none) (l c : Operand) (hop : o.op = Op.makeSlice 23 l c)
    (kl kc : IntKind) (L C : Int) (n : Nat) (hl : a.eval l = .int kl L) (hc : a.eval c = .int kc C) (hL : L = (n : Int)) (hC : C = (n : Int)) (b : n ≤ 1000000000)
    (hK : ∀ w', Tx w' (some ⟨w.heap.size, 0, none⟩) n n (zerosN n) → Below w.heap.size w w' → wpList Try.prog ops Q rest (a.put o.dst (.slice (some ⟨w.heap.size, 0, none⟩) n n)) w') :
    wpList Try.prog ops Q (o :: rest) a w :=
  wpList_make_bytes w hg l c hop kl kc L C n hl hc hL hC b fun w' r hb => hK w' (r.tx n (by simp) b (fun x hx => by rw [List.eq_of_mem_replicate hx]; omega)) hb

theorem cells_at (V : World) (cs : Array Value) (t : TypeId) (j : Nat) (x : Value) (h : cs[j]? = some x) : (V.alloc (.cells cs t)).cell? ⟨V.heap.size, j, none⟩ = some x := by
  rw [cell_of_row _ V.heap.size j cs t (0, 0) (heap_alloc_new V _)]; exact h

theorem lx_four (w : World) {A B C D : Value} {x y z u : List Int} (ha : BytesAt w [] A x) (hb : BytesAt w [] B y) (hc : BytesAt w [] C z) (hd : BytesAt w [] D u) :
    Lx 1 RB (w.alloc (.cells #[A, B, C, D] 23)) (some ⟨w.heap.size, 0, none⟩) 4 4 [x, y, z, u] ∧ Below w.heap.size w (w.alloc (.cells #[A, B, C, D] 23)) := by
  have hbel : Below w.heap.size w (w.alloc (.cells #[A, B, C, D] 23)) := (Below.refl _ _).alloc (Nat.le_refl _) _
  refine ⟨⟨rfl, Nat.le_refl _, by unfold maxLen; omega, fun h => (by cases h), fun ad h j e he => ?_⟩, hbel⟩
  cases h
  have hj : j < 4 := by have := (List.getElem?_eq_some_iff.1 he).1; simpa using this
  have key : ∀ (v : Value) (q : List Int), BytesAt w [] v q → (#[A, B, C, D] : Array Value)[j]? = some v → e = q → ∃ uu : List Value, (∀ (i : Nat) (y : Value), uu[i]? = some y → (w.alloc (.cells #[A, B, C, D] 23)).cell? ((⟨w.heap.size, 0, none⟩ : Addr).add (j * 1 + i)) = some y) ∧ RB (w.alloc (.cells #[A, B, C, D] 23)) [] uu e := by
    intro v q hq hv heq
    subst heq
    refine ⟨[v], fun i y hy => ?_, v, rfl, hq.off (.of_below hbel) (by simp)⟩
    have hi : i = 0 := by have := (List.getElem?_eq_some_iff.1 hy).1; simp at this; omega
    subst hi
    simp at hy
    subst hy
    rw [Addr.add_lit, Nat.zero_add, Nat.mul_one, Nat.add_zero]
    exact cells_at w _ 23 j v hv
  have h3 : j = 0 ∨ j = 1 ∨ j = 2 ∨ j = 3 := by omega
  rcases h3 with rfl | rfl | rfl | rfl
  · exact key A x ha rfl (by simpa using he.symm)
  · exact key B y hb rfl (by simpa using he.symm)
  · exact key C z hc rfl (by simpa using he.symm)
  · exact key D u hd rfl (by simpa using he.symm)

theorem lx_ent_one (V : World) {k v : Value} {e : Ent} (hk : BytesAt V [] k e.k) (hv : BytesAt V [] v e.v) (G : Bool) (hG : G = e.g) : Lx 3 RE (V.alloc (.cells #[k, v, .bool G] 25)) (some ⟨V.heap.size, 0, none⟩) 1 1 [e] ∧ Below V.heap.size V (V.alloc (.cells #[k, v, .bool G] 25)) := by
  have hb : Below V.heap.size V (V.alloc (.cells #[k, v, .bool G] 25)) := (Below.refl _ _).alloc (Nat.le_refl _) _
  refine ⟨⟨rfl, Nat.le_refl _, by unfold maxLen; omega, fun h => (by cases h), fun ad ha j x hx => ?_⟩, hb⟩
  cases ha
  have hj : j = 0 := by have := (List.getElem?_eq_some_iff.1 hx).1; simp at this; omega
  subst hj
  simp at hx
  subst hx
  refine ⟨[k, v, .bool G], fun i y hy => ?_, k, v, by rw [hG], hk.off (.of_below hb) (by simp), hv.off (.of_below hb) (by simp)⟩
  rw [Addr.add_lit, Nat.zero_mul, Nat.zero_add, Nat.zero_add]
  exact cells_at V _ 25 i y (by simpa using hy)

theorem lx_ent_three (V : World) {k v k2 v2 k3 v3 : Value} {e e2 e3 : Ent} (hk : BytesAt V [] k e.k) (hv : BytesAt V [] v e.v) (hk2 : BytesAt V [] k2 e2.k) (hv2 : BytesAt V [] v2 e2.v) (hk3 : BytesAt V [] k3 e3.k) (hv3 : BytesAt V [] v3 e3.v) (G G2 G3 : Bool) (hG : G = e.g) (hG2 : G2 = e2.g) (hG3 : G3 = e3.g) :
    Lx 3 RE (V.alloc (.cells #[k, v, .bool G, k2, v2, .bool G2, k3, v3, .bool G3] 25)) (some ⟨V.heap.size, 0, none⟩) 3 3 [e, e2, e3] ∧ Below V.heap.size V (V.alloc (.cells #[k, v, .bool G, k2, v2, .bool G2, k3, v3, .bool G3] 25)) := by
  have hb : Below V.heap.size V (V.alloc (.cells #[k, v, .bool G, k2, v2, .bool G2, k3, v3, .bool G3] 25)) := (Below.refl _ _).alloc (Nat.le_refl _) _
  refine ⟨⟨rfl, Nat.le_refl _, by unfold maxLen; omega, fun h => (by cases h), fun ad ha j x hx => ?_⟩, hb⟩
  cases ha
  have hj : j < 3 := by have := (List.getElem?_eq_some_iff.1 hx).1; simpa using this
  have h3 : j = 0 ∨ j = 1 ∨ j = 2 := by omega
  rcases h3 with rfl | rfl | rfl
  · simp at hx
    subst hx
    refine ⟨[k, v, .bool G], fun i y hy => ?_, k, v, by rw [hG], hk.off (.of_below hb) (by simp), hv.off (.of_below hb) (by simp)⟩
    have hi : i < 3 := by have := (List.getElem?_eq_some_iff.1 hy).1; simpa using this
    rw [Addr.add_lit, Nat.zero_add]
    refine cells_at V _ 25 _ y ?_
    have h3 : i = 0 ∨ i = 1 ∨ i = 2 := by omega
    rcases h3 with rfl | rfl | rfl <;> simpa using hy
  · simp at hx
    subst hx
    refine ⟨[k2, v2, .bool G2], fun i y hy => ?_, k2, v2, by rw [hG2], hk2.off (.of_below hb) (by simp), hv2.off (.of_below hb) (by simp)⟩
    have hi : i < 3 := by have := (List.getElem?_eq_some_iff.1 hy).1; simpa using this
    rw [Addr.add_lit, Nat.zero_add]
    refine cells_at V _ 25 _ y ?_
    have h3 : i = 0 ∨ i = 1 ∨ i = 2 := by omega
    rcases h3 with rfl | rfl | rfl <;> simpa using hy
  · simp at hx
    subst hx
    refine ⟨[k3, v3, .bool G3], fun i y hy => ?_, k3, v3, by rw [hG3], hk3.off (.of_below hb) (by simp), hv3.off (.of_below hb) (by simp)⟩
    have hi : i < 3 := by have := (List.getElem?_eq_some_iff.1 hy).1; simpa using this
    rw [Addr.add_lit, Nat.zero_add]
    refine cells_at V _ 25 _ y ?_
    have h3 : i = 0 ∨ i = 1 ∨ i = 2 := by omega
    rcases h3 with rfl | rfl | rfl <;> simpa using hy

/-- A row of n entries, k of them written. -/
structure Er (w : World) (g n k : Nat) : Prop where
  here : w.there g 0 (n * 3)
  cell : ∀ j, j < k → ∃ kb, w.rangeAt g (j * 3) [.slice (some ⟨kb, 0, none⟩) 1 1, .slice none 0 0, .bool true] ∧ kb ≠ g ∧ Tx w (some ⟨kb, 0, none⟩) 1 1 [107]

theorem there_later {w w' : World} {g o n : Nat} (h : w.there g o n) (hb : Below w.heap.size w w') : w'.there g o n := fun j hj => by
  obtain ⟨h1, h2⟩ := h j hj
  obtain ⟨u, hu⟩ := Option.isSome_iff_exists.1 h1
  have hk := World.block_lt_of_cell? w _ hu
  have he := hb.block g hk
  refine ⟨by rw [cell_later hb hu]; rfl, ?_⟩
  have : w'.frozen? ⟨g, o + j, none⟩ = w.frozen? ⟨g, o + j, none⟩ := by simp only [World.frozen?]; rw [he]
  rw [this]; exact h2
theorem Er.lt {w : World} {g n k : Nat} (h : Er w g n k) (hn : 0 < n) : g < w.heap.size := by
  obtain ⟨u, hu⟩ := Option.isSome_iff_exists.1 (h.here 0 (by omega)).1
  exact World.block_lt_of_cell? w _ hu
theorem Er.later {w w' : World} {g n k : Nat} (h : Er w g n k) (hb : Below w.heap.size w w') : Er w' g n k :=
  ⟨there_later h.here hb, fun j hj => by
    obtain ⟨kb, h1, h2, h3⟩ := h.cell j hj
    exact ⟨kb, fun i v hv => cell_later hb (h1 i v hv), h2, h3.later hb⟩⟩
theorem off_setCells (g : Nat) : ∀ (vs : List Value) (o : Nat) (w : World), Off [g] w (w.setCells g o vs)
  | [], _, w => Off.refl _ w
  | v :: r, o, w => ((Off.refl [g] w).setCell (p := ⟨g, o, none⟩) (by simp) v).trans (off_setCells g r (o + 1) _)
theorem Er.put {w : World} {g n k : Nat} (h : Er w g n k) (hk : k < n) (kb : Nat) (hb : kb ≠ g) (t : Tx w (some ⟨kb, 0, none⟩) 1 1 [107]) :
    Er (w.setCells g (k * 3) [.slice (some ⟨kb, 0, none⟩) 1 1, .slice none 0 0, .bool true]) g n (k + 1) := by
  have ho := off_setCells g [.slice (some ⟨kb, 0, none⟩) 1 1, .slice none 0 0, .bool true] (k * 3) w
  refine ⟨World.there_setCells h.here g (k * 3) _, fun j hj => ?_⟩
  by_cases e : j = k
  · subst e
    refine ⟨kb, World.rangeAt_setCells_same w g (j * 3) _ (fun i hi => ?_), hb, t.off ho (fun ad ha _ => by cases ha; simpa using hb)⟩
    have := h.here (j * 3 + i) (by simp at hi; omega)
    rwa [Nat.zero_add] at this
  · obtain ⟨kb', h1, h2, h3⟩ := h.cell j (by omega)
    refine ⟨kb', World.rangeAt_setCells_apart h1 g (k * 3) _ (.inr (.inl (by simp; omega))), h2, h3.off ho (fun ad ha _ => by cases ha; simpa using h2)⟩
theorem Er.made {w : World} {base g n : Nat} {us : List Value} (h : w.ownsRow base 25 3 (.slice (some ⟨g, 0, none⟩) n n) n us) : Er w g n 0 := by
  obtain ⟨_, ⟨h', _⟩ | ⟨g', cap, cur, h', _, hg, _, _, hs, ht⟩⟩ := h
  · simp at h'
  · simp only [Value.slice.injEq, Option.some.injEq, Addr.mk.injEq, and_true, true_and] at h'
    obtain ⟨rfl, rfl⟩ := h'
    refine ⟨fun j hj => ⟨?_, frozen_of_row w g _ _ 25 hg⟩, fun j hj => by omega⟩
    rw [cell_of_row w g _ cur 25 (0, 0) hg]
    simp; omega
theorem Er.read {w : World} {g n k : Nat} (h : Er w g n n) (hk : k ≤ n) (hn : n ≤ 1000000) : Lx 3 RE w (some ⟨g, 0, none⟩) k n (kEnts k) := by
  refine ⟨List.length_replicate, hk, by unfold maxLen; omega, fun h => (by cases h), fun ad ha j x hx => ?_⟩
  cases ha
  have hj : j < k := by have := (List.getElem?_eq_some_iff.1 hx).1; simpa [kEnts] using this
  have hxe : x = ⟨[107], [], true⟩ := List.eq_of_mem_replicate (List.mem_of_getElem? hx)
  subst hxe
  obtain ⟨kb, h1, h2, h3⟩ := h.cell j (by omega)
  refine ⟨_, fun i y hy => ?_, _, _, rfl, h3.at [] (by simp), (Tx.nil w).at [] (by simp)⟩
  rw [Addr.add_lit, Nat.zero_add]
  exact h1 i y hy

/-- Entries that are made. -/
theorem wpList_make_ents (w : World) {ops : Array Oper} {rest : List Oper} {o : Oper} {a : Act} {Q : Exit → Act → World → Prop}
    (hg : o.guard = none) (l c : Operand) (hop : o.op = Op.makeSlice 22 l c)
    (kl kc : IntKind) (L C : Int) (n : Nat) (hl : a.eval l = .int kl L) (hc : a.eval c = .int kc C) (hL : L = (n : Int)) (hC : C = (n : Int)) (b : n ≤ 1000000)
    (hK : ∀ w', Er w' w.heap.size n 0 → Below w.heap.size w w' → wpList Try.prog ops Q rest (a.put o.dst (.slice (some ⟨w.heap.size, 0, none⟩) n n)) w') :
    wpList Try.prog ops Q (o :: rest) a w := by
  obtain ⟨i, hi, hz0, hz1, hz2⟩ := info_parts Try.info25
  refine wpList_make_full w hg l c 22 hop w.heap.size 25 i _ 3 Try.underlying22 hi hz0 hz1 kl kc L C n hl hc hL hC (by rw [hz2]; omega) (by unfold maxLen; omega) (Nat.le_refl _) ?_
  intro w' hown hgrow
  exact hK w' (Er.made hown) ((Below.refl _ _).grown hgrow (Nat.le_refl _) (fun k hk => by cases hk))

theorem info28s : (Try.prog.info? 25).map (·.size) = some 3 := by kernel_rfl

/-- The store of one. -/
theorem wpList_ent {ops : Array Oper} {rest : List Oper} {o : Oper} {a : Act} {w : World} {Q : Exit → Act → World → Prop}
    (hg : o.guard = none) (x y : Operand) (hop : o.op = .store 25 x y) (g n k kb : Nat) (hx : a.eval x = .pointer (some ⟨g, k * 3, none⟩)) (hy : a.eval y = .agg #[.slice (some ⟨kb, 0, none⟩) 1 1, .slice none 0 0, .bool true])
    (h : Er w g n k) (hk : k < n) (hb : kb ≠ g) (t : Tx w (some ⟨kb, 0, none⟩) 1 1 [107]) (B : Nat) (hB : B ≤ g) (hBw : B ≤ w.heap.size)
    (hK : ∀ w', Er w' g n (k + 1) → Below B w w' → wpList Try.prog ops Q rest (a.put o.dst undef) w') : wpList Try.prog ops Q (o :: rest) a w := by
  refine wpList_store_mid hg 25 x y hop g (k * 3) _ hx hy (fun j hj => ?_) info28s (by simp [Value.oneCell']) ?_
  · have := h.here (k * 3 + j) (by simp at hj; omega)
    rwa [Nat.zero_add] at this
  · exact hK _ (h.put hk kb hb t) ((off_setCells g _ _ w).below (by simpa using hB) hBw)

theorem step_app_g {ops : Array Oper} {o : Oper} {a : Act} {w : World} {K : Act → World → Prop} {Q : Exit → Act → World → Prop} {E : Prop}
    (hw : Region.wanted o (yielded ops a.tmps) = true) (s x : Operand) (hop : o.op = Op.call { callee := Callee.builtin Builtin.append, args := #[s, x], argTypes := #[23, 23] })
    (B : Nat) (v : Value) (n : Nat) (xs : List Int) (hs : a.eval s = v) (hown : w.ownsRow B 5 1 v n (xs.map (Value.int .u8)))
    (ao : Option Addr) (m c : Nat) (ys : List Int) (hx : a.eval x = .slice ao m c) (ht : Tx w ao m c ys) (b : n + m ≤ 1000000000) (hB : B ≤ w.heap.size)
    (hK : ∀ bo' q cap' w', Hid (q = n + m) → w'.ownsRow B 5 1 (.slice bo' q cap') q ((xs ++ ys).map (Value.int .u8)) → Below B w w' → K (a.put o.dst (.slice bo' q cap')) w') :
    if Region.wanted o (yielded ops a.tmps) = true then Oper.wp Try.prog o a w K Q else E := by
  rw [if_pos hw]
  obtain ⟨v', w', hrun, hown', hoff, hsub⟩ := run_app B w o.type v n xs hown ao m c ys ht b hB
  obtain ⟨bo', cap', rfl⟩ := own_form hown'
  unfold Oper.wp
  simp [execOp, hop, resolve, invoke, builtin, hs, hx, hrun, Result.andThen]
  exact hK bo' (n + m) cap' w' rfl hown' (hoff.below (fun k hk => (own_lt hown k hk).2) hB)
end

end Go.Proofs.Yteeemfohehpaeaa
