/- The walk of frame.All. -/
import Derived.Test.YtdlkakkoaelemaaFWalksD
namespace Go.Proofs.Ytdlkakkoaelemaa
open Go.RowKit

theorem Tx.drop {w : World} {b off : Nat} {len cap : Nat} {xs : List Int} (h : Tx w (some ⟨b, off, none⟩) len cap xs) (k : Nat) (hk : k ≤ len) : Tx w (some ⟨b, off + k, none⟩) (len - k) (cap - k) (xs.drop k) := by
  refine ⟨by have := h.len_eq; simp; omega, by have := h.le; omega, by have := h.top; omega, fun ha => (by cases ha), fun ad ha j hj => ?_, fun n hn => h.rng n (List.mem_of_mem_drop hn)⟩
  cases ha
  have := h.cell _ rfl (k + j) (by omega)
  rw [Addr.add_lit] at this ⊢
  rw [Nat.add_assoc, this]
  simp [List.getD]

theorem val6 (xs : List Int) (hb : Bytes xs) (h : 6 ≤ xs.length) : getN xs 6 = num3 xs * 16777216 + num3 (xs.drop 3) := by
  match xs, h, hb with
  | a :: b :: c :: d :: e :: f :: r, _, hb =>
    have ha := hb.head
    have hb1 := hb.tail.head
    have hc := hb.tail.tail.head
    have hd := hb.tail.tail.tail.head
    have he := hb.tail.tail.tail.tail.head
    have hf := hb.tail.tail.tail.tail.tail.head
    have hok : okG (a :: b :: c :: d :: e :: f :: r) 6 = true := by simp [okG]; omega
    rw [getN, if_pos hok]
    show joinB (joinB (joinB (joinB (joinB (joinB 0 a) b) c) d) e) f = _
    rw [joinB_eq 0 a (by omega) (by omega) (by omega) (by omega), joinB_eq _ b (by omega) (by omega) (by omega) (by omega), joinB_eq _ c (by omega) (by omega) (by omega) (by omega), joinB_eq _ d (by omega) (by omega) (by omega) (by omega), joinB_eq _ e (by omega) (by omega) (by omega) (by omega), joinB_eq _ f (by omega) (by omega) (by omega) (by omega)]
    simp [num3]
    omega
theorem val3 (xs : List Int) (hb : Bytes xs) (h : 3 ≤ xs.length) : getN xs 3 = num3 xs := by
  match xs, h, hb with
  | a :: b :: c :: r, _, hb =>
    have ha := hb.head
    have hb1 := hb.tail.head
    have hc := hb.tail.tail.head
    have hok : okG (a :: b :: c :: r) 3 = true := by simp [okG]; omega
    rw [getN, if_pos hok]
    show joinB (joinB (joinB 0 a) b) c = _
    rw [joinB_eq 0 a (by omega) (by omega) (by omega) (by omega), joinB_eq _ b (by omega) (by omega) (by omega) (by omega), joinB_eq _ c (by omega) (by omega) (by omega) (by omega)]
    simp [num3]
    omega

/-- A slice that has come to its end. -/
theorem Tx.ended (w : World) (ao : Addr) (n c : Nat) (h : n = 0) (hc : c ≤ maxLen) : Tx w (some ao) n c [] := ⟨by simp [h], by omega, hc, fun h => (by cases h), fun _ _ j hj => (by omega), by simp⟩

theorem get_no (K : Int) (k : Nat) (hK : K = (k : Int)) (hk : k ≤ 8) (ao : Option Addr) (l c : Nat) (ys : List Int) (w : World) (h : Tx w ao l c ys) (hl : l < k) :
    Calls Try.prog 43 #[.slice ao l c, .int .i64 K] w fun e w' => e = .returned (.tuple #[.int .u64 0, .bool false]) ∧ w = w' := by
  subst hK
  have g := getN_short k ys (by have := h.len_eq; omega)
  refine (get_any ao l c k ys w h (by omega) (by omega) (by omega)).mono ?_
  rintro e w' ⟨rfl, hw⟩
  exact ⟨by rw [g.1, g.2], hw⟩
theorem get_yes (K : Int) (k : Nat) (hK : K = (k : Int)) (hk : k ≤ 8) (ao : Option Addr) (l c : Nat) (ys : List Int) (w : World) (h : Tx w ao l c ys) (hl : ¬ l < k) (hl9 : l ≤ 1000000000) :
    Calls Try.prog 43 #[.slice ao l c, .int .i64 K] w fun e w' => e = .returned (.tuple #[.int .u64 (getN ys k), .bool true]) ∧ w = w' := by
  subst hK
  have g : okG ys k = true := by have := h.len_eq; simp [okG]; omega
  refine (get_any ao l c k ys w h (by omega) (by omega) (by omega)).mono ?_
  rintro e w' ⟨rfl, hw⟩
  exact ⟨by rw [g], hw⟩

theorem all_end {w wr : World} {xs : List Int} {out : List (List Int)} {a n : Nat} {ok : Bool} {ro : Option Addr} {rc : Nat} (hd : allL xs = (out, a, ok)) (hls : Ls 23 1 RB wr w.heap.size (.slice ro n rc) out) (hb : Below w.heap.size w wr) (code : Int) (hc : code = if ok = true then 0 else 14) :
    ∃ bo lb cb, Ending.returned (.tuple #[.slice ro n rc, .int .i64 a, .int .i64 code]) = .returned (.tuple #[.slice bo lb cb, .int .i64 (allL xs).2.1, .int .i64 (if (allL xs).2.2 = true then 0 else 14)]) ∧ Lx 1 RB wr bo lb cb (allL xs).1 ∧ Below w.heap.size w wr := by
  obtain ⟨ao, cap, e, hl⟩ := hls.read RB.stable RB.plain
  simp only [Value.slice.injEq] at e
  obtain ⟨rfl, rfl, rfl⟩ := e
  rw [hd]
  exact ⟨ro, out.length, rc, by rw [hc], hl, hb⟩

theorem rb_new {V wr : World} {ro co : Option Addr} {n rc A cc : Nat} {B : Nat} {out : List (List Int)} {X : List Int} (hls : Ls 23 1 RB wr B (.slice ro n rc) out) (t : Tx V co A cc X) (hf : ∀ ad, co = some ad → wr.heap.size ≤ ad.block) (o : Obj) : RB (V.alloc o) (own (.slice ro n rc)) [.slice co A cc] X :=
  ⟨_, rfl, (t.alloc o).at _ (fun ad ha _ hk => by have := (hls.lt _ hk).1; have := hf ad ha; omega)⟩
theorem ls_new {V wr : World} {v : Value} {B : Nat} {out : List (List Int)} (hls : Ls 23 1 RB wr B v out) (hb : Below wr.heap.size wr V) (o : Obj) : Ls 23 1 RB (V.alloc o) B v out := hls.later RB.stable (hb.alloc hb.size o)
/-- What was written in the list's own row, and what is new, leaves all that was there. -/
theorem below_one {w wr V w5 : World} {v : Value} {out : List (List Int)} {o : Obj} (hls : Ls 23 1 RB wr w.heap.size v out) (hb : Below w.heap.size w wr) (hV : Below wr.heap.size wr V) (ho : Off (own v) (V.alloc o) w5) : Below w.heap.size w w5 :=
  (hb.trans ((hV.alloc hV.size o).mono hb.size)).trans (ho.below (fun k hk => (hls.lt k hk).2) (by have := hb.size; have := hV.size; simp; omega))

theorem lx_cell_one (w : World) (v : Value) (t : TypeId) (j : Nat) (x : Value) (h : [v][j]? = some x) : (w.alloc (.cells #[v] t)).cell? ((⟨w.heap.size, 0, none⟩ : Addr).add j) = some x := cell_one_new w v t j x h

end Go.Proofs.Ytdlkakkoaelemaa
