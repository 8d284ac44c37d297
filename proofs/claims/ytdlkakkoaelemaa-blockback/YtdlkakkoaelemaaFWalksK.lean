/- The walk of the document's All. -/
import Derived.Test.YtdlkakkoaelemaaFWalksJ
namespace Go.Proofs.Ytdlkakkoaelemaa
open Go.RowKit

theorem own_empty2 (w : World) : Gr w.heap.size (w.alloc (.cells #[] 5)) (some ⟨w.heap.size, 0, none⟩) 0 0 [] := ⟨own_empty w, by simp, by simp⟩

theorem rget_yes (K : Int) (k : Nat) (hK : K = (k : Int)) (hk : k ≤ 8) (ao : Option Addr) (l c : Nat) (ys : List Int) (w : World) (h : Tx w ao l c ys) (hl : ¬ l < k) (hl9 : l ≤ 1000000000) :
    Calls Try.prog 38 #[.slice ao l c, .int .i64 K] w fun e w' => e = .returned (.tuple #[.int .u64 (getN ys k), .bool true]) ∧ w = w' := by
  subst hK
  have g : okG ys k = true := by have := h.len_eq; simp [okG]; omega
  refine (refget_any ao l c k ys w h (by omega) (by omega) (by omega)).mono ?_
  rintro e w' ⟨rfl, hw⟩
  exact ⟨by rw [g], hw⟩
theorem rget_no (K : Int) (k : Nat) (hK : K = (k : Int)) (hk : k ≤ 8) (ao : Option Addr) (l c : Nat) (ys : List Int) (w : World) (h : Tx w ao l c ys) (hl : l < k) :
    Calls Try.prog 38 #[.slice ao l c, .int .i64 K] w fun e w' => e = .returned (.tuple #[.int .u64 0, .bool false]) ∧ w = w' := by
  subst hK
  have g := getN_short k ys (by have := h.len_eq; omega)
  refine (refget_any ao l c k ys w h (by omega) (by omega) (by omega)).mono ?_
  rintro e w' ⟨rfl, hw⟩
  exact ⟨by rw [g.1, g.2], hw⟩

theorem rall_end {w wr : World} {xs : List Int} {out : List (List Int)} {a n : Nat} {ok : Bool} {ro : Option Addr} {rc : Nat} (hd : allL xs = (out, a, ok)) (hls : Ls 23 1 RB wr w.heap.size (.slice ro n rc) out) (hb : Below w.heap.size w wr) :
    ∃ bo lb cb, Ending.returned (.tuple #[.slice ro n rc, .int .i64 a, .bool ok]) = .returned (.tuple #[.slice bo lb cb, .int .i64 (allL xs).2.1, .bool (allL xs).2.2]) ∧ Lx 1 RB wr bo lb cb (allL xs).1 ∧ Below w.heap.size w wr := by
  obtain ⟨ao, cap, e, hl⟩ := hls.read RB.stable RB.plain
  simp only [Value.slice.injEq] at e
  obtain ⟨rfl, rfl, rfl⟩ := e
  rw [hd]
  exact ⟨ro, out.length, rc, rfl, hl, hb⟩

theorem rb_gr {X wr : World} {ro co : Option Addr} {n rc : Nat} {B A cc : Nat} {out : List (List Int)} {x : List Int} (hls : Ls 23 1 RB wr B (.slice ro n rc) out) (g : Gr wr.heap.size X co A cc x) (o : Obj) : RB (X.alloc o) (own (.slice ro n rc)) [.slice co A cc] x :=
  rb_new hls g.tx (fun ad ha => (g.lt ad.block (by subst ha; simp [own, Value.ownBlock])).2) o

end Go.Proofs.Ytdlkakkoaelemaa
