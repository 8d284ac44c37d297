/- rat.Add, rat.Sub and rat.Mul over right numbers whose parts are small: no refusal, a right number, the same as the sum, the difference, the product; its parts within bounds. -/
import Derived.Test.YtcloepkaieifpaaDoorMath2
import Derived.Test.YtcloepkaieifpaaDoorWalksE
namespace Go.Proofs.YtcloepkaieifpaaDoor
open Go.RowKit

theorem new_small (n d E F : Int) (hd : 1 ≤ d) (h1 : -E ≤ n) (h2 : n ≤ E) (h3 : d ≤ F) (hE : E ≤ 2147483647) (hF : F ≤ 2147483647) :
    newE n d = 0 ∧ rightB (newN n d) (newD n d) = true ∧ newN n d * d = n * newD n d ∧ -E ≤ newN n d ∧ newN n d ≤ E ∧ 1 ≤ newD n d ∧ newD n d ≤ F := by
  have a1 : absI n ≤ E := by unfold absI; omega
  have a2 : absI d ≤ F := by unfold absI; omega
  have h0 := newE_small n d (by omega) (by omega) (by omega)
  obtain ⟨b1, b2⟩ := new_bd n d h0
  have hr := new_right n d h0
  have hp := ((rightB_iff _ _).1 hr).1
  refine ⟨h0, hr, new_eq n d h0, ?_, ?_, hp, by omega⟩ <;> (unfold absI at *; omega)

theorem sum_bd (A B C D E an ad bn bd : Int) (a1 : -A ≤ an) (a2 : an ≤ A) (a3 : 1 ≤ ad) (a4 : ad ≤ B) (b1 : -C ≤ bn) (b2 : bn ≤ C) (b3 : 1 ≤ bd) (b4 : bd ≤ D) (hE : A * D + C * B ≤ E) :
    -E ≤ an * bd + bn * ad ∧ an * bd + bn * ad ≤ E ∧ -E ≤ an * bd - bn * ad ∧ an * bd - bn * ad ≤ E := by
  obtain ⟨p1, p2⟩ := mul_bd A D an bd a1 a2 (by omega) b4
  obtain ⟨p3, p4⟩ := mul_bd C B bn ad b1 b2 (by omega) a4
  omega
theorem low_bd (B D F ad bd : Int) (a3 : 1 ≤ ad) (a4 : ad ≤ B) (b3 : 1 ≤ bd) (b4 : bd ≤ D) (hF : B * D ≤ F) : 1 ≤ ad * bd ∧ ad * bd ≤ F := by
  obtain ⟨p1, p2⟩ := mul_bd B D ad bd (by omega) a4 (by omega) b4
  have : 0 < ad * bd := Int.mul_pos (by omega) (by omega)
  omega

theorem add_small (A B C D E F an ad bn bd : Int) (ha : rightB an ad = true) (hb : rightB bn bd = true)
    (a1 : -A ≤ an) (a2 : an ≤ A) (a4 : ad ≤ B) (b1 : -C ≤ bn) (b2 : bn ≤ C) (b4 : bd ≤ D) (hE : A * D + C * B ≤ E) (hE' : E ≤ 2147483647) (hF : B * D ≤ F) (hF' : F ≤ 2147483647) (w : World) :
    Calls Tryd.prog 21 #[.agg #[.int .i64 an, .int .i64 ad], .agg #[.int .i64 bn, .int .i64 bd]] w fun e w' => ∃ xn xd : Int, rightB xn xd = true ∧ xn * (ad * bd) = (an * bd + bn * ad) * xd ∧ -E ≤ xn ∧ xn ≤ E ∧ 1 ≤ xd ∧ xd ≤ F ∧ e = .returned (.tuple #[.agg #[.int .i64 xn, .int .i64 xd], .int .i64 0]) ∧ Below w.heap.size w w' := by
  have a3 := ((rightB_iff _ _).1 ha).1
  have b3 := ((rightB_iff _ _).1 hb).1
  obtain ⟨s1, s2, -, -⟩ := sum_bd A B C D E an ad bn bd a1 a2 a3 a4 b1 b2 b3 b4 hE
  obtain ⟨t1, t2⟩ := low_bd B D F ad bd a3 a4 b3 b4 hF
  obtain ⟨h0, h1, h2, h3, h4, h5, h6⟩ := new_small _ _ E F t1 s1 s2 t2 hE' hF'
  refine (add_right an ad bn bd ha hb w).mono fun e w' ⟨he, hw⟩ => ⟨_, _, h1, h2, h3, h4, h5, h6, ?_, hw⟩
  rw [he, h0]

theorem sub_small (A B C D E F an ad bn bd : Int) (ha : rightB an ad = true) (hb : rightB bn bd = true)
    (a1 : -A ≤ an) (a2 : an ≤ A) (a4 : ad ≤ B) (b1 : -C ≤ bn) (b2 : bn ≤ C) (b4 : bd ≤ D) (hE : A * D + C * B ≤ E) (hE' : E ≤ 2147483647) (hF : B * D ≤ F) (hF' : F ≤ 2147483647) (w : World) :
    Calls Tryd.prog 22 #[.agg #[.int .i64 an, .int .i64 ad], .agg #[.int .i64 bn, .int .i64 bd]] w fun e w' => ∃ xn xd : Int, rightB xn xd = true ∧ xn * (ad * bd) = (an * bd - bn * ad) * xd ∧ -E ≤ xn ∧ xn ≤ E ∧ 1 ≤ xd ∧ xd ≤ F ∧ e = .returned (.tuple #[.agg #[.int .i64 xn, .int .i64 xd], .int .i64 0]) ∧ Below w.heap.size w w' := by
  have a3 := ((rightB_iff _ _).1 ha).1
  have b3 := ((rightB_iff _ _).1 hb).1
  obtain ⟨-, -, s1, s2⟩ := sum_bd A B C D E an ad bn bd a1 a2 a3 a4 b1 b2 b3 b4 hE
  obtain ⟨t1, t2⟩ := low_bd B D F ad bd a3 a4 b3 b4 hF
  obtain ⟨h0, h1, h2, h3, h4, h5, h6⟩ := new_small _ _ E F t1 s1 s2 t2 hE' hF'
  refine (sub_right an ad bn bd ha hb w).mono fun e w' ⟨he, hw⟩ => ⟨_, _, h1, h2, h3, h4, h5, h6, ?_, hw⟩
  rw [he, h0]

theorem mul_small (A B C D E F an ad bn bd : Int) (ha : rightB an ad = true) (hb : rightB bn bd = true)
    (a1 : -A ≤ an) (a2 : an ≤ A) (a4 : ad ≤ B) (b1 : -C ≤ bn) (b2 : bn ≤ C) (b4 : bd ≤ D) (hE : A * C ≤ E) (hE' : E ≤ 2147483647) (hF : B * D ≤ F) (hF' : F ≤ 2147483647) (w : World) :
    Calls Tryd.prog 23 #[.agg #[.int .i64 an, .int .i64 ad], .agg #[.int .i64 bn, .int .i64 bd]] w fun e w' => ∃ xn xd : Int, rightB xn xd = true ∧ xn * (ad * bd) = an * bn * xd ∧ -E ≤ xn ∧ xn ≤ E ∧ 1 ≤ xd ∧ xd ≤ F ∧ e = .returned (.tuple #[.agg #[.int .i64 xn, .int .i64 xd], .int .i64 0]) ∧ Below w.heap.size w w' := by
  have a3 := ((rightB_iff _ _).1 ha).1
  have b3 := ((rightB_iff _ _).1 hb).1
  obtain ⟨s1, s2⟩ := mul_bd A C an bn a1 a2 b1 b2
  obtain ⟨t1, t2⟩ := low_bd B D F ad bd a3 a4 b3 b4 hF
  obtain ⟨h0, h1, h2, h3, h4, h5, h6⟩ := new_small (an * bn) _ E F t1 (by omega) (by omega) t2 hE' hF'
  refine (mul_right an ad bn bd ha hb w).mono fun e w' ⟨he, hw⟩ => ⟨_, _, h1, h2, h3, h4, h5, h6, ?_, hw⟩
  rw [he, h0]

theorem cell_alloc {w : World} {a : Addr} {v : Value} (o : Obj) (h : w.cell? a = some v) : (w.alloc o).cell? a = some v := by
  rw [World.cell?_alloc_lt _ _ _ (World.block_lt_of_cell? _ _ h)]; exact h
end Go.Proofs.YtcloepkaieifpaaDoor
