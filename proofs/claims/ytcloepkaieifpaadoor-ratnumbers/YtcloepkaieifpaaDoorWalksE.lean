/- The walks of rat.Add, rat.Sub and rat.Mul over right numbers: what rat.New answers of the sum's, the difference's, the product's parts. -/
import Derived.Test.YtcloepkaieifpaaDoorWalksB
namespace Go.Proofs.YtcloepkaieifpaaDoor
open Go.RowKit

theorem bcell {W w1 : World} (hb : Below W.heap.size W w1) : (∀ b o, b < W.heap.size → w1.cell? ⟨b, o, none⟩ = W.cell? ⟨b, o, none⟩) ∧ (∀ b o, b < W.heap.size → w1.frozen? ⟨b, o, none⟩ = W.frozen? ⟨b, o, none⟩) :=
  ⟨fun b o h => hb.cell (p := ⟨b, o, none⟩) h, fun b o h => hb.frozen (p := ⟨b, o, none⟩) h⟩

theorem below_via {B : Nat} {w W w' : World} (h : Below B w W) (hb : Below W.heap.size W w') (hB : B ≤ W.heap.size) : Below B w w' := h.trans (hb.mono hB)

theorem add_right (an ad bn bd : Int) (ha : rightB an ad = true) (hb : rightB bn bd = true) (w : World) :
    Calls Tryd.prog 21 #[.agg #[.int .i64 an, .int .i64 ad], .agg #[.int .i64 bn, .int .i64 bd]] w fun e w' => e = .returned (.tuple #[.agg #[.int .i64 (newN (an * bd + bn * ad) (ad * bd)), .int .i64 (newD (an * bd + bn * ad) (ad * bd))], .int .i64 (newE (an * bd + bn * ad) (ad * bd))]) ∧ Below w.heap.size w w' := by
  obtain ⟨a1, a2, a3, a4, -⟩ := (rightB_iff an ad).1 ha
  obtain ⟨b1, b2, b3, b4, -⟩ := (rightB_iff bn bd).1 hb
  obtain ⟨p1, p2⟩ := mul_bd 2147483647 2147483647 an bd (by omega) (by omega) (by omega) (by omega)
  obtain ⟨p3, p4⟩ := mul_bd 2147483647 2147483647 bn ad (by omega) (by omega) (by omega) (by omega)
  obtain ⟨p5, p6⟩ := mul_bd 2147483647 2147483647 ad bd (by omega) (by omega) (by omega) (by omega)
  go_enter Tryd.func21, Tryd.ntmps21
  go_wp2_with (first | (go_at_call 17; refine (right_any _ _ (by omega) (by omega) (by omega) (by omega) _).mono ?_; rintro e w' ⟨rfl, m, rfl⟩) | (go_at_call 18; refine (new_any _ _ (by omega) (by omega) (by omega) (by omega) _).mono ?_; rintro e w' ⟨rfl, hb'⟩; obtain ⟨hc, hf⟩ := bcell hb'; have hz := hb'.size; simp at hz))
  exact bodyPost_ret (v := .tuple #[.agg #[.int .i64 (newN (an * bd + bn * ad) (ad * bd)), .int .i64 (newD (an * bd + bn * ad) (ad * bd))], .int .i64 (newE (an * bd + bn * ad) (ad * bd))]) (by simp [results, Tryd.results21, go_sem, hc]) rfl ⟨rfl, by repeat (first | exact Below.refl _ _ | refine below_drewN ?_ _ | refine Below.setCell ?_ (by first | omega | (simp <;> omega)) _ | refine Below.alloc ?_ (by first | omega | (simp <;> omega)) _ | refine Below.drew ?_ | refine below_via ?_ hb' (by first | omega | (simp <;> omega)))⟩
theorem sub_right (an ad bn bd : Int) (ha : rightB an ad = true) (hb : rightB bn bd = true) (w : World) :
    Calls Tryd.prog 22 #[.agg #[.int .i64 an, .int .i64 ad], .agg #[.int .i64 bn, .int .i64 bd]] w fun e w' => e = .returned (.tuple #[.agg #[.int .i64 (newN (an * bd - bn * ad) (ad * bd)), .int .i64 (newD (an * bd - bn * ad) (ad * bd))], .int .i64 (newE (an * bd - bn * ad) (ad * bd))]) ∧ Below w.heap.size w w' := by
  obtain ⟨a1, a2, a3, a4, -⟩ := (rightB_iff an ad).1 ha
  obtain ⟨b1, b2, b3, b4, -⟩ := (rightB_iff bn bd).1 hb
  obtain ⟨p1, p2⟩ := mul_bd 2147483647 2147483647 an bd (by omega) (by omega) (by omega) (by omega)
  obtain ⟨p3, p4⟩ := mul_bd 2147483647 2147483647 bn ad (by omega) (by omega) (by omega) (by omega)
  obtain ⟨p5, p6⟩ := mul_bd 2147483647 2147483647 ad bd (by omega) (by omega) (by omega) (by omega)
  go_enter Tryd.func22, Tryd.ntmps22
  go_wp2_with (first | (go_at_call 17; refine (right_any _ _ (by omega) (by omega) (by omega) (by omega) _).mono ?_; rintro e w' ⟨rfl, m, rfl⟩) | (go_at_call 18; refine (new_any _ _ (by omega) (by omega) (by omega) (by omega) _).mono ?_; rintro e w' ⟨rfl, hb'⟩; obtain ⟨hc, hf⟩ := bcell hb'; have hz := hb'.size; simp at hz))
  exact bodyPost_ret (v := .tuple #[.agg #[.int .i64 (newN (an * bd - bn * ad) (ad * bd)), .int .i64 (newD (an * bd - bn * ad) (ad * bd))], .int .i64 (newE (an * bd - bn * ad) (ad * bd))]) (by simp [results, Tryd.results22, go_sem, hc]) rfl ⟨rfl, by repeat (first | exact Below.refl _ _ | refine below_drewN ?_ _ | refine Below.setCell ?_ (by first | omega | (simp <;> omega)) _ | refine Below.alloc ?_ (by first | omega | (simp <;> omega)) _ | refine Below.drew ?_ | refine below_via ?_ hb' (by first | omega | (simp <;> omega)))⟩

theorem mul_right (an ad bn bd : Int) (ha : rightB an ad = true) (hb : rightB bn bd = true) (w : World) :
    Calls Tryd.prog 23 #[.agg #[.int .i64 an, .int .i64 ad], .agg #[.int .i64 bn, .int .i64 bd]] w fun e w' => e = .returned (.tuple #[.agg #[.int .i64 (newN (an * bn) (ad * bd)), .int .i64 (newD (an * bn) (ad * bd))], .int .i64 (newE (an * bn) (ad * bd))]) ∧ Below w.heap.size w w' := by
  obtain ⟨a1, a2, a3, a4, -⟩ := (rightB_iff an ad).1 ha
  obtain ⟨b1, b2, b3, b4, -⟩ := (rightB_iff bn bd).1 hb
  obtain ⟨p1, p2⟩ := mul_bd 2147483647 2147483647 an bn (by omega) (by omega) (by omega) (by omega)
  obtain ⟨p5, p6⟩ := mul_bd 2147483647 2147483647 ad bd (by omega) (by omega) (by omega) (by omega)
  go_enter Tryd.func23, Tryd.ntmps23
  go_wp2_with (first | (go_at_call 17; refine (right_any _ _ (by omega) (by omega) (by omega) (by omega) _).mono ?_; rintro e w' ⟨rfl, m, rfl⟩) | (go_at_call 18; refine (new_any _ _ (by omega) (by omega) (by omega) (by omega) _).mono ?_; rintro e w' ⟨rfl, hb'⟩; obtain ⟨hc, hf⟩ := bcell hb'; have hz := hb'.size; simp at hz))
  exact bodyPost_ret (v := .tuple #[.agg #[.int .i64 (newN (an * bn) (ad * bd)), .int .i64 (newD (an * bn) (ad * bd))], .int .i64 (newE (an * bn) (ad * bd))]) (by simp [results, Tryd.results23, go_sem, hc]) rfl ⟨rfl, by repeat (first | exact Below.refl _ _ | refine below_drewN ?_ _ | refine Below.setCell ?_ (by first | omega | (simp <;> omega)) _ | refine Below.alloc ?_ (by first | omega | (simp <;> omega)) _ | refine Below.drew ?_ | refine below_via ?_ hb' (by first | omega | (simp <;> omega)))⟩

end Go.Proofs.YtcloepkaieifpaaDoor
