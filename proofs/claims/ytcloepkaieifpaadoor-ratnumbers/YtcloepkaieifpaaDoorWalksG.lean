/- The walk of rat.Div over right numbers: a refusal where the second is 0, else what rat.New answers of the quotient's parts; and, of small parts, a right number, the same as the quotient. -/
import Derived.Test.YtcloepkaieifpaaDoorSmall
namespace Go.Proofs.YtcloepkaieifpaaDoor
open Go.RowKit

theorem div_right (an ad bn bd : Int) (ha : rightB an ad = true) (hb : rightB bn bd = true) (h0 : ¬ bn = 0) (w : World) :
    Calls Tryd.prog 24 #[.agg #[.int .i64 an, .int .i64 ad], .agg #[.int .i64 bn, .int .i64 bd]] w fun e w' => e = .returned (.tuple #[.agg #[.int .i64 (newN (an * bd) (ad * bn)), .int .i64 (newD (an * bd) (ad * bn))], .int .i64 (newE (an * bd) (ad * bn))]) ∧ Below w.heap.size w w' := by
  obtain ⟨a1, a2, a3, a4, -⟩ := (rightB_iff an ad).1 ha
  obtain ⟨b1, b2, b3, b4, -⟩ := (rightB_iff bn bd).1 hb
  obtain ⟨p1, p2⟩ := mul_bd 2147483647 2147483647 an bd (by omega) (by omega) (by omega) (by omega)
  obtain ⟨p5, p6⟩ := mul_bd 2147483647 2147483647 ad bn (by omega) (by omega) (by omega) (by omega)
  have h0' : (bn == 0) = false := by simp [h0]
  go_enter Tryd.func24, Tryd.ntmps24
  go_wp2_with (first | (go_at_call 17; refine (right_any _ _ (by omega) (by omega) (by omega) (by omega) _).mono ?_; rintro e w' ⟨rfl, m, rfl⟩) | (go_at_call 18; refine (new_any _ _ (by omega) (by omega) (by omega) (by omega) _).mono ?_; rintro e w' ⟨rfl, hb'⟩; obtain ⟨hc, hf⟩ := bcell hb'; have hz := hb'.size; simp at hz))
  exact bodyPost_ret (v := .tuple #[.agg #[.int .i64 (newN (an * bd) (ad * bn)), .int .i64 (newD (an * bd) (ad * bn))], .int .i64 (newE (an * bd) (ad * bn))]) (by simp [results, Tryd.results24, go_sem, hc]) rfl ⟨rfl, by repeat (first | exact Below.refl _ _ | refine below_drewN ?_ _ | refine Below.setCell ?_ (by first | omega | (simp <;> omega)) _ | refine Below.alloc ?_ (by first | omega | (simp <;> omega)) _ | refine Below.drew ?_ | refine below_via ?_ hb' (by first | omega | (simp <;> omega)))⟩

theorem div_zero (an ad bd : Int) (ha : rightB an ad = true) (hb : rightB 0 bd = true) (w : World) :
    Calls Tryd.prog 24 #[.agg #[.int .i64 an, .int .i64 ad], .agg #[.int .i64 0, .int .i64 bd]] w fun e w' => e = .returned (.tuple #[.agg #[.int .i64 0, .int .i64 0], .int .i64 1]) ∧ Below w.heap.size w w' := by
  obtain ⟨a1, a2, a3, a4, -⟩ := (rightB_iff an ad).1 ha
  obtain ⟨b1, b2, b3, b4, -⟩ := (rightB_iff 0 bd).1 hb
  go_enter Tryd.func24, Tryd.ntmps24
  go_wp2_with (first | (go_at_call 17; refine (right_any _ _ (by omega) (by omega) (by omega) (by omega) _).mono ?_; rintro e w' ⟨rfl, m, rfl⟩))
  exact bodyPost_ret (v := .tuple #[.agg #[.int .i64 0, .int .i64 0], .int .i64 1]) (by simp [results, Tryd.results24, go_sem]) rfl ⟨rfl, by repeat (first | exact Below.refl _ _ | refine below_drewN ?_ _ | refine Below.setCell ?_ (by first | omega | (simp <;> omega)) _ | refine Below.alloc ?_ (by first | omega | (simp <;> omega)) _ | refine Below.drew ?_)⟩

theorem new_small_any (n d E F : Int) (hd : d ≠ 0) (h1 : -E ≤ n) (h2 : n ≤ E) (h3 : -F ≤ d) (h4 : d ≤ F) (hE : E ≤ 2147483647) (hF : F ≤ 2147483647) :
    newE n d = 0 ∧ rightB (newN n d) (newD n d) = true ∧ newN n d * d = n * newD n d ∧ -E ≤ newN n d ∧ newN n d ≤ E ∧ 1 ≤ newD n d ∧ newD n d ≤ F := by
  have a1 : absI n ≤ E := by unfold absI; omega
  have a2 : absI d ≤ F := by unfold absI; omega
  have h0 := newE_small n d hd (by omega) (by omega)
  obtain ⟨b1, b2⟩ := new_bd n d h0
  have hr := new_right n d h0
  have hp := ((rightB_iff _ _).1 hr).1
  refine ⟨h0, hr, new_eq n d h0, ?_, ?_, hp, by omega⟩ <;> (unfold absI at *; omega)

theorem div_small (A B C D E F an ad bn bd : Int) (ha : rightB an ad = true) (hb : rightB bn bd = true) (h0 : ¬ bn = 0)
    (a1 : -A ≤ an) (a2 : an ≤ A) (a4 : ad ≤ B) (b1 : -C ≤ bn) (b2 : bn ≤ C) (b4 : bd ≤ D) (hE : A * D ≤ E) (hE' : E ≤ 2147483647) (hF : B * C ≤ F) (hF' : F ≤ 2147483647) (w : World) :
    Calls Tryd.prog 24 #[.agg #[.int .i64 an, .int .i64 ad], .agg #[.int .i64 bn, .int .i64 bd]] w fun e w' => ∃ xn xd : Int, rightB xn xd = true ∧ xn * (ad * bn) = an * bd * xd ∧ -E ≤ xn ∧ xn ≤ E ∧ 1 ≤ xd ∧ xd ≤ F ∧ e = .returned (.tuple #[.agg #[.int .i64 xn, .int .i64 xd], .int .i64 0]) ∧ Below w.heap.size w w' := by
  have a3 := ((rightB_iff _ _).1 ha).1
  have b3 := ((rightB_iff _ _).1 hb).1
  obtain ⟨s1, s2⟩ := mul_bd A D an bd a1 a2 (by omega) b4
  obtain ⟨t1, t2⟩ := mul_bd B C ad bn (by omega) a4 b1 b2
  obtain ⟨k0, h1, h2, h3, h4, h5, h6⟩ := new_small_any (an * bd) (ad * bn) E F (mul_ne (by omega) h0) (by omega) (by omega) (by omega) (by omega) hE' hF'
  refine (div_right an ad bn bd ha hb h0 w).mono fun e w' ⟨he, hw⟩ => ⟨_, _, h1, h2, h3, h4, h5, h6, ?_, hw⟩
  rw [he, k0]

/-- A right number whose top is 0 is 0 / 1. -/
theorem right_zero {d : Int} (h : rightB 0 d = true) : d = 1 := by
  obtain ⟨a1, -, -, -, g⟩ := (rightB_iff 0 d).1 h
  unfold gcdI at g
  simp at g
  omega
/-- A right number whose parts are the same is 1 / 1. -/
theorem right_one {d : Int} (h : rightB d d = true) : d = 1 := by
  obtain ⟨a1, -, -, -, g⟩ := (rightB_iff d d).1 h
  unfold gcdI at g
  simp at g
  omega
theorem again_plain {an ad bn bd pn pd qn qd : Int} (hb : bn ≠ 0) (hp : pd ≠ 0)
    (e1 : pn * (ad * bd) = an * bn * pd) (e2 : qn * (pd * bn) = pn * bd * qd) : qn * ad = an * qd := by
  refine Int.eq_of_mul_eq_mul_right (mul_ne hp hb) ?_
  grind
end Go.Proofs.YtcloepkaieifpaaDoor
