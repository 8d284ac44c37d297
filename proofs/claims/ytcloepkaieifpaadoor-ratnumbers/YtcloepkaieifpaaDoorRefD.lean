/- The document's own Op and Cmp: they answer as rat's do. -/
import Derived.Test.YtcloepkaieifpaaDoorRefB
import Derived.Test.YtcloepkaieifpaaDoorRefC
namespace Go.Proofs.YtcloepkaieifpaaDoor
open Go.RowKit

set_option maxHeartbeats 800000 in
theorem refadd_wrong (an ad bn bd : Int) (a1 : -9223372036854775808 ≤ an) (a2 : an ≤ 9223372036854775807) (a3 : -9223372036854775808 ≤ ad) (a4 : ad ≤ 9223372036854775807) (b1 : -9223372036854775808 ≤ bn) (b2 : bn ≤ 9223372036854775807) (b3 : -9223372036854775808 ≤ bd) (b4 : bd ≤ 9223372036854775807) (h : (rightB an ad && rightB bn bd) = false) (w : World) :
    Calls Tryd.prog 25 #[.int .u8 43, .agg #[.int .i64 an, .int .i64 ad], .agg #[.int .i64 bn, .int .i64 bd]] w fun e w' => e = .returned (.tuple #[.agg #[.int .i64 0, .int .i64 0], .int .i64 1]) ∧ Below w.heap.size w w' := by
  by_cases ha : rightB an ad = true
  · have hb : rightB bn bd = false := by simpa [ha] using h
    clear h
    go_enter Tryd.func25, Tryd.ntmps25
    go_wp2_with (first | (go_at_call 28; refine (refright_any _ _ (by omega) (by omega) (by omega) (by omega) _).mono ?_; rintro e w' ⟨rfl, m, rfl⟩))
    exact bodyPost_ret (v := .tuple #[.agg #[.int .i64 0, .int .i64 0], .int .i64 1]) (by simp [results, Tryd.results25, go_sem]) rfl ⟨rfl, by repeat (first | exact Below.refl _ _ | refine below_drewN ?_ _ | refine Below.setCell ?_ (by first | omega | (simp <;> omega)) _ | refine Below.alloc ?_ (by first | omega | (simp <;> omega)) _ | refine Below.drew ?_)⟩
  · have ha' : rightB an ad = false := by simpa using ha
    clear h ha
    go_enter Tryd.func25, Tryd.ntmps25
    go_wp2_with (first | (go_at_call 28; refine (refright_any _ _ (by omega) (by omega) (by omega) (by omega) _).mono ?_; rintro e w' ⟨rfl, m, rfl⟩))
    exact bodyPost_ret (v := .tuple #[.agg #[.int .i64 0, .int .i64 0], .int .i64 1]) (by simp [results, Tryd.results25, go_sem]) rfl ⟨rfl, by repeat (first | exact Below.refl _ _ | refine below_drewN ?_ _ | refine Below.setCell ?_ (by first | omega | (simp <;> omega)) _ | refine Below.alloc ?_ (by first | omega | (simp <;> omega)) _ | refine Below.drew ?_)⟩

set_option maxHeartbeats 800000 in
theorem refadd_right (an ad bn bd : Int) (ha : rightB an ad = true) (hb : rightB bn bd = true) (w : World) :
    Calls Tryd.prog 25 #[.int .u8 43, .agg #[.int .i64 an, .int .i64 ad], .agg #[.int .i64 bn, .int .i64 bd]] w fun e w' => e = .returned (.tuple #[.agg #[.int .i64 (newN (an * bd + bn * ad) (ad * bd)), .int .i64 (newD (an * bd + bn * ad) (ad * bd))], .int .i64 (newE (an * bd + bn * ad) (ad * bd))]) ∧ Below w.heap.size w w' := by
  obtain ⟨a1, a2, a3, a4, -⟩ := (rightB_iff an ad).1 ha
  obtain ⟨b1, b2, b3, b4, -⟩ := (rightB_iff bn bd).1 hb
  obtain ⟨p0, q0⟩ := mul_bd 2147483647 2147483647 an bd (by omega) (by omega) (by omega) (by omega)
  obtain ⟨p1, q1⟩ := mul_bd 2147483647 2147483647 bn ad (by omega) (by omega) (by omega) (by omega)
  obtain ⟨p2, q2⟩ := mul_bd 2147483647 2147483647 ad bd (by omega) (by omega) (by omega) (by omega)
  go_enter Tryd.func25, Tryd.ntmps25
  go_wp2_with (first | (go_at_call 28; refine (refright_any _ _ (by omega) (by omega) (by omega) (by omega) _).mono ?_; rintro e w' ⟨rfl, m, rfl⟩) | (go_at_call 19; refine (refnew_any _ _ (by omega) (by omega) (by omega) (by omega) _).mono ?_; rintro e w' ⟨rfl, hb'⟩; obtain ⟨hc, hf⟩ := bcell hb'; have hz := hb'.size; simp at hz))
  exact bodyPost_ret (v := .tuple #[.agg #[.int .i64 (newN (an * bd + bn * ad) (ad * bd)), .int .i64 (newD (an * bd + bn * ad) (ad * bd))], .int .i64 (newE (an * bd + bn * ad) (ad * bd))]) (by simp [results, Tryd.results25, go_sem, hc]) rfl ⟨rfl, by repeat (first | exact Below.refl _ _ | refine below_drewN ?_ _ | refine Below.setCell ?_ (by first | omega | (simp <;> omega)) _ | refine Below.alloc ?_ (by first | omega | (simp <;> omega)) _ | refine Below.drew ?_ | refine below_via ?_ hb' (by first | omega | (simp <;> omega)))⟩

set_option maxHeartbeats 800000 in
theorem refsub_wrong (an ad bn bd : Int) (a1 : -9223372036854775808 ≤ an) (a2 : an ≤ 9223372036854775807) (a3 : -9223372036854775808 ≤ ad) (a4 : ad ≤ 9223372036854775807) (b1 : -9223372036854775808 ≤ bn) (b2 : bn ≤ 9223372036854775807) (b3 : -9223372036854775808 ≤ bd) (b4 : bd ≤ 9223372036854775807) (h : (rightB an ad && rightB bn bd) = false) (w : World) :
    Calls Tryd.prog 25 #[.int .u8 45, .agg #[.int .i64 an, .int .i64 ad], .agg #[.int .i64 bn, .int .i64 bd]] w fun e w' => e = .returned (.tuple #[.agg #[.int .i64 0, .int .i64 0], .int .i64 1]) ∧ Below w.heap.size w w' := by
  by_cases ha : rightB an ad = true
  · have hb : rightB bn bd = false := by simpa [ha] using h
    clear h
    go_enter Tryd.func25, Tryd.ntmps25
    go_wp2_with (first | (go_at_call 28; refine (refright_any _ _ (by omega) (by omega) (by omega) (by omega) _).mono ?_; rintro e w' ⟨rfl, m, rfl⟩))
    exact bodyPost_ret (v := .tuple #[.agg #[.int .i64 0, .int .i64 0], .int .i64 1]) (by simp [results, Tryd.results25, go_sem]) rfl ⟨rfl, by repeat (first | exact Below.refl _ _ | refine below_drewN ?_ _ | refine Below.setCell ?_ (by first | omega | (simp <;> omega)) _ | refine Below.alloc ?_ (by first | omega | (simp <;> omega)) _ | refine Below.drew ?_)⟩
  · have ha' : rightB an ad = false := by simpa using ha
    clear h ha
    go_enter Tryd.func25, Tryd.ntmps25
    go_wp2_with (first | (go_at_call 28; refine (refright_any _ _ (by omega) (by omega) (by omega) (by omega) _).mono ?_; rintro e w' ⟨rfl, m, rfl⟩))
    exact bodyPost_ret (v := .tuple #[.agg #[.int .i64 0, .int .i64 0], .int .i64 1]) (by simp [results, Tryd.results25, go_sem]) rfl ⟨rfl, by repeat (first | exact Below.refl _ _ | refine below_drewN ?_ _ | refine Below.setCell ?_ (by first | omega | (simp <;> omega)) _ | refine Below.alloc ?_ (by first | omega | (simp <;> omega)) _ | refine Below.drew ?_)⟩

set_option maxHeartbeats 800000 in
theorem refsub_right (an ad bn bd : Int) (ha : rightB an ad = true) (hb : rightB bn bd = true) (w : World) :
    Calls Tryd.prog 25 #[.int .u8 45, .agg #[.int .i64 an, .int .i64 ad], .agg #[.int .i64 bn, .int .i64 bd]] w fun e w' => e = .returned (.tuple #[.agg #[.int .i64 (newN (an * bd - bn * ad) (ad * bd)), .int .i64 (newD (an * bd - bn * ad) (ad * bd))], .int .i64 (newE (an * bd - bn * ad) (ad * bd))]) ∧ Below w.heap.size w w' := by
  obtain ⟨a1, a2, a3, a4, -⟩ := (rightB_iff an ad).1 ha
  obtain ⟨b1, b2, b3, b4, -⟩ := (rightB_iff bn bd).1 hb
  obtain ⟨p0, q0⟩ := mul_bd 2147483647 2147483647 an bd (by omega) (by omega) (by omega) (by omega)
  obtain ⟨p1, q1⟩ := mul_bd 2147483647 2147483647 bn ad (by omega) (by omega) (by omega) (by omega)
  obtain ⟨p2, q2⟩ := mul_bd 2147483647 2147483647 ad bd (by omega) (by omega) (by omega) (by omega)
  go_enter Tryd.func25, Tryd.ntmps25
  go_wp2_with (first | (go_at_call 28; refine (refright_any _ _ (by omega) (by omega) (by omega) (by omega) _).mono ?_; rintro e w' ⟨rfl, m, rfl⟩) | (go_at_call 19; refine (refnew_any _ _ (by omega) (by omega) (by omega) (by omega) _).mono ?_; rintro e w' ⟨rfl, hb'⟩; obtain ⟨hc, hf⟩ := bcell hb'; have hz := hb'.size; simp at hz))
  exact bodyPost_ret (v := .tuple #[.agg #[.int .i64 (newN (an * bd - bn * ad) (ad * bd)), .int .i64 (newD (an * bd - bn * ad) (ad * bd))], .int .i64 (newE (an * bd - bn * ad) (ad * bd))]) (by simp [results, Tryd.results25, go_sem, hc]) rfl ⟨rfl, by repeat (first | exact Below.refl _ _ | refine below_drewN ?_ _ | refine Below.setCell ?_ (by first | omega | (simp <;> omega)) _ | refine Below.alloc ?_ (by first | omega | (simp <;> omega)) _ | refine Below.drew ?_ | refine below_via ?_ hb' (by first | omega | (simp <;> omega)))⟩

set_option maxHeartbeats 800000 in
theorem refmul_wrong (an ad bn bd : Int) (a1 : -9223372036854775808 ≤ an) (a2 : an ≤ 9223372036854775807) (a3 : -9223372036854775808 ≤ ad) (a4 : ad ≤ 9223372036854775807) (b1 : -9223372036854775808 ≤ bn) (b2 : bn ≤ 9223372036854775807) (b3 : -9223372036854775808 ≤ bd) (b4 : bd ≤ 9223372036854775807) (h : (rightB an ad && rightB bn bd) = false) (w : World) :
    Calls Tryd.prog 25 #[.int .u8 42, .agg #[.int .i64 an, .int .i64 ad], .agg #[.int .i64 bn, .int .i64 bd]] w fun e w' => e = .returned (.tuple #[.agg #[.int .i64 0, .int .i64 0], .int .i64 1]) ∧ Below w.heap.size w w' := by
  by_cases ha : rightB an ad = true
  · have hb : rightB bn bd = false := by simpa [ha] using h
    clear h
    go_enter Tryd.func25, Tryd.ntmps25
    go_wp2_with (first | (go_at_call 28; refine (refright_any _ _ (by omega) (by omega) (by omega) (by omega) _).mono ?_; rintro e w' ⟨rfl, m, rfl⟩))
    exact bodyPost_ret (v := .tuple #[.agg #[.int .i64 0, .int .i64 0], .int .i64 1]) (by simp [results, Tryd.results25, go_sem]) rfl ⟨rfl, by repeat (first | exact Below.refl _ _ | refine below_drewN ?_ _ | refine Below.setCell ?_ (by first | omega | (simp <;> omega)) _ | refine Below.alloc ?_ (by first | omega | (simp <;> omega)) _ | refine Below.drew ?_)⟩
  · have ha' : rightB an ad = false := by simpa using ha
    clear h ha
    go_enter Tryd.func25, Tryd.ntmps25
    go_wp2_with (first | (go_at_call 28; refine (refright_any _ _ (by omega) (by omega) (by omega) (by omega) _).mono ?_; rintro e w' ⟨rfl, m, rfl⟩))
    exact bodyPost_ret (v := .tuple #[.agg #[.int .i64 0, .int .i64 0], .int .i64 1]) (by simp [results, Tryd.results25, go_sem]) rfl ⟨rfl, by repeat (first | exact Below.refl _ _ | refine below_drewN ?_ _ | refine Below.setCell ?_ (by first | omega | (simp <;> omega)) _ | refine Below.alloc ?_ (by first | omega | (simp <;> omega)) _ | refine Below.drew ?_)⟩

set_option maxHeartbeats 800000 in
theorem refmul_right (an ad bn bd : Int) (ha : rightB an ad = true) (hb : rightB bn bd = true) (w : World) :
    Calls Tryd.prog 25 #[.int .u8 42, .agg #[.int .i64 an, .int .i64 ad], .agg #[.int .i64 bn, .int .i64 bd]] w fun e w' => e = .returned (.tuple #[.agg #[.int .i64 (newN (an * bn) (ad * bd)), .int .i64 (newD (an * bn) (ad * bd))], .int .i64 (newE (an * bn) (ad * bd))]) ∧ Below w.heap.size w w' := by
  obtain ⟨a1, a2, a3, a4, -⟩ := (rightB_iff an ad).1 ha
  obtain ⟨b1, b2, b3, b4, -⟩ := (rightB_iff bn bd).1 hb
  obtain ⟨p0, q0⟩ := mul_bd 2147483647 2147483647 an bn (by omega) (by omega) (by omega) (by omega)
  obtain ⟨p1, q1⟩ := mul_bd 2147483647 2147483647 ad bd (by omega) (by omega) (by omega) (by omega)
  go_enter Tryd.func25, Tryd.ntmps25
  go_wp2_with (first | (go_at_call 28; refine (refright_any _ _ (by omega) (by omega) (by omega) (by omega) _).mono ?_; rintro e w' ⟨rfl, m, rfl⟩) | (go_at_call 19; refine (refnew_any _ _ (by omega) (by omega) (by omega) (by omega) _).mono ?_; rintro e w' ⟨rfl, hb'⟩; obtain ⟨hc, hf⟩ := bcell hb'; have hz := hb'.size; simp at hz))
  exact bodyPost_ret (v := .tuple #[.agg #[.int .i64 (newN (an * bn) (ad * bd)), .int .i64 (newD (an * bn) (ad * bd))], .int .i64 (newE (an * bn) (ad * bd))]) (by simp [results, Tryd.results25, go_sem, hc]) rfl ⟨rfl, by repeat (first | exact Below.refl _ _ | refine below_drewN ?_ _ | refine Below.setCell ?_ (by first | omega | (simp <;> omega)) _ | refine Below.alloc ?_ (by first | omega | (simp <;> omega)) _ | refine Below.drew ?_ | refine below_via ?_ hb' (by first | omega | (simp <;> omega)))⟩

set_option maxHeartbeats 800000 in
theorem refdiv_wrong (an ad bn bd : Int) (a1 : -9223372036854775808 ≤ an) (a2 : an ≤ 9223372036854775807) (a3 : -9223372036854775808 ≤ ad) (a4 : ad ≤ 9223372036854775807) (b1 : -9223372036854775808 ≤ bn) (b2 : bn ≤ 9223372036854775807) (b3 : -9223372036854775808 ≤ bd) (b4 : bd ≤ 9223372036854775807) (h : (rightB an ad && rightB bn bd) = false) (w : World) :
    Calls Tryd.prog 25 #[.int .u8 47, .agg #[.int .i64 an, .int .i64 ad], .agg #[.int .i64 bn, .int .i64 bd]] w fun e w' => e = .returned (.tuple #[.agg #[.int .i64 0, .int .i64 0], .int .i64 1]) ∧ Below w.heap.size w w' := by
  by_cases ha : rightB an ad = true
  · have hb : rightB bn bd = false := by simpa [ha] using h
    clear h
    go_enter Tryd.func25, Tryd.ntmps25
    go_wp2_with (first | (go_at_call 28; refine (refright_any _ _ (by omega) (by omega) (by omega) (by omega) _).mono ?_; rintro e w' ⟨rfl, m, rfl⟩))
    exact bodyPost_ret (v := .tuple #[.agg #[.int .i64 0, .int .i64 0], .int .i64 1]) (by simp [results, Tryd.results25, go_sem]) rfl ⟨rfl, by repeat (first | exact Below.refl _ _ | refine below_drewN ?_ _ | refine Below.setCell ?_ (by first | omega | (simp <;> omega)) _ | refine Below.alloc ?_ (by first | omega | (simp <;> omega)) _ | refine Below.drew ?_)⟩
  · have ha' : rightB an ad = false := by simpa using ha
    clear h ha
    go_enter Tryd.func25, Tryd.ntmps25
    go_wp2_with (first | (go_at_call 28; refine (refright_any _ _ (by omega) (by omega) (by omega) (by omega) _).mono ?_; rintro e w' ⟨rfl, m, rfl⟩))
    exact bodyPost_ret (v := .tuple #[.agg #[.int .i64 0, .int .i64 0], .int .i64 1]) (by simp [results, Tryd.results25, go_sem]) rfl ⟨rfl, by repeat (first | exact Below.refl _ _ | refine below_drewN ?_ _ | refine Below.setCell ?_ (by first | omega | (simp <;> omega)) _ | refine Below.alloc ?_ (by first | omega | (simp <;> omega)) _ | refine Below.drew ?_)⟩

set_option maxHeartbeats 800000 in
theorem refdiv_right (an ad bn bd : Int) (ha : rightB an ad = true) (hb : rightB bn bd = true) (h0 : ¬ bn = 0) (w : World) :
    Calls Tryd.prog 25 #[.int .u8 47, .agg #[.int .i64 an, .int .i64 ad], .agg #[.int .i64 bn, .int .i64 bd]] w fun e w' => e = .returned (.tuple #[.agg #[.int .i64 (newN (an * bd) (ad * bn)), .int .i64 (newD (an * bd) (ad * bn))], .int .i64 (newE (an * bd) (ad * bn))]) ∧ Below w.heap.size w w' := by
  obtain ⟨a1, a2, a3, a4, -⟩ := (rightB_iff an ad).1 ha
  obtain ⟨b1, b2, b3, b4, -⟩ := (rightB_iff bn bd).1 hb
  obtain ⟨p0, q0⟩ := mul_bd 2147483647 2147483647 an bd (by omega) (by omega) (by omega) (by omega)
  obtain ⟨p1, q1⟩ := mul_bd 2147483647 2147483647 ad bn (by omega) (by omega) (by omega) (by omega)
  have h0' : (bn == 0) = false := by simp [h0]
  go_enter Tryd.func25, Tryd.ntmps25
  go_wp2_with (first | (go_at_call 28; refine (refright_any _ _ (by omega) (by omega) (by omega) (by omega) _).mono ?_; rintro e w' ⟨rfl, m, rfl⟩) | (go_at_call 19; refine (refnew_any _ _ (by omega) (by omega) (by omega) (by omega) _).mono ?_; rintro e w' ⟨rfl, hb'⟩; obtain ⟨hc, hf⟩ := bcell hb'; have hz := hb'.size; simp at hz))
  exact bodyPost_ret (v := .tuple #[.agg #[.int .i64 (newN (an * bd) (ad * bn)), .int .i64 (newD (an * bd) (ad * bn))], .int .i64 (newE (an * bd) (ad * bn))]) (by simp [results, Tryd.results25, go_sem, hc]) rfl ⟨rfl, by repeat (first | exact Below.refl _ _ | refine below_drewN ?_ _ | refine Below.setCell ?_ (by first | omega | (simp <;> omega)) _ | refine Below.alloc ?_ (by first | omega | (simp <;> omega)) _ | refine Below.drew ?_ | refine below_via ?_ hb' (by first | omega | (simp <;> omega)))⟩

set_option maxHeartbeats 800000 in
theorem refdiv_zero (an ad bd : Int) (ha : rightB an ad = true) (hb : rightB 0 bd = true) (w : World) :
    Calls Tryd.prog 25 #[.int .u8 47, .agg #[.int .i64 an, .int .i64 ad], .agg #[.int .i64 0, .int .i64 bd]] w fun e w' => e = .returned (.tuple #[.agg #[.int .i64 0, .int .i64 0], .int .i64 1]) ∧ Below w.heap.size w w' := by
  obtain ⟨a1, a2, a3, a4, -⟩ := (rightB_iff an ad).1 ha
  obtain ⟨b1, b2, b3, b4, -⟩ := (rightB_iff 0 bd).1 hb
  go_enter Tryd.func25, Tryd.ntmps25
  go_wp2_with (first | (go_at_call 28; refine (refright_any _ _ (by omega) (by omega) (by omega) (by omega) _).mono ?_; rintro e w' ⟨rfl, m, rfl⟩))
  exact bodyPost_ret (v := .tuple #[.agg #[.int .i64 0, .int .i64 0], .int .i64 1]) (by simp [results, Tryd.results25, go_sem]) rfl ⟨rfl, by repeat (first | exact Below.refl _ _ | refine below_drewN ?_ _ | refine Below.setCell ?_ (by first | omega | (simp <;> omega)) _ | refine Below.alloc ?_ (by first | omega | (simp <;> omega)) _ | refine Below.drew ?_)⟩

set_option maxHeartbeats 1000000 in
theorem refcmp_all (an ad bn bd : Int) (a1 : -9223372036854775808 ≤ an) (a2 : an ≤ 9223372036854775807) (a3 : -9223372036854775808 ≤ ad) (a4 : ad ≤ 9223372036854775807) (b1 : -9223372036854775808 ≤ bn) (b2 : bn ≤ 9223372036854775807) (b3 : -9223372036854775808 ≤ bd) (b4 : bd ≤ 9223372036854775807) (w : World) :
    Calls Tryd.prog 27 #[.agg #[.int .i64 an, .int .i64 ad], .agg #[.int .i64 bn, .int .i64 bd]] w fun e w' => e = .returned (.int .i64 (cmpR an ad bn bd)) ∧ Below w.heap.size w w' := by
  by_cases ha : rightB an ad = true
  · by_cases hb : rightB bn bd = true
    · have hv : cmpR an ad bn bd = cmpI (an * bd) (bn * ad) := by unfold cmpR; rw [if_pos ha, if_pos hb]
      rw [hv]
      clear hv
      obtain ⟨c1, c2, c3, c4, -⟩ := (rightB_iff an ad).1 ha
      obtain ⟨d1, d2, d3, d4, -⟩ := (rightB_iff bn bd).1 hb
      obtain ⟨p0, q0⟩ := mul_bd 2147483647 2147483647 an bd (by omega) (by omega) (by omega) (by omega)
      obtain ⟨p1, q1⟩ := mul_bd 2147483647 2147483647 bn ad (by omega) (by omega) (by omega) (by omega)
      by_cases k1 : an * bd < bn * ad
      · have hc : cmpI (an * bd) (bn * ad) = -1 := by unfold cmpI; simp [k1]
        rw [hc]
        clear hc
        go_enter Tryd.func27, Tryd.ntmps27
        go_wp2
        go_region_held3 (fun w' => w'.cell? ⟨w.heap.size, 0, none⟩ = some (.int .i64 an) ∧ w'.cell? ⟨w.heap.size, 1, none⟩ = some (.int .i64 ad) ∧ w'.cell? ⟨w.heap.size + 1, 0, none⟩ = some (.int .i64 bn) ∧ w'.cell? ⟨w.heap.size + 1, 1, none⟩ = some (.int .i64 bd)) (simp [go_sem, World.cell?_alloc_past])
          (first
            | (go_at_call 28; refine (refright_any _ _ (by omega) (by omega) (by omega) (by omega) _).mono ?_; rintro e w' ⟨rfl, m, rfl⟩))
        go_wp2
        go_ret
        exact ⟨rfl, by repeat (first | exact Below.refl _ _ | refine below_drewN ?_ _ | refine Below.setCell ?_ (by first | omega | (simp <;> omega)) _ | refine Below.alloc ?_ (by first | omega | (simp <;> omega)) _ | refine Below.drew ?_)⟩
      · by_cases k2 : bn * ad < an * bd
        · have hc : cmpI (an * bd) (bn * ad) = 1 := by unfold cmpI; simp [k1, k2]
          rw [hc]
          clear hc
          go_enter Tryd.func27, Tryd.ntmps27
          go_wp2
          go_region_held3 (fun w' => w'.cell? ⟨w.heap.size, 0, none⟩ = some (.int .i64 an) ∧ w'.cell? ⟨w.heap.size, 1, none⟩ = some (.int .i64 ad) ∧ w'.cell? ⟨w.heap.size + 1, 0, none⟩ = some (.int .i64 bn) ∧ w'.cell? ⟨w.heap.size + 1, 1, none⟩ = some (.int .i64 bd)) (simp [go_sem, World.cell?_alloc_past])
            (first
              | (go_at_call 28; refine (refright_any _ _ (by omega) (by omega) (by omega) (by omega) _).mono ?_; rintro e w' ⟨rfl, m, rfl⟩))
          go_wp2
          go_ret
          exact ⟨rfl, by repeat (first | exact Below.refl _ _ | refine below_drewN ?_ _ | refine Below.setCell ?_ (by first | omega | (simp <;> omega)) _ | refine Below.alloc ?_ (by first | omega | (simp <;> omega)) _ | refine Below.drew ?_)⟩
        · have hc : cmpI (an * bd) (bn * ad) = 0 := by unfold cmpI; simp [k1, k2]
          rw [hc]
          clear hc
          go_enter Tryd.func27, Tryd.ntmps27
          go_wp2
          go_region_held3 (fun w' => w'.cell? ⟨w.heap.size, 0, none⟩ = some (.int .i64 an) ∧ w'.cell? ⟨w.heap.size, 1, none⟩ = some (.int .i64 ad) ∧ w'.cell? ⟨w.heap.size + 1, 0, none⟩ = some (.int .i64 bn) ∧ w'.cell? ⟨w.heap.size + 1, 1, none⟩ = some (.int .i64 bd)) (simp [go_sem, World.cell?_alloc_past])
            (first
              | (go_at_call 28; refine (refright_any _ _ (by omega) (by omega) (by omega) (by omega) _).mono ?_; rintro e w' ⟨rfl, m, rfl⟩))
          go_wp2
          go_ret
          exact ⟨rfl, by repeat (first | exact Below.refl _ _ | refine below_drewN ?_ _ | refine Below.setCell ?_ (by first | omega | (simp <;> omega)) _ | refine Below.alloc ?_ (by first | omega | (simp <;> omega)) _ | refine Below.drew ?_)⟩
    · have hb' : rightB bn bd = false := by simpa using hb
      have hv : cmpR an ad bn bd = 1 := by unfold cmpR; rw [if_pos ha, if_neg hb]
      rw [hv]
      clear hv hb
      go_enter Tryd.func27, Tryd.ntmps27
      go_wp2
      go_region_held3 (fun w' => w'.cell? ⟨w.heap.size, 0, none⟩ = some (.int .i64 an) ∧ w'.cell? ⟨w.heap.size, 1, none⟩ = some (.int .i64 ad) ∧ w'.cell? ⟨w.heap.size + 1, 0, none⟩ = some (.int .i64 bn) ∧ w'.cell? ⟨w.heap.size + 1, 1, none⟩ = some (.int .i64 bd)) (simp [go_sem, World.cell?_alloc_past])
        (first
          | (go_at_call 28; refine (refright_any _ _ (by omega) (by omega) (by omega) (by omega) _).mono ?_; rintro e w' ⟨rfl, m, rfl⟩))
      go_wp2
      go_ret
      exact ⟨rfl, by repeat (first | exact Below.refl _ _ | refine below_drewN ?_ _ | refine Below.setCell ?_ (by first | omega | (simp <;> omega)) _ | refine Below.alloc ?_ (by first | omega | (simp <;> omega)) _ | refine Below.drew ?_)⟩
  · have ha' : rightB an ad = false := by simpa using ha
    by_cases hb : rightB bn bd = true
    · have hv : cmpR an ad bn bd = -1 := by unfold cmpR; rw [if_neg ha, if_pos hb]
      rw [hv]
      clear hv ha
      go_enter Tryd.func27, Tryd.ntmps27
      go_wp2
      go_region_held3 (fun w' => w'.cell? ⟨w.heap.size, 0, none⟩ = some (.int .i64 an) ∧ w'.cell? ⟨w.heap.size, 1, none⟩ = some (.int .i64 ad) ∧ w'.cell? ⟨w.heap.size + 1, 0, none⟩ = some (.int .i64 bn) ∧ w'.cell? ⟨w.heap.size + 1, 1, none⟩ = some (.int .i64 bd)) (simp [go_sem, World.cell?_alloc_past])
        (first
          | (go_at_call 28; refine (refright_any _ _ (by omega) (by omega) (by omega) (by omega) _).mono ?_; rintro e w' ⟨rfl, m, rfl⟩))
      go_wp2
      go_ret
      exact ⟨rfl, by repeat (first | exact Below.refl _ _ | refine below_drewN ?_ _ | refine Below.setCell ?_ (by first | omega | (simp <;> omega)) _ | refine Below.alloc ?_ (by first | omega | (simp <;> omega)) _ | refine Below.drew ?_)⟩
    · have hb' : rightB bn bd = false := by simpa using hb
      have hv : cmpR an ad bn bd = 0 := by unfold cmpR; rw [if_neg ha, if_neg hb]
      rw [hv]
      clear hv ha hb
      go_enter Tryd.func27, Tryd.ntmps27
      go_wp2
      go_region_held3 (fun w' => w'.cell? ⟨w.heap.size, 0, none⟩ = some (.int .i64 an) ∧ w'.cell? ⟨w.heap.size, 1, none⟩ = some (.int .i64 ad) ∧ w'.cell? ⟨w.heap.size + 1, 0, none⟩ = some (.int .i64 bn) ∧ w'.cell? ⟨w.heap.size + 1, 1, none⟩ = some (.int .i64 bd)) (simp [go_sem, World.cell?_alloc_past])
        (first
          | (go_at_call 28; refine (refright_any _ _ (by omega) (by omega) (by omega) (by omega) _).mono ?_; rintro e w' ⟨rfl, m, rfl⟩))
      go_wp2
      go_ret
      exact ⟨rfl, by repeat (first | exact Below.refl _ _ | refine below_drewN ?_ _ | refine Below.setCell ?_ (by first | omega | (simp <;> omega)) _ | refine Below.alloc ?_ (by first | omega | (simp <;> omega)) _ | refine Below.drew ?_)⟩
end Go.Proofs.YtcloepkaieifpaaDoor
