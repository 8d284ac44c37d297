/- The walks of rat.Must, of the statements' own helper 'must', and of RatMust. -/
import Derived.Test.YtcloepkaieifpaaWalksC
import Derived.Test.YtcloepkaieifpaaWalksF
import Derived.WalkLawsBesides
import Derived.Defers
import Derived.Recover
namespace Go.Proofs.Ytcloepkaieifpaa
open Go.RowKit

theorem must_ok (n d : Int) (w : World) :
    Calls Try.prog 18 #[.agg #[.int .i64 n, .int .i64 d], .int .i64 0] w fun e w' => e = .returned (.agg #[.int .i64 n, .int .i64 d]) ∧ Below w.heap.size w w' := by
  go_enter Try.func18, Try.ntmps18
  go_wp2
  exact bodyPost_ret (v := .agg #[.int .i64 n, .int .i64 d]) (by simp [results, Try.results18, go_sem]) rfl ⟨rfl, by repeat (first | exact Below.refl _ _ | refine below_drewN ?_ _ | refine Below.setCell ?_ (by first | omega | (simp <;> omega)) _ | refine Below.alloc ?_ (by first | omega | (simp <;> omega)) _ | refine Below.drew ?_)⟩

theorem must_no (n d f : Int) (hf : ¬ f = 0) (w : World) :
    Calls Try.prog 18 #[.agg #[.int .i64 n, .int .i64 d], .int .i64 f] w fun e w' => e = .panicked [{ v := .iface 25 (.int .i64 f), recovered := false }] ∧ Below w.heap.size w w' := by
  have h : (f != 0) = true := by simp [hf]
  go_enter Try.func18, Try.ntmps18
  go_wp2
  exact ⟨rfl, rfl, by repeat (first | exact Below.refl _ _ | refine below_drewN ?_ _ | refine Below.setCell ?_ (by first | omega | (simp <;> omega)) _ | refine Below.alloc ?_ (by first | omega | (simp <;> omega)) _ | refine Below.drew ?_)⟩

theorem catch_idle (w : World) :
    CallsD Try.prog 17 #[] .returning w fun e u' w' => e = .returned (.tuple #[]) ∧ u' = .returning ∧ w' = w := by
  refine callsD_of_wpS Try.func17 rfl fun c₀ cs hu => ?_
  apply wpS_region
  simp [wpOpsS, go_sem, recoverD, hu, Try.ntmps17, bodyPostS, results, Try.results17]
  cases c₀
  simp_all

theorem catch_panicking (u : TypeId) (pv : Value) (older : List PanicEntry) (w : World) :
    CallsD Try.prog 17 #[] (.panicking ({ v := .iface u pv, recovered := false } :: older)) w fun e u' w' => e = .returned (.tuple #[]) ∧ u' = .panicking ({ v := .iface u pv, recovered := true } :: older) ∧ w' = w := by
  refine callsD_of_wpS Try.func17 rfl fun c₀ cs hu => ?_
  apply wpS_region
  simp [wpOpsS, go_sem, recoverD, hu, Try.ntmps17, bodyPostS, results, Try.results17]

theorem set4 (w1 : World) (b : Nat) (n d a c : Value) (h1 : w1.cell? ⟨b, 0, none⟩ = some a) (h2 : w1.cell? ⟨b, 1, none⟩ = some c) :
    ((((w1.setCell ⟨b, 0, none⟩ n).setCell ⟨b, 1, none⟩ d).setCell ⟨b, 0, none⟩ n).setCell ⟨b, 1, none⟩ d).cell? ⟨b, 0, none⟩ = some n ∧
    ((((w1.setCell ⟨b, 0, none⟩ n).setCell ⟨b, 1, none⟩ d).setCell ⟨b, 0, none⟩ n).setCell ⟨b, 1, none⟩ d).cell? ⟨b, 1, none⟩ = some d := by
  have e1 : (w1.setCell ⟨b, 0, none⟩ n).cell? ⟨b, 0, none⟩ = some n := World.cell?_setCell_same _ _ _ h1
  have e2 : (w1.setCell ⟨b, 0, none⟩ n).cell? ⟨b, 1, none⟩ = some c := by rw [World.cell?_setCell_other _ _ _ _ (by simp)]; exact h2
  have e3 : ((w1.setCell ⟨b, 0, none⟩ n).setCell ⟨b, 1, none⟩ d).cell? ⟨b, 0, none⟩ = some n := by rw [World.cell?_setCell_other _ _ _ _ (by simp)]; exact e1
  have e4 : ((w1.setCell ⟨b, 0, none⟩ n).setCell ⟨b, 1, none⟩ d).cell? ⟨b, 1, none⟩ = some d := World.cell?_setCell_same _ _ _ e2
  have e5 : (((w1.setCell ⟨b, 0, none⟩ n).setCell ⟨b, 1, none⟩ d).setCell ⟨b, 0, none⟩ n).cell? ⟨b, 0, none⟩ = some n := World.cell?_setCell_same _ _ _ e3
  have e6 : (((w1.setCell ⟨b, 0, none⟩ n).setCell ⟨b, 1, none⟩ d).setCell ⟨b, 0, none⟩ n).cell? ⟨b, 1, none⟩ = some d := by rw [World.cell?_setCell_other _ _ _ _ (by simp)]; exact e4
  exact ⟨by rw [World.cell?_setCell_other _ _ _ _ (by simp)]; exact e5, World.cell?_setCell_same _ _ _ e6⟩

theorem inner_ok (n d : Int) (w : World) :
    Calls Try.prog 13 #[.agg #[.int .i64 n, .int .i64 d], .int .i64 0] w fun e w' => e = .returned (.tuple #[.agg #[.int .i64 n, .int .i64 d], .bool true]) ∧ Below w.heap.size w w' := by
  have hmf : ∀ (fn : Fn) (first cap : Array Value) (w : World), (Instr.makeFunc fn first cap).run Try.prog w = .ok (.func fn first cap) w := fun _ _ _ _ => rfl
  go_enter_defers Try.func13, Try.ntmps13
  go_wp2_with (go_at_call 18; refine (must_ok _ _ _).mono ?_; rintro e w1 ⟨rfl, hb1⟩; obtain ⟨hc, hf⟩ := bcell hb1; have hz := hb1.size; simp at hz)
  refine leaves_cons (f := 17) (args := #[]) (by simp) (by simp [go_sem]) ?_
  refine (catch_idle _).mono ?_
  rintro e u' w'' ⟨rfl, rfl, rfl⟩
  have h1 : w1.cell? ⟨w.heap.size + 1, 0, none⟩ = some (.int .i64 0) := by rw [hc _ _ (by simp)]; simp [go_sem]
  have h2 : w1.cell? ⟨w.heap.size + 1, 1, none⟩ = some (.int .i64 0) := by rw [hc _ _ (by simp)]; simp [go_sem]
  have hB : Below w.heap.size w w1 := below_via (((Below.refl _ _).alloc (Nat.le_refl _) _).alloc (by simp) _) hb1 (by simp <;> omega)
  have hBF := (((hB.setCell (p := ⟨w.heap.size + 1, 0, none⟩) (by simp) (.int .i64 n)).setCell (p := ⟨w.heap.size + 1, 1, none⟩) (by simp) (.int .i64 d)).setCell (p := ⟨w.heap.size + 1, 0, none⟩) (by simp) (.int .i64 n)).setCell (p := ⟨w.heap.size + 1, 1, none⟩) (by simp) (.int .i64 d)
  obtain ⟨f1, f2⟩ := set4 w1 (w.heap.size + 1) (.int .i64 n) (.int .i64 d) _ _ h1 h2
  clear hc hf hb1 h1 h2 hB hz
  generalize ((((w1.setCell ⟨w.heap.size + 1, 0, none⟩ (.int .i64 n)).setCell ⟨w.heap.size + 1, 1, none⟩ (.int .i64 d)).setCell ⟨w.heap.size + 1, 0, none⟩ (.int .i64 n)).setCell ⟨w.heap.size + 1, 1, none⟩ (.int .i64 d)) = F at f1 f2 hBF ⊢
  simp [Leaves, settle, results, Try.results13, go_sem, f1, f2]
  exact hBF

theorem inner_no (n d f : Int) (h0 : ¬ f = 0) (w : World) :
    Calls Try.prog 13 #[.agg #[.int .i64 n, .int .i64 d], .int .i64 f] w fun e w' => e = .returned (.tuple #[.agg #[.int .i64 0, .int .i64 0], .bool false]) ∧ Below w.heap.size w w' := by
  have hmf : ∀ (fn : Fn) (first cap : Array Value) (w : World), (Instr.makeFunc fn first cap).run Try.prog w = .ok (.func fn first cap) w := fun _ _ _ _ => rfl
  go_enter_defers Try.func13, Try.ntmps13
  go_wp2_with (go_at_call 18; refine (must_no _ _ _ h0 _).mono ?_; rintro e w1 ⟨rfl, hb1⟩; obtain ⟨hc, hf⟩ := bcell hb1; have hz := hb1.size; simp at hz)
  refine leaves_cons (f := 17) (args := #[]) (by simp) (by simp [go_sem]) ?_
  refine (catch_panicking _ _ _ _).mono ?_
  rintro e u' w'' ⟨rfl, rfl, rfl⟩
  simp [Leaves, settle, results, Try.results13, go_sem, hc]
  exact below_via (((Below.refl _ _).alloc (Nat.le_refl _) _).alloc (by simp) _) hb1 (by simp <;> omega)
theorem mustlaw_walk (n d e : Int) (_ : -9223372036854775808 ≤ n) (_ : n ≤ 9223372036854775807) (_ : -9223372036854775808 ≤ d) (_ : d ≤ 9223372036854775807) (h1 : -9223372036854775808 ≤ e) (h2 : e ≤ 9223372036854775807) (w : World) :
    Calls Try.prog 4 #[.agg #[.int .i64 n, .int .i64 d], .int .i64 e] w fun e w' => e = .returned (.bool true) ∧ Below w.heap.size w w' := by
  go_enter Try.func4, Try.ntmps4
  go_wp2_with (go_at_call 12; refine (within_any _ _ _ (by omega) (by omega) (by omega) (by omega) (by omega) _).mono ?_; rintro e w' ⟨f, f1, f2, rfl, rfl⟩)
  by_cases h0 : f = 0
  · subst h0
    go_wp2_with (first | (go_at_call 13; with_reducible refine (inner_ok _ _ _).mono ?_; rintro e w1 ⟨rfl, hb1⟩; obtain ⟨hc1, hf1⟩ := bcell hb1; have hz1 : w.heap.size < w1.heap.size := (by have := hb1.size; simp at this; omega)) | (go_at_call 11; refine (known_any _).mono ?_; rintro e w2 ⟨rfl, hb2⟩))
    go_ret
    exact ⟨rfl, by repeat (first | exact Below.refl _ _ | refine below_drewN ?_ _ | refine Below.alloc ?_ (by first | omega | (simp <;> omega)) _ | refine below_via ?_ hb2 (by first | omega | (simp <;> omega)) | refine below_via ?_ hb1 (by first | omega | (simp <;> omega)))⟩
  · have h0' : (f == 0) = false := by simp [h0]
    go_wp2_with (first | (go_at_call 13; with_reducible refine (inner_no _ _ _ h0 _).mono ?_; rintro e w1 ⟨rfl, hb1⟩; obtain ⟨hc1, hf1⟩ := bcell hb1; have hz1 : w.heap.size < w1.heap.size := (by have := hb1.size; simp at this; omega)) | (go_at_call 11; refine (known_any _).mono ?_; rintro e w2 ⟨rfl, hb2⟩))
    go_ret
    exact ⟨rfl, by repeat (first | exact Below.refl _ _ | refine below_drewN ?_ _ | refine Below.alloc ?_ (by first | omega | (simp <;> omega)) _ | refine below_via ?_ hb2 (by first | omega | (simp <;> omega)) | refine below_via ?_ hb1 (by first | omega | (simp <;> omega)))⟩
end Go.Proofs.Ytcloepkaieifpaa
