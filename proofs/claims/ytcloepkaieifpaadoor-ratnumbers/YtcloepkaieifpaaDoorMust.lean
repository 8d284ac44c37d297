/- The walks of rat.Must, of the statements' own helper 'must', and of RatMust. -/
import Derived.Test.YtcloepkaieifpaaDoorWalksC
import Derived.Test.YtcloepkaieifpaaDoorWalksF
import Derived.WalkLawsBesides
import Derived.Defers
import Derived.Recover
namespace Go.Proofs.YtcloepkaieifpaaDoor
open Go.RowKit

theorem must_ok (n d : Int) (w : World) :
    Calls Tryd.prog 31 #[.agg #[.int .i64 n, .int .i64 d], .int .i64 0] w fun e w' => e = .returned (.agg #[.int .i64 n, .int .i64 d]) ∧ Below w.heap.size w w' := by
  go_enter Tryd.func31, Tryd.ntmps31
  go_wp2
  exact bodyPost_ret (v := .agg #[.int .i64 n, .int .i64 d]) (by simp [results, Tryd.results31, go_sem]) rfl ⟨rfl, by repeat (first | exact Below.refl _ _ | refine below_drewN ?_ _ | refine Below.setCell ?_ (by first | omega | (simp <;> omega)) _ | refine Below.alloc ?_ (by first | omega | (simp <;> omega)) _ | refine Below.drew ?_)⟩

theorem must_no (n d f : Int) (hf : ¬ f = 0) (w : World) :
    Calls Tryd.prog 31 #[.agg #[.int .i64 n, .int .i64 d], .int .i64 f] w fun e w' => e = .panicked [{ v := .iface 31 (.int .i64 f), recovered := false }] ∧ Below w.heap.size w w' := by
  have h : (f != 0) = true := by simp [hf]
  go_enter Tryd.func31, Tryd.ntmps31
  go_wp2
  exact ⟨rfl, rfl, by repeat (first | exact Below.refl _ _ | refine below_drewN ?_ _ | refine Below.setCell ?_ (by first | omega | (simp <;> omega)) _ | refine Below.alloc ?_ (by first | omega | (simp <;> omega)) _ | refine Below.drew ?_)⟩

theorem catch_idle (w : World) :
    CallsD Tryd.prog 30 #[] .returning w fun e u' w' => e = .returned (.tuple #[]) ∧ u' = .returning ∧ w' = w := by
  refine callsD_of_wpS Tryd.func30 rfl fun c₀ cs hu => ?_
  apply wpS_region
  simp [wpOpsS, go_sem, recoverD, hu, Tryd.ntmps30, bodyPostS, results, Tryd.results30]
  cases c₀
  simp_all

theorem catch_panicking (u : TypeId) (pv : Value) (older : List PanicEntry) (w : World) :
    CallsD Tryd.prog 30 #[] (.panicking ({ v := .iface u pv, recovered := false } :: older)) w fun e u' w' => e = .returned (.tuple #[]) ∧ u' = .panicking ({ v := .iface u pv, recovered := true } :: older) ∧ w' = w := by
  refine callsD_of_wpS Tryd.func30 rfl fun c₀ cs hu => ?_
  apply wpS_region
  simp [wpOpsS, go_sem, recoverD, hu, Tryd.ntmps30, bodyPostS, results, Tryd.results30]

theorem set4 (w1 : World) (b : Nat) (n d a c : Value) (h1 : w1.cell? ⟨b, 0, none⟩ = some a) (h2 : w1.cell? ⟨b, 1, none⟩ = some c) :
    ((((w1.setCell ⟨b, 0, none⟩ n).setCell ⟨b, 1, none⟩ d).setCell ⟨b, 0, none⟩ n).setCell ⟨b, 1, none⟩ d).cell? ⟨b, 0, none⟩ = some n ∧
    ((((w1.setCell ⟨b, 0, none⟩ n).setCell ⟨b, 1, none⟩ d).setCell ⟨b, 0, none⟩ n).setCell ⟨b, 1, none⟩ d).cell? ⟨b, 1, none⟩ = some d := by
  have e1 : (w1.setCell ⟨b, 0, none⟩ n).cell? ⟨b, 0, none⟩ = some n := World.cell?_setCell_same _ _ _ h1
  have e2 : (w1.setCell ⟨b, 0, none⟩ n).cell? ⟨b, 1, none⟩ = some c := by rw [World.cell?_setCell_other _ _ _ _ (by simp)]; exact h2
  have e3 : ((w1.setCell ⟨b, 0, none⟩ n).setCell ⟨b, 1, none⟩ d).cell? ⟨b, 0, none⟩ = some n := by rw [World.cell?_setCell_other _ _ _ _ (by simp)]; exact e1
  have e4 : ((w1.setCell ⟨b, 0, none⟩ n).setCell ⟨b, 1, none⟩ d).cell? ⟨b, 1, none⟩ = some d := World.cell?_setCell_same _ _ _ e2
  have e5 : (((w1.setCell ⟨b, 0, none⟩ n).setCell ⟨b, 1, none⟩ d).setCell ⟨b, 0, none⟩ n).cell? ⟨b, 0, none⟩ = some n := World.cell?_setCell_same _ _ _ e3
  have e6 : (((w1.setCell ⟨b, 0, none⟩ n).setCell ⟨b, 1, none⟩ d).setCell ⟨b, 0, none⟩ n).cell? ⟨b, 1, none⟩ = some d := by rw [World.cell?_setCell_other _ _ _ _ (by simp)]; exact e4
  exact ⟨by rw [World.cell?_setCell_other _ _ _ _ (by simp)]; exact e5, World.cell?_setCell_same _ _ _ e6⟩

theorem inner_ok (n d : Int) (w : World) :
    Calls Tryd.prog 9 #[.agg #[.int .i64 n, .int .i64 d], .int .i64 0] w fun e w' => e = .returned (.tuple #[.agg #[.int .i64 n, .int .i64 d], .bool true]) ∧ Below w.heap.size w w' := by
  have hmf : ∀ (fn : Fn) (first cap : Array Value) (w : World), (Instr.makeFunc fn first cap).run Tryd.prog w = .ok (.func fn first cap) w := fun _ _ _ _ => rfl
  go_enter_defers Tryd.func9, Tryd.ntmps9
  go_wp2_with (go_at_call 31; refine (must_ok _ _ _).mono ?_; rintro e w1 ⟨rfl, hb1⟩; obtain ⟨hc, hf⟩ := bcell hb1; have hz := hb1.size; simp at hz)
  refine leaves_cons (f := 30) (args := #[]) (by simp) (by simp [go_sem]) ?_
  refine (catch_idle _).mono ?_
  rintro e u' w'' ⟨rfl, rfl, rfl⟩
  have h1 : w1.cell? ⟨w.heap.size + 1, 0, none⟩ = some (.int .i64 0) := by rw [hc _ _ (by simp)]; simp [go_sem]
  have h2 : w1.cell? ⟨w.heap.size + 1, 1, none⟩ = some (.int .i64 0) := by rw [hc _ _ (by simp)]; simp [go_sem]
  have hB : Below w.heap.size w w1 := below_via (((Below.refl _ _).alloc (Nat.le_refl _) _).alloc (by simp) _) hb1 (by simp <;> omega)
  have hBF := (((hB.setCell (p := ⟨w.heap.size + 1, 0, none⟩) (by simp) (.int .i64 n)).setCell (p := ⟨w.heap.size + 1, 1, none⟩) (by simp) (.int .i64 d)).setCell (p := ⟨w.heap.size + 1, 0, none⟩) (by simp) (.int .i64 n)).setCell (p := ⟨w.heap.size + 1, 1, none⟩) (by simp) (.int .i64 d)
  obtain ⟨f1, f2⟩ := set4 w1 (w.heap.size + 1) (.int .i64 n) (.int .i64 d) _ _ h1 h2
  clear hc hf hb1 h1 h2 hB hz
  generalize ((((w1.setCell ⟨w.heap.size + 1, 0, none⟩ (.int .i64 n)).setCell ⟨w.heap.size + 1, 1, none⟩ (.int .i64 d)).setCell ⟨w.heap.size + 1, 0, none⟩ (.int .i64 n)).setCell ⟨w.heap.size + 1, 1, none⟩ (.int .i64 d)) = F at f1 f2 hBF ⊢
  simp [Leaves, settle, results, Tryd.results9, go_sem, f1, f2]
  exact hBF

theorem inner_no (n d f : Int) (h0 : ¬ f = 0) (w : World) :
    Calls Tryd.prog 9 #[.agg #[.int .i64 n, .int .i64 d], .int .i64 f] w fun e w' => e = .returned (.tuple #[.agg #[.int .i64 0, .int .i64 0], .bool false]) ∧ Below w.heap.size w w' := by
  have hmf : ∀ (fn : Fn) (first cap : Array Value) (w : World), (Instr.makeFunc fn first cap).run Tryd.prog w = .ok (.func fn first cap) w := fun _ _ _ _ => rfl
  go_enter_defers Tryd.func9, Tryd.ntmps9
  go_wp2_with (go_at_call 31; refine (must_no _ _ _ h0 _).mono ?_; rintro e w1 ⟨rfl, hb1⟩; obtain ⟨hc, hf⟩ := bcell hb1; have hz := hb1.size; simp at hz)
  refine leaves_cons (f := 30) (args := #[]) (by simp) (by simp [go_sem]) ?_
  refine (catch_panicking _ _ _ _).mono ?_
  rintro e u' w'' ⟨rfl, rfl, rfl⟩
  simp [Leaves, settle, results, Tryd.results9, go_sem, hc]
  exact below_via (((Below.refl _ _).alloc (Nat.le_refl _) _).alloc (by simp) _) hb1 (by simp <;> omega)
end Go.Proofs.YtcloepkaieifpaaDoor
