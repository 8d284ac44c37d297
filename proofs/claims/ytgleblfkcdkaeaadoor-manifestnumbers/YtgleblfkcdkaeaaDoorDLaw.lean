/- A disk that a statement has made itself: each call of it, as the statements make them. -/
import Derived.Test.YtgleblfkcdkaeaaDoorDWalksF
import Derived.Test.YtgleblfkcdkaeaaDoorDWalksG
import Derived.Test.YtgleblfkcdkaeaaDoorDWalksK
namespace Go.Proofs.YtgleblfkcdkaeaaDoor
open Go.RowKit Go.Sort

/-- The disk d lies at block pb, and all that is its own from block B on. -/
def Dl (B : Nat) (w : World) (pb : Nat) (d : Dm) : Prop := ∃ fv vs S, Dk w pb d fv vs S ∧ (∀ k ∈ S, B ≤ k) ∧ B ≤ w.heap.size

theorem Dl.later {B : Nat} {w w' : World} {pb : Nat} {d : Dm} (h : Dl B w pb d) (hb : Below w.heap.size w w') : Dl B w' pb d := by
  obtain ⟨fv, vs, S, D, hS, hB⟩ := h
  exact ⟨fv, vs, S, D.later hb, hS, Nat.le_trans hB hb.size⟩
theorem Dl.size {B : Nat} {w : World} {pb : Nat} {d : Dm} (h : Dl B w pb d) : B ≤ w.heap.size := by
  obtain ⟨_, _, _, _, _, hB⟩ := h; exact hB
theorem Dl.ok {B : Nat} {w : World} {pb : Nat} {d : Dm} (h : Dl B w pb d) : d.Ok := by
  obtain ⟨_, _, _, D, _⟩ := h; exact D.ok

theorem new_l (n : Nat) (N : Int) (hN : N = (n : Int)) (hn : n ≤ 16777216) (w : World) :
    Calls Tryd.prog 33 #[.int .i64 N] w fun e w' => e = .returned (.tuple #[.pointer (some ⟨w.heap.size, 0, none⟩), .int .i64 0]) ∧ Dl w.heap.size w' w.heap.size ⟨n, [], 0, false⟩ ∧ Below w.heap.size w w' := by
  subst hN
  refine (new_any n hn w).mono ?_
  rintro e w' ⟨rfl, D, hb⟩
  exact ⟨rfl, ⟨_, _, _, D, by simp, hb.size⟩, hb⟩

section
variable {B : Nat} {w : World} {pb : Nat} {d : Dm}

theorem Dl.out {w' : World} {fv : Value} {vs : List Value} {S S' : List Nat} {d' : Dm} (hS : ∀ k ∈ S, B ≤ k) (hB : B ≤ w.heap.size) (D : Dk w' pb d' fv vs S') (st : Step S S' w w') : Dl B w' pb d' ∧ Below B w w' :=
  ⟨⟨fv, vs, S', D, st.from hS hB, Nat.le_trans hB st.off.size⟩, st.below hS hB⟩

theorem create_l (h : Dl B w pb d) (nm : ByteArray) (D : Dm) (r : Int) (hE : d.create nm = (D, r)) (hn : d.files.length ≤ 1000000) (hs : nm.size ≤ 9223372036854775807) :
    Calls Tryd.prog 35 #[.pointer (some ⟨pb, 0, none⟩), .string nm] w fun e w' => e = .returned (.int .i64 r) ∧ Dl B w' pb D ∧ Below B w w' := by
  obtain ⟨fv, vs, S, K, hS, hB⟩ := h
  refine (create_any pb d fv vs S nm w K hn hs).mono ?_
  rintro e w' ⟨rfl, fv', vs', S', K', st⟩
  rw [hE] at K' ⊢
  exact ⟨rfl, Dl.out hS hB K' st⟩
theorem append_l (h : Dl B w pb d) (nm : ByteArray) (ao : Option Addr) (la ca : Nat) (xs : List Int) (W : World) (hb : Below w.heap.size w W) (t : Tx W ao la ca xs) (hd : ∀ ad, ao = some ad → 0 < la → ad.block < B ∨ w.heap.size ≤ ad.block) (hla : la ≤ 100000000) (D : Dm) (r : Int) (hE : d.append nm xs = (D, r)) (hn : d.files.length ≤ 1000000) :
    Calls Tryd.prog 36 #[.pointer (some ⟨pb, 0, none⟩), .string nm, .slice ao la ca] W fun e w' => e = .returned (.int .i64 r) ∧ Dl B w' pb D ∧ Below B w w' := by
  obtain ⟨fv, vs, S, K, hS, hB⟩ := h
  refine (append_any pb d fv vs S nm ao la ca xs W (K.later hb) hn t hla (fun ad ha h0 e => ?_)).mono ?_
  · have h1 := hS _ e
    have h2 := K.lt _ e
    rcases hd ad ha h0 with h | h <;> omega
  · rintro e w' ⟨rfl, fv', vs', S', K', st⟩
    rw [hE] at K' ⊢
    obtain ⟨a, b⟩ := Dl.out hS (Nat.le_trans hB hb.size) K' st
    exact ⟨rfl, a, (hb.mono hB).trans b⟩
theorem sync_l (h : Dl B w pb d) (nm : ByteArray) (D : Dm) (r : Int) (hE : d.sync nm = (D, r)) (hn : d.files.length ≤ 1000000) :
    Calls Tryd.prog 37 #[.pointer (some ⟨pb, 0, none⟩), .string nm] w fun e w' => e = .returned (.int .i64 r) ∧ Dl B w' pb D ∧ Below B w w' := by
  obtain ⟨fv, vs, S, K, hS, hB⟩ := h
  refine (sync_any pb d fv vs S nm w K hn).mono ?_
  rintro e w' ⟨rfl, fv', vs', S', K', st⟩
  rw [hE] at K' ⊢
  exact ⟨rfl, Dl.out hS hB K' st⟩
theorem crash_l (h : Dl B w pb d) (keep : Int) (hn : d.files.length ≤ 1000000) (h1 : -9223372036854775808 ≤ keep) (h2 : keep ≤ 9223372036854775807) :
    Calls Tryd.prog 14 #[.pointer (some ⟨pb, 0, none⟩), .int .i64 keep] w fun e w' => e = .returned (.tuple #[]) ∧ Dl B w' pb (d.crash keep) ∧ Below B w w' := by
  obtain ⟨fv, vs, S, K, hS, hB⟩ := h
  refine (crash_any pb d fv vs S keep w K hn h1 h2).mono ?_
  rintro e w' ⟨rfl, fv', vs', S', K', st⟩
  exact ⟨rfl, Dl.out hS hB K' st⟩
theorem arm_l (h : Dl B w pb d) (n : Int) (h1 : -9223372036854775808 ≤ n) (h2 : n ≤ 9223372036854775807) :
    Calls Tryd.prog 13 #[.pointer (some ⟨pb, 0, none⟩), .int .i64 n] w fun e w' => e = .returned (.tuple #[]) ∧ Dl B w' pb (d.arm n) ∧ Below B w w' := by
  obtain ⟨fv, vs, S, K, hS, hB⟩ := h
  refine (arm_any pb d fv vs S n h1 h2 w K).mono ?_
  rintro e w' ⟨rfl, K', st⟩
  exact ⟨rfl, Dl.out hS hB K' st⟩
theorem read_l (h : Dl B w pb d) (nm : ByteArray) (xs : List Int) (b : Bool) (hx : rd d.files nm = xs) (hb : (get d.files nm).isSome = b) (hn : d.files.length ≤ 1000000) :
    Calls Tryd.prog 40 #[.pointer (some ⟨pb, 0, none⟩), .string nm] w fun e w' => ∃ bo lb cb, e = .returned (.tuple #[.slice bo lb cb, .bool b]) ∧ Tx w' bo lb cb xs ∧ Dl B w' pb d ∧ Below w.heap.size w w' := by
  obtain ⟨fv, vs, S, K, hS, hB⟩ := h
  refine (read_any pb d fv vs S nm w K hn).mono ?_
  rintro e w' ⟨bo, cb, rfl, t, hbel⟩
  rw [hx, hb] at *
  exact ⟨bo, xs.length, cb, rfl, t, ⟨fv, vs, S, K.later hbel, hS, Nat.le_trans hB hbel.size⟩, hbel⟩
theorem used_l (h : Dl B w pb d) (n : Nat) (hx : used d.files = n) (hn : d.files.length ≤ 1000000) :
    Calls Tryd.prog 58 #[.pointer (some ⟨pb, 0, none⟩)] w fun e w' => e = .returned (.int .i64 n) ∧ Dl B w' pb d ∧ Below w.heap.size w w' := by
  obtain ⟨fv, vs, S, K, hS, hB⟩ := h
  refine (used_any pb d fv vs S w K hn).mono ?_
  rintro e w' ⟨rfl, hbel⟩
  rw [hx]
  exact ⟨rfl, ⟨fv, vs, S, K.later hbel, hS, Nat.le_trans hB hbel.size⟩, hbel⟩
end

/-- What the calls do while nothing is armed. -/
theorem spend_calm {d : Dm} (h : d.left = 0) : d.spend = d := by unfold Dm.spend; rw [h]; simp
theorem create_calm {d : Dm} (h : d.left = 0) (hd : d.down = false) {nm : ByteArray} (hn : okName nm = true) : d.create nm = ({ d with files := put d.files ⟨nm, [], 0⟩ }, 0) := by
  simp [Dm.create, hn, spend_calm h, hd]
theorem append_calm {d : Dm} (h : d.left = 0) (hd : d.down = false) {nm : ByteArray} {f : Fl} (hg : get d.files nm = some f) (b : List Int) (hr : b.length + used d.files ≤ d.limit) : d.append nm b = ({ d with files := put d.files ⟨nm, f.data ++ b, f.synced⟩ }, 0) := by
  simp [Dm.append, hg, Dm.writes, spend_calm h, hd, hr]
theorem append_full {d : Dm} (h : d.left = 0) {nm : ByteArray} {f : Fl} (hg : get d.files nm = some f) (b : List Int) (hr : d.limit < b.length + used d.files) : d.append nm b = (d, 13) := by
  have : ¬ (b.length + used d.files ≤ d.limit) := by omega
  simp [Dm.append, hg, Dm.writes, spend_calm h, this]
theorem append_none {d : Dm} {nm : ByteArray} (hg : get d.files nm = none) (b : List Int) : d.append nm b = (d, 22) := by simp [Dm.append, hg]
theorem sync_calm {d : Dm} (h : d.left = 0) (hd : d.down = false) {nm : ByteArray} {f : Fl} (hg : get d.files nm = some f) : d.sync nm = ({ d with files := put d.files ⟨nm, f.data, f.data.length⟩ }, 0) := by
  simp [Dm.sync, hg, spend_calm h, hd]
theorem cut_calm {d : Dm} (h : d.left = 0) (hd : d.down = false) {nm : ByteArray} {f : Fl} (hg : get d.files nm = some f) (n : Nat) (hn : n ≤ f.data.length) : d.cut nm n = ({ d with files := put d.files ⟨nm, f.data.take n, n⟩ }, 0) := by
  have : ¬ ((n : Int) < 0 ∨ (f.data.length : Int) < n) := by omega
  simp only [Dm.cut, hg]
  rw [if_neg this, if_neg (by rw [spend_calm h, hd]; simp), spend_calm h]
  simp
theorem rename_calm {d : Dm} (h : d.left = 0) (hd : d.down = false) {nm to : ByteArray} {f : Fl} (hg : get d.files nm = some f) (hn : okName to = true) : d.rename nm to = ({ d with files := put (del d.files nm) ⟨to, f.data, f.synced⟩ }, 0) := by
  simp [Dm.rename, hg, hn, spend_calm h, hd]
theorem remove_calm {d : Dm} (h : d.left = 0) (hd : d.down = false) {nm : ByteArray} {f : Fl} (hg : get d.files nm = some f) : d.remove nm = ({ d with files := del d.files nm }, 0) := by
  simp [Dm.remove, hg, spend_calm h, hd]
theorem remove_none {d : Dm} {nm : ByteArray} (hg : get d.files nm = none) : d.remove nm = (d, 22) := by simp [Dm.remove, hg]

/-- What Within tells. -/
def Wit (n lo hi r : Int) : Prop := lo ≤ r ∧ r ≤ hi ∧ (lo ≤ n → n ≤ hi → r = n)
theorem within_end {n lo hi v : Int} {w : World} (h1 : lo ≤ v) (h2 : v ≤ hi) (h3 : lo ≤ n → n ≤ hi → v = n) : ∃ r : Int, Ending.returned (.int .i64 v) = .returned (.int .i64 r) ∧ Wit n lo hi r ∧ w = w := ⟨v, rfl, ⟨h1, h2, h3⟩, rfl⟩

theorem within_any (n lo hi : Int) (h1 : -9223372036854775808 ≤ n) (h2 : n ≤ 9223372036854775807) (l1 : -1000000 ≤ lo) (l2 : lo ≤ hi) (l3 : hi ≤ 1000000) (w : World) :
    Calls Tryd.prog 19 #[.int .i64 n, .int .i64 lo, .int .i64 hi] w fun e w' => ∃ r : Int, e = .returned (.int .i64 r) ∧ Wit n lo hi r ∧ w = w' := by
  have t := tmod_rng n (hi - lo + 1) (by omega)
  have hne : ¬ hi - lo + 1 = 0 := by omega
  have hne' : ((hi - lo + 1 : Int) == 0) = false := by simp; omega
  go_enter Tryd.func19, Tryd.ntmps19
  go_wp2
  all_goals go_ret
  all_goals refine within_end ?_ ?_ ?_
  all_goals omega

theorem kcut_any (ao : Option Addr) (la ca n : Nat) (N : Int) (hN : N = (n : Int)) (xs : List Int) (W : World) (ha : Tx W ao la ca xs) (hn : n ≤ 1000) (w : World) :
    Calls Tryd.prog 20 #[.slice ao la ca, .int .i64 N] w fun e w' => ∃ l, e = .returned (.slice ao l ca) ∧ l ≤ n ∧ Tx W ao l ca (xs.take n) ∧ w = w' := by
  subst hN
  have e1 := ha.len_eq
  have e2 := ha.le
  have e3 := ha.top
  by_cases h : n < la
  · go_enter Tryd.func20, Tryd.ntmps20
    go_wp2
    go_ret
    exact ⟨n, rfl, by omega, ha.take n (by omega), rfl⟩
  · go_enter Tryd.func20, Tryd.ntmps20
    go_wp2
    go_ret
    exact ⟨la, rfl, by omega, by rw [List.take_of_length_le (by omega)]; exact ha, rfl⟩

theorem Tx.old {w w' : World} {B : Nat} {ao : Option Addr} {len cap : Nat} {xs : List Int} (h : Tx w ao len cap xs) (hb : Below B w w') (hB : w.heap.size = B) : Tx w' ao len cap xs := h.later (hB ▸ hb)
theorem tx_lit (w : World) (cs : Array Value) (fr : Nat × Nat) (xs : List Int) (n : Nat) (hc : cs = (xs.map (Value.int .u8)).toArray) (hn : xs.length = n) (hm : n ≤ 1000000) (hr : ∀ x ∈ xs, 0 ≤ x ∧ x ≤ 255) :
    Tx (w.alloc (.cells cs 5 fr)) (some ⟨w.heap.size, 0, none⟩) n n xs := by
  subst hc; subst hn
  refine ⟨rfl, Nat.le_refl _, by unfold maxLen; omega, fun h => (by cases h), fun ad ha j hj => ?_, hr⟩
  cases ha
  rw [Addr.add_lit, Nat.zero_add, World.cell?_alloc_mark]
  simp [List.getD, hj]

end Go.Proofs.YtgleblfkcdkaeaaDoor
