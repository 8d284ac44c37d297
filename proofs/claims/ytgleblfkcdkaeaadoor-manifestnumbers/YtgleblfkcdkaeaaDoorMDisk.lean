/- A disk beside other memory: each call of it leaves what lies below B, and the blocks Z. -/
import Derived.Test.YtgleblfkcdkaeaaDoorDRen
namespace Go.Proofs.YtgleblfkcdkaeaaDoor
set_option maxRecDepth 100000
open Go.RowKit Go.Sort

/-- All blocks below B, and those of Z, are as they were. -/
structure Kp (B : Nat) (Z : List Nat) (w w' : World) : Prop where
  os : w'.os = w.os
  tape : w'.tape = w.tape
  output : w'.output = w.output
  size : w.heap.size ≤ w'.heap.size
  block : ∀ k, k < B ∨ k ∈ Z → k < w.heap.size → w'.heap[k]? = w.heap[k]?

theorem Kp.of_below {B : Nat} {Z : List Nat} {w w' : World} (h : Below w.heap.size w w') : Kp B Z w w' := ⟨h.os, h.tape, h.output, h.size, fun k _ hk => h.block k hk⟩
theorem Kp.refl (B : Nat) (Z : List Nat) (w : World) : Kp B Z w w := .of_below (Below.refl _ _)
theorem Kp.trans {B : Nat} {Z : List Nat} {a b c : World} (h : Kp B Z a b) (k : Kp B Z b c) : Kp B Z a c :=
  ⟨k.os.trans h.os, k.tape.trans h.tape, k.output.trans h.output, Nat.le_trans h.size k.size, fun i hi hl => (k.block i hi (Nat.lt_of_lt_of_le hl h.size)).trans (h.block i hi hl)⟩
theorem Kp.below {B : Nat} {Z : List Nat} {w w' : World} (h : Kp B Z w w') (hB : B ≤ w.heap.size) : Below B w w' :=
  ⟨h.os, h.tape, h.output, h.size, fun k hk => h.block k (.inl hk) (by omega)⟩
theorem Kp.less {B : Nat} {Z Z' : List Nat} {w w' : World} (h : Kp B Z w w') (hz : ∀ k ∈ Z', k ∈ Z) : Kp B Z' w w' := ⟨h.os, h.tape, h.output, h.size, fun k hk => h.block k (hk.elim .inl (fun e => .inr (hz k e)))⟩
theorem Kp.cell {B : Nat} {Z : List Nat} {w w' : World} (h : Kp B Z w w') {a : Addr} {v : Value} (hc : w.cell? a = some v) (ha : a.block < B ∨ a.block ∈ Z) : w'.cell? a = some v := by
  rw [World.cell?_of_block (w := w) (h.block a.block ha (World.block_lt_of_cell? _ _ hc))]; exact hc
theorem Kp.free {B : Nat} {Z : List Nat} {w w' : World} (h : Kp B Z w w') {a : Addr} (hl : a.block < w.heap.size) (ha : a.block < B ∨ a.block ∈ Z) : w'.frozen? a = w.frozen? a := World.frozen?_of_block (h.block a.block ha hl)
/-- As what is off the blocks between. -/
theorem Kp.of_off {B : Nat} {Z S : List Nat} {w w' : World} (h : Off S w w') (hs : ∀ k ∈ S, B ≤ k ∧ k ∉ Z) : Kp B Z w w' :=
  ⟨h.os, h.tape, h.output, h.size, fun k hk hl => h.block k hl (fun e => by have := hs k e; rcases hk with hk | hk; omega; exact this.2 hk)⟩

def Dx (B : Nat) (Z : List Nat) (w : World) (pb : Nat) (d : Dm) : Prop := ∃ fv vs S, Dk w pb d fv vs S ∧ (∀ k ∈ S, B ≤ k ∧ k ∉ Z) ∧ B ≤ w.heap.size ∧ ∀ k ∈ Z, k < w.heap.size

section
variable {B : Nat} {Z : List Nat} {w : World} {pb : Nat} {d : Dm}
theorem Dx.ok (h : Dx B Z w pb d) : d.Ok := by
  obtain ⟨_, _, _, D, _⟩ := h; exact D.ok
theorem Dx.size (h : Dx B Z w pb d) : B ≤ w.heap.size := by
  obtain ⟨_, _, _, _, _, hB, _⟩ := h; exact hB
theorem Dx.later {w' : World} (h : Dx B Z w pb d) (hb : Below w.heap.size w w') : Dx B Z w' pb d := by
  obtain ⟨fv, vs, S, D, hS, hB, hZ⟩ := h
  exact ⟨fv, vs, S, D.later hb, hS, Nat.le_trans hB hb.size, fun k hk => Nat.lt_of_lt_of_le (hZ k hk) hb.size⟩
/-- One block more that is new. -/
theorem Dx.more {w' : World} {g : Nat} (h : Dx B Z w pb d) (hb : Below w.heap.size w w') (hg : w.heap.size ≤ g) (hl : g < w'.heap.size) : Dx B (g :: Z) w' pb d := by
  obtain ⟨fv, vs, S, D, hS, hB, hZ⟩ := h
  refine ⟨fv, vs, S, D.later hb, fun k hk => ⟨(hS k hk).1, fun e => ?_⟩, Nat.le_trans hB hb.size, fun k hk => ?_⟩
  · rcases List.mem_cons.1 e with rfl | e
    · have := D.lt _ hk; omega
    · exact (hS k hk).2 e
  · rcases List.mem_cons.1 hk with rfl | e
    · exact hl
    · exact Nat.lt_of_lt_of_le (hZ k e) hb.size
/-- What is told twice, or no more. -/
theorem Dx.less {Z' : List Nat} (h : Dx B Z w pb d) (hz : ∀ k ∈ Z', k ∈ Z) : Dx B Z' w pb d := by
  obtain ⟨fv, vs, S, D, hS, hB, hZ⟩ := h
  exact ⟨fv, vs, S, D, fun k hk => ⟨(hS k hk).1, fun e => (hS k hk).2 (hz k e)⟩, hB, fun k hk => hZ k (hz k hk)⟩
theorem Dx.out {w' : World} {fv : Value} {vs : List Value} {S S' : List Nat} {d' : Dm} (hS : ∀ k ∈ S, B ≤ k ∧ k ∉ Z) (hB : B ≤ w.heap.size) (hZ : ∀ k ∈ Z, k < w.heap.size) (D : Dk w' pb d' fv vs S') (st : Step S S' w w') : Dx B Z w' pb d' ∧ Kp B Z w w' := by
  refine ⟨⟨fv, vs, S', D, fun k hk => ?_, Nat.le_trans hB st.off.size, fun k hk => Nat.lt_of_lt_of_le (hZ k hk) st.off.size⟩, .of_off st.off hS⟩
  rcases st.sub k hk with e | e
  · exact hS k e
  · exact ⟨by omega, fun h => by have := hZ k h; omega⟩
/-- A store into a block of Z, or what is made. -/
theorem Dx.off {S0 : List Nat} {w' : World} (h : Dx B Z w pb d) (ho : Off S0 w w') (hs : ∀ k ∈ S0, k ∈ Z) : Dx B Z w' pb d := by
  obtain ⟨fv, vs, S, D, hS, hB, hZ⟩ := h
  exact ⟨fv, vs, S, D.keep ho (fun k hk e => (hS k hk).2 (hs k e)), hS, Nat.le_trans hB ho.size, fun k hk => Nat.lt_of_lt_of_le (hZ k hk) ho.size⟩

theorem create_x (h : Dx B Z w pb d) (nm : ByteArray) (D : Dm) (r : Int) (hE : d.create nm = (D, r)) (hn : d.files.length ≤ 1000000) (hs : nm.size ≤ 9223372036854775807) :
    Calls Tryd.prog 35 #[.pointer (some ⟨pb, 0, none⟩), .string nm] w fun e w' => e = .returned (.int .i64 r) ∧ Dx B Z w' pb D ∧ Kp B Z w w' := by
  obtain ⟨fv, vs, S, K, hS, hB, hZ⟩ := h
  refine (create_any pb d fv vs S nm w K hn hs).mono ?_
  rintro e w' ⟨rfl, fv', vs', S', K', st⟩
  rw [hE] at K' ⊢
  exact ⟨rfl, Dx.out hS hB hZ K' st⟩
theorem append_x (h : Dx B Z w pb d) (nm : ByteArray) (ao : Option Addr) (la ca : Nat) (xs : List Int) (t : Tx w ao la ca xs) (hd : ∀ ad, ao = some ad → 0 < la → ad.block < B ∨ ad.block ∈ Z) (hla : la ≤ 100000000) (D : Dm) (r : Int) (hE : d.append nm xs = (D, r)) (hn : d.files.length ≤ 1000000) :
    Calls Tryd.prog 36 #[.pointer (some ⟨pb, 0, none⟩), .string nm, .slice ao la ca] w fun e w' => e = .returned (.int .i64 r) ∧ Dx B Z w' pb D ∧ Kp B Z w w' := by
  obtain ⟨fv, vs, S, K, hS, hB, hZ⟩ := h
  refine (append_any pb d fv vs S nm ao la ca xs w K hn t hla (fun ad ha h0 e => ?_)).mono ?_
  · have h1 := hS _ e
    rcases hd ad ha h0 with h | h
    · omega
    · exact h1.2 h
  · rintro e w' ⟨rfl, fv', vs', S', K', st⟩
    rw [hE] at K' ⊢
    exact ⟨rfl, Dx.out hS hB hZ K' st⟩
theorem sync_x (h : Dx B Z w pb d) (nm : ByteArray) (D : Dm) (r : Int) (hE : d.sync nm = (D, r)) (hn : d.files.length ≤ 1000000) :
    Calls Tryd.prog 37 #[.pointer (some ⟨pb, 0, none⟩), .string nm] w fun e w' => e = .returned (.int .i64 r) ∧ Dx B Z w' pb D ∧ Kp B Z w w' := by
  obtain ⟨fv, vs, S, K, hS, hB, hZ⟩ := h
  refine (sync_any pb d fv vs S nm w K hn).mono ?_
  rintro e w' ⟨rfl, fv', vs', S', K', st⟩
  rw [hE] at K' ⊢
  exact ⟨rfl, Dx.out hS hB hZ K' st⟩
theorem rename_x (h : Dx B Z w pb d) (nm to : ByteArray) (D : Dm) (r : Int) (hE : d.rename nm to = (D, r)) (hn : d.files.length ≤ 1000000) (hs : to.size ≤ 9223372036854775807) :
    Calls Tryd.prog 38 #[.pointer (some ⟨pb, 0, none⟩), .string nm, .string to] w fun e w' => e = .returned (.int .i64 r) ∧ Dx B Z w' pb D ∧ Kp B Z w w' := by
  obtain ⟨fv, vs, S, K, hS, hB, hZ⟩ := h
  refine (rename_any pb d fv vs S nm to w K hn hs).mono ?_
  rintro e w' ⟨rfl, fv', vs', S', K', st⟩
  rw [hE] at K' ⊢
  exact ⟨rfl, Dx.out hS hB hZ K' st⟩
theorem crash_x (h : Dx B Z w pb d) (keep : Int) (hn : d.files.length ≤ 1000000) (h1 : -9223372036854775808 ≤ keep) (h2 : keep ≤ 9223372036854775807) :
    Calls Tryd.prog 14 #[.pointer (some ⟨pb, 0, none⟩), .int .i64 keep] w fun e w' => e = .returned (.tuple #[]) ∧ Dx B Z w' pb (d.crash keep) ∧ Kp B Z w w' := by
  obtain ⟨fv, vs, S, K, hS, hB, hZ⟩ := h
  refine (crash_any pb d fv vs S keep w K hn h1 h2).mono ?_
  rintro e w' ⟨rfl, fv', vs', S', K', st⟩
  exact ⟨rfl, Dx.out hS hB hZ K' st⟩
theorem arm_x (h : Dx B Z w pb d) (n : Int) (h1 : -9223372036854775808 ≤ n) (h2 : n ≤ 9223372036854775807) :
    Calls Tryd.prog 13 #[.pointer (some ⟨pb, 0, none⟩), .int .i64 n] w fun e w' => e = .returned (.tuple #[]) ∧ Dx B Z w' pb (d.arm n) ∧ Kp B Z w w' := by
  obtain ⟨fv, vs, S, K, hS, hB, hZ⟩ := h
  refine (arm_any pb d fv vs S n h1 h2 w K).mono ?_
  rintro e w' ⟨rfl, K', st⟩
  exact ⟨rfl, Dx.out hS hB hZ K' st⟩
theorem read_x (h : Dx B Z w pb d) (nm : ByteArray) (xs : List Int) (b : Bool) (hx : rd d.files nm = xs) (hb : (get d.files nm).isSome = b) (hn : d.files.length ≤ 1000000) :
    Calls Tryd.prog 40 #[.pointer (some ⟨pb, 0, none⟩), .string nm] w fun e w' => ∃ bo lb cb, e = .returned (.tuple #[.slice bo lb cb, .bool b]) ∧ Tx w' bo lb cb xs ∧ Below w.heap.size w w' := by
  obtain ⟨fv, vs, S, K, hS, hB, hZ⟩ := h
  refine (read_any pb d fv vs S nm w K hn).mono ?_
  rintro e w' ⟨bo, cb, rfl, t, hbel⟩
  rw [hx, hb] at *
  exact ⟨bo, xs.length, cb, rfl, t, hbel⟩
theorem new_x (n : Nat) (N : Int) (hN : N = (n : Int)) (hn : n ≤ 16777216) (w : World) :
    Calls Tryd.prog 33 #[.int .i64 N] w fun e w' => e = .returned (.tuple #[.pointer (some ⟨w.heap.size, 0, none⟩), .int .i64 0]) ∧ Dx w.heap.size [] w' w.heap.size ⟨n, [], 0, false⟩ ∧ Below w.heap.size w w' := by
  subst hN
  refine (new_any n hn w).mono ?_
  rintro e w' ⟨rfl, D, hb⟩
  exact ⟨rfl, ⟨_, _, _, D, by simp, hb.size, by simp⟩, hb⟩
end
end Go.Proofs.YtgleblfkcdkaeaaDoor
