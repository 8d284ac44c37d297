/- The walk of frame.Entries: a panic of its reader is a refusal. -/
import Derived.Test.YtgleblfkcdkaeaaDoorFWalksM
import Derived.Test.YtgleblfkcdkaeaaDoorWMem
import Derived.Defers
import Derived.Recover
namespace Go.Proofs.YtgleblfkcdkaeaaDoor
open Go.RowKit

/-- The call's two named results lie in the two blocks behind w: the list v, the refusal z. -/
structure Held (w V : World) (v : Value) (z : Int) : Prop where
  bel : Below w.heap.size w V
  c0 : V.cell? ⟨w.heap.size, 0, none⟩ = some v
  c1 : V.cell? ⟨w.heap.size + 1, 0, none⟩ = some (.int .i64 z)
  f0 : V.frozen? ⟨w.heap.size, 0, none⟩ = false
  f1 : V.frozen? ⟨w.heap.size + 1, 0, none⟩ = false
theorem Held.lt0 {w V : World} {v : Value} {z : Int} (h : Held w V v z) : w.heap.size + 1 < V.heap.size := World.block_lt_of_cell? _ _ h.c1
theorem Held.off {S : List Nat} {w V V' : World} {v : Value} {z : Int} (h : Held w V v z) (ho : Off S V V') (hs : ∀ k ∈ S, w.heap.size + 1 < k) : Held w V' v z := by
  have n0 : w.heap.size ∉ S := fun e => by have := hs _ e; omega
  have n1 : w.heap.size + 1 ∉ S := fun e => by have := hs _ e; omega
  have l0 := h.lt0
  exact ⟨h.bel.trans (ho.below (fun k hk => by have := hs k hk; omega) h.bel.size), ho.cell h.c0 n0, ho.cell h.c1 n1, by rw [World.frozen?_of_block (w := V) (ho.block w.heap.size (by omega) n0)]; exact h.f0, by rw [World.frozen?_of_block (w := V) (ho.block (w.heap.size + 1) l0 n1)]; exact h.f1⟩
theorem Held.set {w V : World} {v : Value} {z : Int} (h : Held w V v z) (v' : Value) : Held w (V.setCell ⟨w.heap.size, 0, none⟩ v') v' z :=
  ⟨h.bel.setCell (p := ⟨w.heap.size, 0, none⟩) (Nat.le_refl _) _, World.cell?_setCell_same _ _ _ h.c0, by rw [World.cell?_setCell_other _ _ _ _ (by simp)]; exact h.c1, by simpa using h.f0, by simpa using h.f1⟩
theorem Held.set1 {w V : World} {v : Value} {z : Int} (h : Held w V v z) (z' : Int) : Held w (V.setCell ⟨w.heap.size + 1, 0, none⟩ (.int .i64 z')) v z' :=
  ⟨h.bel.setCell (p := ⟨w.heap.size + 1, 0, none⟩) (by simp) _, by rw [World.cell?_setCell_other _ _ _ _ (by simp)]; exact h.c0, World.cell?_setCell_same _ _ _ h.c1, by simpa using h.f0, by simpa using h.f1⟩

/-- What Entries answers. -/
def EntsPost (w : World) (xs : List Int) (e : Ending) (w' : World) : Prop :=
  (∃ es bo lb cb, entriesL xs = some es ∧ e = .returned (.tuple #[.slice bo lb cb, .int .i64 0]) ∧ Lv 3 RE (List.range w.heap.size) w' bo lb cb es ∧ Below w.heap.size w w') ∨ (entriesL xs = none ∧ e = .returned (.tuple #[.slice none 0 0, .int .i64 12]) ∧ Below w.heap.size w w')

/-- An entry that lies in none of the blocks X either. -/
abbrev REx (X : List Nat) : Reads Ent := Rx X RE
theorem REx.stable (X : List Nat) : ∀ w w' S S' u e, REx X w S u e → (∀ k ∈ S ++ X, k < w.heap.size) → Off S w w' → (∀ k ∈ S', k ∈ S ∨ w.heap.size ≤ k) → REx X w' S' u e := by
  rintro w w' S S' u e ⟨k, v, hu, h, h'⟩ hX ho hs
  have hof : Off (S ++ X) w w' := ho.mono (fun k hk => List.mem_append_left _ hk)
  have hss : ∀ k ∈ S' ++ X, k ∈ S ++ X ∨ w.heap.size ≤ k := fun k hk => by
    rcases List.mem_append.1 hk with hk | hk
    · exact (hs k hk).imp_left (List.mem_append_left _)
    · exact .inl (List.mem_append_right _ hk)
  exact ⟨k, v, hu, h.off hof hss, h'.off hof hss⟩
theorem REx.st (X : List Nat) : Stable (REx X) := by
  rintro w w' S S' u e ⟨k, v, hu, h, h'⟩ ho hs
  have hof : Off (S ++ X) w w' := ho.mono (fun k hk => List.mem_append_left _ hk)
  have hss : ∀ k ∈ S' ++ X, k ∈ S ++ X ∨ w.heap.size ≤ k := fun k hk => by
    rcases List.mem_append.1 hk with hk | hk
    · exact (hs k hk).imp_left (List.mem_append_left _)
    · exact .inl (List.mem_append_right _ hk)
  exact ⟨k, v, hu, h.off hof hss, h'.off hof hss⟩
theorem REx.pl (X : List Nat) : Plain 3 (REx X) := fun w S u e h => RE.plain w (S ++ X) u e h
theorem Ls.offX {X : List Nat} {w w' : World} {B : Nat} {v : Value} {es : List Ent} (h : Ls 24 3 (REx X) w B v es) (ho : Off X w w') (hd : ∀ k ∈ own v, k ∉ X) : Ls 24 3 (REx X) w' B v es := by
  obtain ⟨us, h1, h2, h3⟩ := h
  refine ⟨us, h1, rows_offB h2 ho hd, fun i u e hu he => ?_⟩
  obtain ⟨k, v', hu', h, h'⟩ := h3 i u e hu he
  have hof : Off (own v ++ X) w w' := ho.mono (fun k hk => List.mem_append_right _ hk)
  exact ⟨k, v', hu', h.off hof (fun k hk => .inl hk), h'.off hof (fun k hk => .inl hk)⟩
theorem Lx.weaken {X : List Nat} {w : World} {ao : Option Addr} {len cap : Nat} {es : List Ent} (h : Lx 3 (REx X) w ao len cap es) : Lx 3 RE w ao len cap es :=
  ⟨h.len_eq, h.le, h.top, h.bare, fun ad ha j e he => by
    obtain ⟨u, h1, k, v, hu, hk, hv⟩ := h.cell ad ha j e he
    exact ⟨u, h1, k, v, hu, hk.off (.refl _ _) (by simp), hv.off (.refl _ _) (by simp)⟩⟩

theorem entriesL_yes {xs r : List Int} {n : Nat} {es : List Ent} (h1 : takeN 2 num2 0 8191 xs = some ((n : Int), r)) (h2 : parseN n r = some (es, [])) : entriesL xs = some es := by simp only [entriesL, h1, Int.toNat_natCast, h2]
theorem entriesL_no {xs r : List Int} {n : Nat} (h1 : takeN 2 num2 0 8191 xs = some ((n : Int), r)) (h2 : parseN n r = none) : entriesL xs = none := by simp only [entriesL, h1, Int.toNat_natCast, h2]
theorem entriesL_more {xs r : List Int} {n : Nat} {es : List Ent} {r' : List Int} (hr : r' ≠ []) (h1 : takeN 2 num2 0 8191 xs = some ((n : Int), r)) (h2 : parseN n r = some (es, r')) : entriesL xs = none := by
  cases r' with
  | nil => exact absurd rfl hr
  | cons a b => simp only [entriesL, h1, Int.toNat_natCast, h2]

/-- What holds at each round's head of Entries' loop. -/
structure EntsRel (w V : World) (rb n : Nat) (r0 : List Int) (i : Nat) (bo : Option Addr) (m cb : Nat) (es : List Ent) : Prop where
  held : Held w V (.slice bo m cb) 0
  ls : Ls 24 3 (REx (List.range (w.heap.size + 3))) V (w.heap.size + 3) (.slice bo m cb) es
  rd : ∃ ro rl rc r, Rd w V rb ro rl rc r ∧ rl ≤ 900000000 ∧ Came n r0 i es r
  size : w.heap.size + 3 ≤ V.heap.size

theorem Rd.new (w : World) (ao : Option Addr) (la ca : Nat) (xs : List Int) (ha : Tx w ao la ca xs) :
    Rd w (((w.alloc (.cells #[.slice none 0 0] 25)).alloc (.cells #[.int .i64 0] 32)).alloc (.cells #[.slice ao la ca] 112)) (w.heap.size + 1 + 1) ao la ca xs :=
  ⟨by simp [go_sem], by simp [go_sem], ha, (((Below.refl _ _).alloc (Nat.le_refl _) _).alloc (by simp) _).alloc (by simp; omega) _, by omega⟩
theorem Held.new (w : World) (o : Obj) : Held w (((w.alloc (.cells #[.slice none 0 0] 25)).alloc (.cells #[.int .i64 0] 32)).alloc o) (.slice none 0 0) 0 :=
  ⟨(((Below.refl _ _).alloc (Nat.le_refl _) _).alloc (by simp) _).alloc (by simp; omega) _, by simp [go_sem], by simp [go_sem], by simp [go_sem], by simp [go_sem]⟩

theorem ents_no {w V : World} {xs : List Int} (hp : entriesL xs = none) (H : Held w V (.slice none 0 0) 12) : EntsPost w xs (.returned (.tuple #[.slice none 0 0, .int .i64 12])) V := .inr ⟨hp, rfl, H.bel⟩

theorem ents_read {w wr F : World} {rb n k m cb : Nat} {bo : Option Addr} {r0 : List Int} {es : List Ent} (hE : EntsRel w wr rb n r0 k bo m cb es) (hrb : rb < w.heap.size + 3) (ho : Off [w.heap.size, w.heap.size + 1, rb] wr F) : Lv 3 RE (List.range w.heap.size) F bo m cb es := by
  have hF := hE.ls.offX (ho.mono (by simp; omega)) (fun q hq => by have := (hE.ls.lt q hq).2; simp; omega)
  exact (hF.lv RE.stable RE.plain (by simp)).mono RE.stable RE.plain (by omega) (fun k hk => .inl (by simp at hk ⊢; omega))
theorem ls_over {w wr w2 : World} {rb : Nat} {v : Value} {es : List Ent} (ls : Ls 24 3 (REx (List.range (w.heap.size + 3))) wr (w.heap.size + 3) v es) (O2 : Off [rb] wr.drew w2) (_hs : w.heap.size + 3 ≤ wr.heap.size) (hrb : rb < w.heap.size + 3) : Ls 24 3 (REx (List.range (w.heap.size + 3))) w2 (w.heap.size + 3) v es := by
  have h1 : Off (List.range (w.heap.size + 3)) wr w2 := ((Off.refl (List.range (w.heap.size + 3)) wr).drew).trans (O2.mono (by simp; omega))
  refine ls.offX h1 (fun k hk => ?_)
  have := (ls.lt k hk).2
  simp; omega
theorem rex_new {X : List Nat} {wr w2 : World} {B : Nat} {v : Value} {es : List Ent} (ls : Ls 24 3 (REx X) wr B v es) {ko vo : Option Addr} {kl kc vl vc : Nat} {en : Ent} {G : Bool} (hG : G = en.g) (tk : Tx w2 ko kl kc en.k) (tv : Tx w2 vo vl vc en.v) (fk : ∀ ad, ko = some ad → wr.heap.size ≤ ad.block) (fv : ∀ ad, vo = some ad → wr.heap.size ≤ ad.block) (hX : ∀ k ∈ X, k < wr.heap.size) (o : Obj) : REx X (w2.alloc o) (own v) [.slice ko kl kc, .slice vo vl vc, .bool G] en := by
  have hn : ∀ b, wr.heap.size ≤ b → b ∉ own v ++ X := fun b hb hk => by
    rcases List.mem_append.1 hk with hk | hk
    · have := (ls.lt b hk).1; omega
    · have := hX b hk; omega
  exact ⟨_, _, by rw [hG], (tk.alloc o).at _ (fun ad ha _ => hn _ (fk ad ha)), (tv.alloc o).at _ (fun ad ha _ => hn _ (fv ad ha))⟩
theorem ents_held {w w2 w5 : World} {v : Value} {z : Int} {es : List Ent} {o : Obj} (H : Held w w2 v z) (L : Ls 24 3 (REx (List.range (w.heap.size + 3))) w2 (w.heap.size + 3) v es) (ho : Off (own v) (w2.alloc o) w5) : Held w w5 v z :=
  (H.off ((Off.refl (own v) w2).alloc o) (fun k hk => by have := (L.lt k hk).2; omega)).off ho (fun k hk => by have := (L.lt k hk).2; omega)
theorem ents_step {w wr w2 w5 : World} {rb n k m cb n5 c5 b9 o9 rl9 rc9 : Nat} {bo ao5 : Option Addr} {r0 r r' : List Int} {es : List Ent} {en : Ent} {o : Obj} (hE : EntsRel w wr rb n r0 k bo m cb es) (hk : k < n) (hcame : Came n r0 k es r) (hpe : parseE r = some (en, r')) (H5 : Held w w5 (.slice bo m cb) 0) (L3 : Ls 24 3 (REx (List.range (w.heap.size + 3))) w2 (w.heap.size + 3) (.slice bo m cb) es) (hls5 : Ls 24 3 (REx (List.range (w.heap.size + 3))) w5 (w.heap.size + 3) (.slice ao5 n5 c5) (es ++ [en])) (ho : Off (own (.slice bo m cb)) (w2.alloc o) w5) (R9 : Rd w w2 rb (some ⟨b9, o9, none⟩) rl9 rc9 r') (s9 : rl9 ≤ 900000000) (hr1 : w.heap.size + 1 < rb) (hr2 : rb < w.heap.size + 3) :
    EntsRel w (w5.setCell ⟨w.heap.size, 0, none⟩ (.slice ao5 n5 c5)) rb n r0 (k + 1) ao5 n5 c5 (es ++ [en]) := by
  have hl5 := H5.lt0
  have O6 : Off (List.range (w.heap.size + 3)) w5 (w5.setCell ⟨w.heap.size, 0, none⟩ (.slice ao5 n5 c5)) := (Off.refl _ _).setCell (p := ⟨w.heap.size, 0, none⟩) (by simp) _
  have O7 : Off [w.heap.size] w5 (w5.setCell ⟨w.heap.size, 0, none⟩ (.slice ao5 n5 c5)) := (Off.refl _ _).setCell (p := ⟨w.heap.size, 0, none⟩) (by simp) _
  have R5 := (R9.later ((Below.refl _ _).alloc (Nat.le_refl _) o)).off ho (fun hk => by have := (L3.lt _ hk).2; omega) (fun q hq => by have := (L3.lt q hq).2; omega)
  refine ⟨H5.set _, hls5.offX O6 (fun q hq => by have := (hls5.lt q hq).2; simp; omega), ⟨_, _, _, _, R5.off O7 (by simp; omega) (by simp), s9, hcame.step hk hpe⟩, ?_⟩
  have h1 := ho.size
  have h2 := hE.size
  have h3 := R5.lt
  simp [World.setCell]
  have h4 := H5.bel.size
  omega

end Go.Proofs.YtgleblfkcdkaeaaDoor
