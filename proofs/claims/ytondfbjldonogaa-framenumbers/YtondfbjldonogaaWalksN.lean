/- The walk of frame.Entries: a panic of its reader is a refusal. -/
import Derived.Test.YtondfbjldonogaaWalksM
import Derived.Defers
import Derived.Recover
namespace Go.Proofs.Ytondfbjldonogaa
open Go.RowKit

/-- The call's two named results lie in the two blocks behind w: the list v, the refusal z. -/
structure Held (w V : World) (v : Value) (z : Int) : Prop where
  bel : Below w.heap.size w V
  c0 : V.cell? ⟨w.heap.size, 0, none⟩ = some v
  c1 : V.cell? ⟨w.heap.size + 1, 0, none⟩ = some (.int .i64 z)
  f0 : V.frozen? ⟨w.heap.size, 0, none⟩ = false
  f1 : V.frozen? ⟨w.heap.size + 1, 0, none⟩ = false
theorem Held.lt0 {w V : World} {v : Value} {z : Int} (h : Held w V v z) : w.heap.size + 1 < V.heap.size := World.block_lt_of_cell? _ _ h.c1
theorem Held.off {S : List Nat} {w V V' : World} {v : Value} {z : Int} (h : Held w V v z) (ho : Off S V V') (hs : ∀ k ∈ S, w.heap.size + 1 < k) : Held w V' v z := by
  have n0 : w.heap.size ∉ S := fun e => by have := hs _ e; omega
  have n1 : w.heap.size + 1 ∉ S := fun e => by have := hs _ e; omega
  have l0 := h.lt0
  exact ⟨h.bel.trans (ho.below (fun k hk => by have := hs k hk; omega) h.bel.size), ho.cell h.c0 n0, ho.cell h.c1 n1, by rw [World.frozen?_of_block (w := V) (ho.block w.heap.size (by omega) n0)]; exact h.f0, by rw [World.frozen?_of_block (w := V) (ho.block (w.heap.size + 1) l0 n1)]; exact h.f1⟩
theorem Held.set {w V : World} {v : Value} {z : Int} (h : Held w V v z) (v' : Value) : Held w (V.setCell ⟨w.heap.size, 0, none⟩ v') v' z :=
  ⟨h.bel.setCell (p := ⟨w.heap.size, 0, none⟩) (Nat.le_refl _) _, World.cell?_setCell_same _ _ _ h.c0, by rw [World.cell?_setCell_other _ _ _ _ (by simp)]; exact h.c1, by simpa using h.f0, by simpa using h.f1⟩
theorem Held.set1 {w V : World} {v : Value} {z : Int} (h : Held w V v z) (z' : Int) : Held w (V.setCell ⟨w.heap.size + 1, 0, none⟩ (.int .i64 z')) v z' :=
  ⟨h.bel.setCell (p := ⟨w.heap.size + 1, 0, none⟩) (by simp) _, by rw [World.cell?_setCell_other _ _ _ _ (by simp)]; exact h.c0, World.cell?_setCell_same _ _ _ h.c1, by simpa using h.f0, by simpa using h.f1⟩

theorem catch_idle (w : World) (p q : Value) :
    CallsD Try.prog 40 #[p, q] .returning w fun e u' w' => e = .returned (.tuple #[]) ∧ u' = .returning ∧ w' = w := by
  refine callsD_of_wpS Try.func40 rfl fun c₀ cs hu => ?_
  apply wpS_seq
  apply wpS_region
  simp [wpOpsS, go_sem, recoverD, hu, Try.ntmps40, Exit.thenS]
  refine wpS_cond (t := false) (by simp [Act.eval, Array.replicate]) ?_
  simp only [Bool.false_eq_true, if_false]
  refine wpS_of_wp (wp_skip ?_)
  cases c₀
  simp_all [bodyPostS, results, Try.results40]

theorem catch_panicking (w V : World) (v : Value) (z : Int) (h : Held w V v z) (u : TypeId) (pv : Value) (older : List PanicEntry) :
    CallsD Try.prog 40 #[.pointer (some ⟨w.heap.size, 0, none⟩), .pointer (some ⟨w.heap.size + 1, 0, none⟩)] (.panicking ({ v := .iface u pv, recovered := false } :: older)) V fun e u' w' =>
      e = .returned (.tuple #[]) ∧ u' = .panicking ({ v := .iface u pv, recovered := true } :: older) ∧ Held w w' (.slice none 0 0) 12 := by
  have H := (h.set (.slice none 0 0)).set1 12
  obtain ⟨_, c0, c1, f0, f1⟩ := h
  refine callsD_of_wpS Try.func40 rfl fun c₀ cs hu => ?_
  apply wpS_seq
  apply wpS_region
  simp [wpOpsS, go_sem, recoverD, hu, Try.ntmps40, Exit.thenS]
  refine wpS_cond (t := true) (by simp [Act.eval, Array.replicate]) ?_
  simp only [if_true]
  apply wpS_region
  simp [wpOpsS, go_sem, c0, c1, f0, f1, bodyPostS, results, Try.results40]
  exact H

/-- What Entries answers. -/
def EntsPost (w : World) (xs : List Int) (e : Ending) (w' : World) : Prop :=
  (∃ es bo lb cb, entriesL xs = some es ∧ e = .returned (.tuple #[.slice bo lb cb, .int .i64 0]) ∧ Lx 3 RE w' bo lb cb es ∧ Below w.heap.size w w') ∨ (entriesL xs = none ∧ e = .returned (.tuple #[.slice none 0 0, .int .i64 12]) ∧ Below w.heap.size w w')

/-- An entry that lies in none of the blocks X either. -/
def REx (X : List Nat) : Reads Ent := fun w S u e => RE w (S ++ X) u e
theorem REx.stable (X : List Nat) : ∀ w w' S S' u e, REx X w S u e → (∀ k ∈ S ++ X, k < w.heap.size) → Off S w w' → (∀ k ∈ S', k ∈ S ∨ w.heap.size ≤ k) → REx X w' S' u e := by
  rintro w w' S S' u e ⟨k, v, hu, h, h'⟩ hX ho hs
  have hof : Off (S ++ X) w w' := ho.mono (fun k hk => List.mem_append_left _ hk)
  have hss : ∀ k ∈ S' ++ X, k ∈ S ++ X ∨ w.heap.size ≤ k := fun k hk => by
    rcases List.mem_append.1 hk with hk | hk
    · exact (hs k hk).imp_left (List.mem_append_left _)
    · exact .inl (List.mem_append_right _ hk)
  exact ⟨k, v, hu, h.off hof hss, h'.off hof hss⟩
theorem REx.st (X : List Nat) : Stable (REx X) := by
  rintro w w' S S' u e ⟨k, v, hu, h, h'⟩ ho hs
  have hof : Off (S ++ X) w w' := ho.mono (fun k hk => List.mem_append_left _ hk)
  have hss : ∀ k ∈ S' ++ X, k ∈ S ++ X ∨ w.heap.size ≤ k := fun k hk => by
    rcases List.mem_append.1 hk with hk | hk
    · exact (hs k hk).imp_left (List.mem_append_left _)
    · exact .inl (List.mem_append_right _ hk)
  exact ⟨k, v, hu, h.off hof hss, h'.off hof hss⟩
theorem REx.pl (X : List Nat) : Plain 3 (REx X) := fun w S u e h => RE.plain w (S ++ X) u e h
theorem Ls.offX {X : List Nat} {w w' : World} {B : Nat} {v : Value} {es : List Ent} (h : Ls 28 3 (REx X) w B v es) (ho : Off X w w') (hd : ∀ k ∈ own v, k ∉ X) : Ls 28 3 (REx X) w' B v es := by
  obtain ⟨us, h1, h2, h3⟩ := h
  refine ⟨us, h1, rows_offB h2 ho hd, fun i u e hu he => ?_⟩
  obtain ⟨k, v', hu', h, h'⟩ := h3 i u e hu he
  have hof : Off (own v ++ X) w w' := ho.mono (fun k hk => List.mem_append_right _ hk)
  exact ⟨k, v', hu', h.off hof (fun k hk => .inl hk), h'.off hof (fun k hk => .inl hk)⟩
theorem Lx.weaken {X : List Nat} {w : World} {ao : Option Addr} {len cap : Nat} {es : List Ent} (h : Lx 3 (REx X) w ao len cap es) : Lx 3 RE w ao len cap es :=
  ⟨h.len_eq, h.le, h.top, h.bare, fun ad ha j e he => by
    obtain ⟨u, h1, k, v, hu, hk, hv⟩ := h.cell ad ha j e he
    exact ⟨u, h1, k, v, hu, hk.off (.refl _ _) (by simp), hv.off (.refl _ _) (by simp)⟩⟩

theorem entriesL_yes {xs r : List Int} {n : Nat} {es : List Ent} (h1 : takeN 2 num2 0 8191 xs = some ((n : Int), r)) (h2 : parseN n r = some (es, [])) : entriesL xs = some es := by simp only [entriesL, h1, Int.toNat_natCast, h2]
theorem entriesL_no {xs r : List Int} {n : Nat} (h1 : takeN 2 num2 0 8191 xs = some ((n : Int), r)) (h2 : parseN n r = none) : entriesL xs = none := by simp only [entriesL, h1, Int.toNat_natCast, h2]
theorem entriesL_more {xs r : List Int} {n : Nat} {es : List Ent} {r' : List Int} (hr : r' ≠ []) (h1 : takeN 2 num2 0 8191 xs = some ((n : Int), r)) (h2 : parseN n r = some (es, r')) : entriesL xs = none := by
  cases r' with
  | nil => exact absurd rfl hr
  | cons a b => simp only [entriesL, h1, Int.toNat_natCast, h2]

/-- What holds at each round's head of Entries' loop. -/
structure EntsRel (w V : World) (rb n : Nat) (r0 : List Int) (i : Nat) (bo : Option Addr) (m cb : Nat) (es : List Ent) : Prop where
  held : Held w V (.slice bo m cb) 0
  ls : Ls 28 3 (REx [w.heap.size, w.heap.size + 1, rb]) V (w.heap.size + 3) (.slice bo m cb) es
  rd : ∃ ro rl rc r, Rd w V rb ro rl rc r ∧ rl ≤ 900000000 ∧ Came n r0 i es r
  size : w.heap.size + 3 ≤ V.heap.size

theorem Rd.new (w : World) (ao : Option Addr) (la ca : Nat) (xs : List Int) (ha : Tx w ao la ca xs) :
    Rd w (((w.alloc (.cells #[.slice none 0 0] 29)).alloc (.cells #[.int .i64 0] 31)).alloc (.cells #[.slice ao la ca] 71)) (w.heap.size + 1 + 1) ao la ca xs :=
  ⟨by simp [go_sem], by simp [go_sem], ha, (((Below.refl _ _).alloc (Nat.le_refl _) _).alloc (by simp) _).alloc (by simp; omega) _, by omega⟩
theorem Held.new (w : World) (o : Obj) : Held w (((w.alloc (.cells #[.slice none 0 0] 29)).alloc (.cells #[.int .i64 0] 31)).alloc o) (.slice none 0 0) 0 :=
  ⟨(((Below.refl _ _).alloc (Nat.le_refl _) _).alloc (by simp) _).alloc (by simp; omega) _, by simp [go_sem], by simp [go_sem], by simp [go_sem], by simp [go_sem]⟩

theorem ents_no {w V : World} {xs : List Int} (hp : entriesL xs = none) (H : Held w V (.slice none 0 0) 12) : EntsPost w xs (.returned (.tuple #[.slice none 0 0, .int .i64 12])) V := .inr ⟨hp, rfl, H.bel⟩

theorem ents_read {w wr F : World} {rb n k m cb : Nat} {bo : Option Addr} {r0 : List Int} {es : List Ent} (hE : EntsRel w wr rb n r0 k bo m cb es) (hrb : rb < w.heap.size + 3) (ho : Off [w.heap.size, w.heap.size + 1, rb] wr F) : Lx 3 RE F bo m cb es := by
  have hF := hE.ls.offX ho (fun q hq => by have := (hE.ls.lt q hq).2; simp; omega)
  obtain ⟨ao9, cap9, e9, hx9⟩ := hF.read (REx.st _) (REx.pl _)
  simp only [Value.slice.injEq] at e9
  obtain ⟨rfl, e10, rfl⟩ := e9
  rw [← e10] at hx9
  exact hx9.weaken
theorem ls_over {w wr w2 : World} {rb : Nat} {v : Value} {es : List Ent} (ls : Ls 28 3 (REx [w.heap.size, w.heap.size + 1, rb]) wr (w.heap.size + 3) v es) (O2 : Off [rb] wr.drew w2) (_hs : w.heap.size + 3 ≤ wr.heap.size) (hrb : rb < w.heap.size + 3) : Ls 28 3 (REx [w.heap.size, w.heap.size + 1, rb]) w2 (w.heap.size + 3) v es := by
  have h1 : Off [w.heap.size, w.heap.size + 1, rb] wr w2 := ((Off.refl [w.heap.size, w.heap.size + 1, rb] wr).drew).trans (O2.mono (by simp))
  refine ls.offX h1 (fun k hk => ?_)
  have := (ls.lt k hk).2
  simp; omega
theorem rex_new {X : List Nat} {wr w2 : World} {B : Nat} {v : Value} {es : List Ent} (ls : Ls 28 3 (REx X) wr B v es) {ko vo : Option Addr} {kl kc vl vc : Nat} {en : Ent} {G : Bool} (hG : G = en.g) (tk : Tx w2 ko kl kc en.k) (tv : Tx w2 vo vl vc en.v) (fk : ∀ ad, ko = some ad → wr.heap.size ≤ ad.block) (fv : ∀ ad, vo = some ad → wr.heap.size ≤ ad.block) (hX : ∀ k ∈ X, k < wr.heap.size) (o : Obj) : REx X (w2.alloc o) (own v) [.slice ko kl kc, .slice vo vl vc, .bool G] en := by
  have hn : ∀ b, wr.heap.size ≤ b → b ∉ own v ++ X := fun b hb hk => by
    rcases List.mem_append.1 hk with hk | hk
    · have := (ls.lt b hk).1; omega
    · have := hX b hk; omega
  exact ⟨_, _, by rw [hG], (tk.alloc o).at _ (fun ad ha _ => hn _ (fk ad ha)), (tv.alloc o).at _ (fun ad ha _ => hn _ (fv ad ha))⟩
theorem ents_held {w w2 w5 : World} {rb : Nat} {v : Value} {z : Int} {es : List Ent} {o : Obj} (H : Held w w2 v z) (L : Ls 28 3 (REx [w.heap.size, w.heap.size + 1, rb]) w2 (w.heap.size + 3) v es) (ho : Off (own v) (w2.alloc o) w5) : Held w w5 v z :=
  (H.off ((Off.refl (own v) w2).alloc o) (fun k hk => by have := (L.lt k hk).2; omega)).off ho (fun k hk => by have := (L.lt k hk).2; omega)
theorem ents_step {w wr w2 w5 : World} {rb n k m cb n5 c5 b9 o9 rl9 rc9 : Nat} {bo ao5 : Option Addr} {r0 r r' : List Int} {es : List Ent} {en : Ent} {o : Obj} (hE : EntsRel w wr rb n r0 k bo m cb es) (hk : k < n) (hcame : Came n r0 k es r) (hpe : parseE r = some (en, r')) (H5 : Held w w5 (.slice bo m cb) 0) (L3 : Ls 28 3 (REx [w.heap.size, w.heap.size + 1, rb]) w2 (w.heap.size + 3) (.slice bo m cb) es) (hls5 : Ls 28 3 (REx [w.heap.size, w.heap.size + 1, rb]) w5 (w.heap.size + 3) (.slice ao5 n5 c5) (es ++ [en])) (ho : Off (own (.slice bo m cb)) (w2.alloc o) w5) (R9 : Rd w w2 rb (some ⟨b9, o9, none⟩) rl9 rc9 r') (s9 : rl9 ≤ 900000000) (hr1 : w.heap.size + 1 < rb) (hr2 : rb < w.heap.size + 3) :
    EntsRel w (w5.setCell ⟨w.heap.size, 0, none⟩ (.slice ao5 n5 c5)) rb n r0 (k + 1) ao5 n5 c5 (es ++ [en]) := by
  have hl5 := H5.lt0
  have O6 : Off [w.heap.size, w.heap.size + 1, rb] w5 (w5.setCell ⟨w.heap.size, 0, none⟩ (.slice ao5 n5 c5)) := (Off.refl _ _).setCell (p := ⟨w.heap.size, 0, none⟩) (by simp) _
  have O7 : Off [w.heap.size] w5 (w5.setCell ⟨w.heap.size, 0, none⟩ (.slice ao5 n5 c5)) := (Off.refl _ _).setCell (p := ⟨w.heap.size, 0, none⟩) (by simp) _
  have R5 := (R9.later ((Below.refl _ _).alloc (Nat.le_refl _) o)).off ho (fun hk => by have := (L3.lt _ hk).2; omega) (fun q hq => by have := (L3.lt q hq).2; omega)
  refine ⟨H5.set _, hls5.offX O6 (fun q hq => by have := (hls5.lt q hq).2; simp; omega), ⟨_, _, _, _, R5.off O7 (by simp; omega) (by simp), s9, hcame.step hk hpe⟩, ?_⟩
  have h1 := ho.size
  have h2 := hE.size
  have h3 := R5.lt
  simp [World.setCell]
  have h4 := H5.bel.size
  omega

set_option maxHeartbeats 8000000 in
theorem fents_any (ao : Option Addr) (la ca : Nat) (xs : List Int) (w : World) (ha : Tx w ao la ca xs) (sa : la ≤ 900000000) :
    Calls Try.prog 25 #[.slice ao la ca] w fun e w' => EntsPost w xs e w' := by
  have hmf : ∀ (fn : Fn) (first cap : Array Value) (w : World), (Instr.makeFunc fn first cap).run Try.prog w = .ok (.func fn first cap) w := fun _ _ _ _ => rfl
  have R0 := Rd.new w ao la ca xs ha
  have H0 := Held.new w (.cells #[.slice ao la ca] 71)
  have hsz : w.heap.size + 3 ≤ (((w.alloc (.cells #[.slice none 0 0] 29)).alloc (.cells #[.int .i64 0] 31)).alloc (.cells #[.slice ao la ca] 71)).heap.size := by simp
  go_enter_defers Try.func25, Try.ntmps25
  go_wp2_with fail
  obtain ⟨rb, hrb⟩ : ∃ rb, Hid (w.heap.size + 1 + 1 = rb) := ⟨_, rfl⟩
  rw [hrb.out] at R0 ⊢
  have hrb1 : w.heap.size + 1 < rb := by have := hrb.out; omega
  have hrb2 : rb < w.heap.size + 3 := by have := hrb.out; omega
  have hrb3 : ∀ k ∈ [rb], w.heap.size + 1 < k := by simpa using hrb1
  clear hrb
  generalize (((w.alloc (.cells #[.slice none 0 0] 29)).alloc (.cells #[.int .i64 0] 31)).alloc (.cells #[.slice ao la ca] 71)) = V0 at R0 H0 hsz ⊢
  have n1 := number_any w rb ao la ca xs 2 2 rfl (by omega) (by omega) 0 8191 num2 (num2_get xs) (fun hb => num2_rng hb) V0 R0 sa
  with_reducible refine n1.mono ?_
  clear n1
  rintro e w1 (⟨v1, r1, b1, o1, rl1, rc1, p1, v10, v19, v1l, v1h, rfl, R1, s1, O1⟩ | ⟨p1, rfl, O1⟩)
  rotate_left
  · have H1 := H0.off O1 hrb3
    have hp : entriesL xs = none := by simp only [entriesL, p1]
    go_wp2
    refine leaves_cons (f := 40) (args := #[.pointer (some ⟨w.heap.size, 0, none⟩), .pointer (some ⟨w.heap.size + 1, 0, none⟩)]) (by simp) (by simp [go_sem]) ?_
    refine (catch_panicking w _ _ _ H1 _ _ _).mono ?_
    rintro e u' w'' ⟨rfl, rfl, HF⟩
    have hfin := ents_no hp HF
    have c0 := HF.c0
    have c1 := HF.c1
    simp [Leaves, settle, results, Try.results25, go_sem, c0, c1]
    exact hfin
  · have H1 := H0.off O1 hrb3
    obtain ⟨n, rfl⟩ : ∃ n : Nat, v1 = (n : Int) := ⟨v1.toNat, by omega⟩
    have hn9 : n ≤ 8191 := by omega
    have hsz1 : w.heap.size + 3 ≤ w1.heap.size := Nat.le_trans hsz O1.size
    have hpar : Hid (takeN 2 num2 0 8191 xs = some ((n : Int), r1)) := p1
    clear R0 H0 hsz ha v10 v19 v1l v1h p1 O1
    go_wp2
    go_loopw [11] (fun i V => ∃ (k m : Nat) (bo : Option Addr) (cb : Nat) (es : List Ent), k ≤ n ∧ i = .int .i64 k ∧ EntsRel w V rb n r1 k bo m cb es) (fun i _ => n - (intOf i).toNat)
    case atStart => exact ⟨0, 0, none, 0, [], by omega, rfl, ⟨H1, Ls.nil _ _ _ _ _, ⟨_, _, _, _, R1, s1, Came.start n r1⟩, hsz1⟩⟩
    case round =>
      obtain ⟨k, m, bo, cb, es, hk, rfl, hE⟩ := hrel
      obtain ⟨ro, rl, rc, r, Rk, sk, hcame⟩ := hE.rd
      by_cases hk2 : k < n
      · have Rd' := Rk.later ((Below.refl _ _).drew)
        have hent := entry_any w rb ro rl rc r wr.drew Rd' sk
        have H2 := hE.held
        have Hd := H2.off ((Off.refl [] wr).drew) (by simp)
        have k0 := Hd.c0
        cases hpe : parseE r with
        | none =>
          have hpn : entriesL xs = none := entriesL_no hpar.out (hcame.no hk2 hpe)
          have hno : Calls Try.prog 42 #[.pointer (some ⟨rb, 0, none⟩)] wr.drew fun e w' => e = .panicked formE ∧ Off [rb] wr.drew w' := hent.mono fun e w' h => by
            rcases h with ⟨en, r', _, _, _, _, _, _, _, _, _, _, hp, _⟩ | ⟨_, he, ho⟩
            · rw [hpe] at hp; cases hp
            · exact ⟨he, ho⟩
          clear hent hcame
          go_wp2_with fail
          have hfall : ∀ (A : Act) (w2 : World), Off [rb] wr.drew w2 → A.defers = [{ target := Target.fn (Fn.func 40) #[.pointer (some ⟨w.heap.size, 0, none⟩), .pointer (some ⟨w.heap.size + 1, 0, none⟩)], args := #[] }] → A.tmps[2]? = some (.pointer (some ⟨w.heap.size, 0, none⟩)) → A.tmps[3]? = some (.pointer (some ⟨w.heap.size + 1, 0, none⟩)) → bodyPostD Try.prog Try.f25 (fun e w' => EntsPost w xs e w') (Exit.panic formE) A w2 := by
            intro A w2 O2 hA h2 h3
            have H3 := Hd.off O2 hrb3
            obtain ⟨tm, df⟩ := A
            simp only at hA h2 h3
            subst hA
            refine leaves_cons (f := 40) (args := #[.pointer (some ⟨w.heap.size, 0, none⟩), .pointer (some ⟨w.heap.size + 1, 0, none⟩)]) (by simp) (by simp [go_sem]) ?_
            refine (catch_panicking w _ _ _ H3 _ _ _).mono ?_
            rintro e u' w'' ⟨rfl, rfl, HF⟩
            have hfin := ents_no hpn HF
            have c0 := HF.c0
            have c1 := HF.c1
            simp [Leaves, settle, results, Try.results25, go_sem, c0, c1, h2, h3]
            exact hfin
          go_wp2_with fail
          refine wp_region_any (by kernel_rfl) ?_
          change wpAny _ _ _ _ _ _ _ (World.drew _)
          refine wpAny_ready (rs := [0, 1]) (by kernel_rfl) (by simp) ?_
          refine AllReady.cons rfl (fun K hK => ?_) ?_
          · go_simp
            (with_reducible refine hK _ _ ?_)
            clear hK K
            refine wpAny_ready (rs := [1]) (by kernel_rfl) (by simp) ?_
            refine AllReady.cons rfl (fun K hK => ?_) ?_
            · go_simp
              (with_reducible refine hK _ _ ?_)
              clear hK K
              refine wpAny_ready (rs := [2]) (by kernel_rfl) (by simp) ?_
              refine AllReady.cons rfl (fun K hK => ?_) ?_
              · go_simp
                with_reducible refine hno.mono ?_
                rintro e w2 ⟨rfl, O2⟩
                exact hfall _ w2 O2 rfl rfl rfl
              exact AllReady.nil
            exact AllReady.nil
          refine AllReady.cons rfl (fun K hK => ?_) ?_
          · go_simp
            (with_reducible refine hK _ _ ?_)
            clear hK K
            refine wpAny_ready (rs := [0, 2]) (by kernel_rfl) (by simp) ?_
            refine AllReady.cons rfl (fun K hK => ?_) ?_
            · go_simp
              (with_reducible refine hK _ _ ?_)
              clear hK K
              refine wpAny_ready (rs := [2]) (by kernel_rfl) (by simp) ?_
              refine AllReady.cons rfl (fun K hK => ?_) ?_
              · go_simp
                with_reducible refine hno.mono ?_
                rintro e w2 ⟨rfl, O2⟩
                exact hfall _ w2 O2 rfl rfl rfl
              exact AllReady.nil
            refine AllReady.cons rfl (fun K hK => ?_) ?_
            · go_simp
              with_reducible refine hno.mono ?_
              rintro e w2 ⟨rfl, O2⟩
              exact hfall _ w2 O2 rfl rfl rfl
            exact AllReady.nil
          exact AllReady.nil
        | some pr =>
          obtain ⟨en, r'⟩ := pr
          have hyes : Calls Try.prog 42 #[.pointer (some ⟨rb, 0, none⟩)] wr.drew fun e w' => ∃ ko kl kc vo vl vc, e = .returned (.agg #[.slice ko kl kc, .slice vo vl vc, .bool en.g]) ∧ Tx w' ko kl kc en.k ∧ Tx w' vo vl vc en.v ∧ (∀ ad, ko = some ad → wr.heap.size ≤ ad.block) ∧ (∀ ad, vo = some ad → wr.heap.size ≤ ad.block) ∧ (∃ b o rl rc, Rd w w' rb (some ⟨b, o, none⟩) rl rc r' ∧ rl ≤ 900000000) ∧ Off [rb] wr.drew w' := hent.mono fun e w' h => by
            rcases h with ⟨en2, r2, ko, kl, kc, vo, vl, vc, b, o, rl, rc, hp, he, h1, h2, h3, h4, h5, h6, h7⟩ | ⟨hp, _⟩
            · rw [hpe] at hp
              cases hp
              exact ⟨ko, kl, kc, vo, vl, vc, he, h1, h2, h3, h4, ⟨b, o, rl, rc, h5, h6⟩, h7⟩
            · rw [hpe] at hp; cases hp
          have hes : es.length = k := hcame.2.1
          have hXs : ∀ q ∈ [w.heap.size, w.heap.size + 1, rb], q < wr.heap.size := by have := hE.size; simp; omega
          have hsz2 := hE.size
          have hwd : wr.drew.heap.size = wr.heap.size := rfl
          clear hent
          go_wp2_with fail
          refine wp_region_any (by kernel_rfl) ?_
          change wpAny _ _ _ _ _ _ _ (World.drew _)
          refine wpAny_ready (rs := [0, 1]) (by kernel_rfl) (by simp) ?_
          refine AllReady.cons rfl (fun K hK => ?_) ?_
          · go_simp
            (with_reducible refine hK _ _ ?_)
            clear hK K
            refine wpAny_ready (rs := [1]) (by kernel_rfl) (by simp) ?_
            refine AllReady.cons rfl (fun K hK => ?_) ?_
            · go_simp
              (with_reducible refine hK _ _ ?_)
              clear hK K
              refine wpAny_ready (rs := [2]) (by kernel_rfl) (by simp) ?_
              refine AllReady.cons rfl (fun K hK => ?_) ?_
              · go_simp
                with_reducible refine hyes.mono ?_
                rintro e w2 ⟨ko, kl, kc, vo, vl, vc, rfl, tk, tv, fk, fv, ⟨b9, o9, rl9, rc9, R9, s9⟩, O2⟩
                have H3 := Hd.off O2 hrb3
                have k3 := H3.c0
                have hs2 := O2.size
                have hlt2 : w.heap.size < w2.heap.size := by have := H3.lt0; omega
                have k4 : ∀ o, (w2.alloc o).cell? ⟨w.heap.size, 0, none⟩ = some (.slice bo m cb) := fun o => cell_later ((Below.refl _ _).alloc (Nat.le_refl _) o) k3
                (with_reducible refine hK _ _ ?_)
                clear hK K
                refine wpAny_ready (rs := [3]) (by kernel_rfl) (by simp) ?_
                refine AllReady.cons rfl (fun K hK => ?_) ?_
                · go_simp
                  (with_reducible refine hK _ _ ?_)
                  clear hK K
                  refine wpAny_ready (rs := [4]) (by kernel_rfl) (by simp) ?_
                  refine AllReady.cons rfl (fun K hK => ?_) ?_
                  · have L3 := ls_over hE.ls O2 hE.size hrb2
                    have HL := L3.later (REx.st _) ((Below.refl _ _).alloc (Nat.le_refl _) (.cells #[.slice ko kl kc, .slice vo vl vc, .bool en.g] 28))
                    have HR := rex_new hE.ls (G := en.g) rfl tk tv fk fv hXs (.cells #[.slice ko kl kc, .slice vo vl vc, .bool en.g] 28)
                    refine step_one (REx.st _) (REx.pl _) Try.underlying29 Try.info28 rfl (by omega) (by omega) rfl (.tmp 13) (.tmp 16) rfl (w.heap.size + 3) (.slice bo m cb) es (by simp [Act.eval]) HL ⟨w2.heap.size, 0, none⟩ 1 [.slice ko kl kc, .slice vo vl vc, .bool en.g] en (by simp [Act.eval]) (cells3_new w2 _ _ _) HR (by omega) (by simp; omega) ?_
                    intro ao5 n5 c5 w5 hn5 hls5 hof5 hsub5
                    clear hn5
                    have H5 := ents_held H3 L3 hof5
                    have k5 := H5.c0
                    have z5 := H5.f0
                    (with_reducible refine hK _ _ ?_)
                    clear hK K
                    refine wpAny_ready (rs := [5]) (by kernel_rfl) (by simp) ?_
                    refine AllReady.cons rfl (fun K hK => ?_) ?_
                    · go_simp
                      (with_reducible refine hK _ _ ?_)
                      clear hK K
                      refine wpAny_done (by kernel_rfl) ?_ _
                      have hrel := ents_step hE hk2 hcame hpe H5 L3 hls5 hof5 R9 s9 (by omega) (by omega)
                      go_wp2
                      go_roundw
                      case rel => exact ⟨k + 1, n5, ao5, c5, es ++ [en], by omega, by go_num, hrel⟩
                      case measure => simp [intOf]; omega
                    exact AllReady.nil
                  exact AllReady.nil
                exact AllReady.nil
              exact AllReady.nil
            exact AllReady.nil
          refine AllReady.cons rfl (fun K hK => ?_) ?_
          · go_simp
            (with_reducible refine hK _ _ ?_)
            clear hK K
            refine wpAny_ready (rs := [0, 2]) (by kernel_rfl) (by simp) ?_
            refine AllReady.cons rfl (fun K hK => ?_) ?_
            · go_simp
              (with_reducible refine hK _ _ ?_)
              clear hK K
              refine wpAny_ready (rs := [2]) (by kernel_rfl) (by simp) ?_
              refine AllReady.cons rfl (fun K hK => ?_) ?_
              · go_simp
                with_reducible refine hyes.mono ?_
                rintro e w2 ⟨ko, kl, kc, vo, vl, vc, rfl, tk, tv, fk, fv, ⟨b9, o9, rl9, rc9, R9, s9⟩, O2⟩
                have H3 := Hd.off O2 hrb3
                have k3 := H3.c0
                have hs2 := O2.size
                have hlt2 : w.heap.size < w2.heap.size := by have := H3.lt0; omega
                have k4 : ∀ o, (w2.alloc o).cell? ⟨w.heap.size, 0, none⟩ = some (.slice bo m cb) := fun o => cell_later ((Below.refl _ _).alloc (Nat.le_refl _) o) k3
                (with_reducible refine hK _ _ ?_)
                clear hK K
                refine wpAny_ready (rs := [3]) (by kernel_rfl) (by simp) ?_
                refine AllReady.cons rfl (fun K hK => ?_) ?_
                · go_simp
                  (with_reducible refine hK _ _ ?_)
                  clear hK K
                  refine wpAny_ready (rs := [4]) (by kernel_rfl) (by simp) ?_
                  refine AllReady.cons rfl (fun K hK => ?_) ?_
                  · have L3 := ls_over hE.ls O2 hE.size hrb2
                    have HL := L3.later (REx.st _) ((Below.refl _ _).alloc (Nat.le_refl _) (.cells #[.slice ko kl kc, .slice vo vl vc, .bool en.g] 28))
                    have HR := rex_new hE.ls (G := en.g) rfl tk tv fk fv hXs (.cells #[.slice ko kl kc, .slice vo vl vc, .bool en.g] 28)
                    refine step_one (REx.st _) (REx.pl _) Try.underlying29 Try.info28 rfl (by omega) (by omega) rfl (.tmp 13) (.tmp 16) rfl (w.heap.size + 3) (.slice bo m cb) es (by simp [Act.eval]) HL ⟨w2.heap.size, 0, none⟩ 1 [.slice ko kl kc, .slice vo vl vc, .bool en.g] en (by simp [Act.eval]) (cells3_new w2 _ _ _) HR (by omega) (by simp; omega) ?_
                    intro ao5 n5 c5 w5 hn5 hls5 hof5 hsub5
                    clear hn5
                    have H5 := ents_held H3 L3 hof5
                    have k5 := H5.c0
                    have z5 := H5.f0
                    (with_reducible refine hK _ _ ?_)
                    clear hK K
                    refine wpAny_ready (rs := [5]) (by kernel_rfl) (by simp) ?_
                    refine AllReady.cons rfl (fun K hK => ?_) ?_
                    · go_simp
                      (with_reducible refine hK _ _ ?_)
                      clear hK K
                      refine wpAny_done (by kernel_rfl) ?_ _
                      have hrel := ents_step hE hk2 hcame hpe H5 L3 hls5 hof5 R9 s9 (by omega) (by omega)
                      go_wp2
                      go_roundw
                      case rel => exact ⟨k + 1, n5, ao5, c5, es ++ [en], by omega, by go_num, hrel⟩
                      case measure => simp [intOf]; omega
                    exact AllReady.nil
                  exact AllReady.nil
                exact AllReady.nil
              exact AllReady.nil
            refine AllReady.cons rfl (fun K hK => ?_) ?_
            · go_simp
              with_reducible refine hyes.mono ?_
              rintro e w2 ⟨ko, kl, kc, vo, vl, vc, rfl, tk, tv, fk, fv, ⟨b9, o9, rl9, rc9, R9, s9⟩, O2⟩
              have H3 := Hd.off O2 hrb3
              have k3 := H3.c0
              have hs2 := O2.size
              have hlt2 : w.heap.size < w2.heap.size := by have := H3.lt0; omega
              have k4 : ∀ o, (w2.alloc o).cell? ⟨w.heap.size, 0, none⟩ = some (.slice bo m cb) := fun o => cell_later ((Below.refl _ _).alloc (Nat.le_refl _) o) k3
              (with_reducible refine hK _ _ ?_)
              clear hK K
              refine wpAny_ready (rs := [0, 3]) (by kernel_rfl) (by simp) ?_
              refine AllReady.cons rfl (fun K hK => ?_) ?_
              · go_simp
                (with_reducible refine hK _ _ ?_)
                clear hK K
                refine wpAny_ready (rs := [3]) (by kernel_rfl) (by simp) ?_
                refine AllReady.cons rfl (fun K hK => ?_) ?_
                · go_simp
                  (with_reducible refine hK _ _ ?_)
                  clear hK K
                  refine wpAny_ready (rs := [4]) (by kernel_rfl) (by simp) ?_
                  refine AllReady.cons rfl (fun K hK => ?_) ?_
                  · have L3 := ls_over hE.ls O2 hE.size hrb2
                    have HL := L3.later (REx.st _) ((Below.refl _ _).alloc (Nat.le_refl _) (.cells #[.slice ko kl kc, .slice vo vl vc, .bool en.g] 28))
                    have HR := rex_new hE.ls (G := en.g) rfl tk tv fk fv hXs (.cells #[.slice ko kl kc, .slice vo vl vc, .bool en.g] 28)
                    refine step_one (REx.st _) (REx.pl _) Try.underlying29 Try.info28 rfl (by omega) (by omega) rfl (.tmp 13) (.tmp 16) rfl (w.heap.size + 3) (.slice bo m cb) es (by simp [Act.eval]) HL ⟨w2.heap.size, 0, none⟩ 1 [.slice ko kl kc, .slice vo vl vc, .bool en.g] en (by simp [Act.eval]) (cells3_new w2 _ _ _) HR (by omega) (by simp; omega) ?_
                    intro ao5 n5 c5 w5 hn5 hls5 hof5 hsub5
                    clear hn5
                    have H5 := ents_held H3 L3 hof5
                    have k5 := H5.c0
                    have z5 := H5.f0
                    (with_reducible refine hK _ _ ?_)
                    clear hK K
                    refine wpAny_ready (rs := [5]) (by kernel_rfl) (by simp) ?_
                    refine AllReady.cons rfl (fun K hK => ?_) ?_
                    · go_simp
                      (with_reducible refine hK _ _ ?_)
                      clear hK K
                      refine wpAny_done (by kernel_rfl) ?_ _
                      have hrel := ents_step hE hk2 hcame hpe H5 L3 hls5 hof5 R9 s9 (by omega) (by omega)
                      go_wp2
                      go_roundw
                      case rel => exact ⟨k + 1, n5, ao5, c5, es ++ [en], by omega, by go_num, hrel⟩
                      case measure => simp [intOf]; omega
                    exact AllReady.nil
                  exact AllReady.nil
                exact AllReady.nil
              refine AllReady.cons rfl (fun K hK => ?_) ?_
              · go_simp
                (with_reducible refine hK _ _ ?_)
                clear hK K
                refine wpAny_ready (rs := [0]) (by kernel_rfl) (by simp) ?_
                refine AllReady.cons rfl (fun K hK => ?_) ?_
                · go_simp
                  (with_reducible refine hK _ _ ?_)
                  clear hK K
                  refine wpAny_ready (rs := [4]) (by kernel_rfl) (by simp) ?_
                  refine AllReady.cons rfl (fun K hK => ?_) ?_
                  · have L3 := ls_over hE.ls O2 hE.size hrb2
                    have HL := L3.later (REx.st _) ((Below.refl _ _).alloc (Nat.le_refl _) (.cells #[.slice ko kl kc, .slice vo vl vc, .bool en.g] 28))
                    have HR := rex_new hE.ls (G := en.g) rfl tk tv fk fv hXs (.cells #[.slice ko kl kc, .slice vo vl vc, .bool en.g] 28)
                    refine step_one (REx.st _) (REx.pl _) Try.underlying29 Try.info28 rfl (by omega) (by omega) rfl (.tmp 13) (.tmp 16) rfl (w.heap.size + 3) (.slice bo m cb) es (by simp [Act.eval]) HL ⟨w2.heap.size, 0, none⟩ 1 [.slice ko kl kc, .slice vo vl vc, .bool en.g] en (by simp [Act.eval]) (cells3_new w2 _ _ _) HR (by omega) (by simp; omega) ?_
                    intro ao5 n5 c5 w5 hn5 hls5 hof5 hsub5
                    clear hn5
                    have H5 := ents_held H3 L3 hof5
                    have k5 := H5.c0
                    have z5 := H5.f0
                    (with_reducible refine hK _ _ ?_)
                    clear hK K
                    refine wpAny_ready (rs := [5]) (by kernel_rfl) (by simp) ?_
                    refine AllReady.cons rfl (fun K hK => ?_) ?_
                    · go_simp
                      (with_reducible refine hK _ _ ?_)
                      clear hK K
                      refine wpAny_done (by kernel_rfl) ?_ _
                      have hrel := ents_step hE hk2 hcame hpe H5 L3 hls5 hof5 R9 s9 (by omega) (by omega)
                      go_wp2
                      go_roundw
                      case rel => exact ⟨k + 1, n5, ao5, c5, es ++ [en], by omega, by go_num, hrel⟩
                      case measure => simp [intOf]; omega
                    exact AllReady.nil
                  exact AllReady.nil
                exact AllReady.nil
              exact AllReady.nil
            exact AllReady.nil
          exact AllReady.nil
      · have hdone := hcame.done hk2
        by_cases hr : r = []
        · subst hr
          have hpn : entriesL xs = some es := entriesL_yes hpar.out hdone
          have hend := end_yes w rb ro rl rc wr Rk
          have H2 := hE.held
          have HF := (H2.set (.slice bo m cb)).set1 0
          have O6 : Off [w.heap.size, w.heap.size + 1, rb] wr ((wr.setCell ⟨w.heap.size, 0, none⟩ (.slice bo m cb)).setCell ⟨w.heap.size + 1, 0, none⟩ (.int .i64 0)) := ((Off.refl _ _).setCell (p := ⟨w.heap.size, 0, none⟩) (by simp) _).setCell (p := ⟨w.heap.size + 1, 0, none⟩) (by simp) _
          have hx9 := ents_read hE hrb2 O6
          obtain ⟨_, k0, k1, l0, l1⟩ := H2
          clear hdone hcame O6
          go_wp2_with (go_at_call 43; with_reducible refine hend.mono ?_; rintro e w2 ⟨rfl, rfl⟩)
          refine leaves_cons (f := 40) (args := #[.pointer (some ⟨w.heap.size, 0, none⟩), .pointer (some ⟨w.heap.size + 1, 0, none⟩)]) (by simp) (by simp [go_sem]) ?_
          refine (catch_idle _ _ _).mono ?_
          rintro e u' w'' ⟨rfl, rfl, rfl⟩
          have c0 := HF.c0
          have c1 := HF.c1
          have hB := HF.bel
          generalize (wr.setCell ⟨w.heap.size, 0, none⟩ (.slice bo m cb)).setCell ⟨w.heap.size + 1, 0, none⟩ (.int .i64 0) = F at c0 c1 hB hx9 ⊢
          simp [Leaves, settle, results, Try.results25, go_sem, c0, c1]
          exact .inl ⟨es, bo, m, cb, hpn, rfl, hx9, hB⟩
        · have hpn : entriesL xs = none := entriesL_more hr hpar.out hdone
          have hend := end_no w rb ro rl rc r hr wr Rk
          have H2 := hE.held
          clear hdone hcame
          go_wp2_with (go_at_call 43; with_reducible refine hend.mono ?_; rintro e w2 ⟨rfl, rfl⟩)
          refine leaves_cons (f := 40) (args := #[.pointer (some ⟨w.heap.size, 0, none⟩), .pointer (some ⟨w.heap.size + 1, 0, none⟩)]) (by simp) (by simp [go_sem]) ?_
          refine (catch_panicking w _ _ _ H2 _ _ _).mono ?_
          rintro e u' w'' ⟨rfl, rfl, HF⟩
          have hfin := ents_no hpn HF
          have c0 := HF.c0
          have c1 := HF.c1
          simp [Leaves, settle, results, Try.results25, go_sem, c0, c1]
          exact hfin

end Go.Proofs.Ytondfbjldonogaa
