/- The walk of block.All: a panic of its readers is a refusal. -/
import Derived.Test.YteeemfohehpaeaaBWalksF
import Derived.Test.YteeemfohehpaeaaBWalksC
import Derived.Test.YteeemfohehpaeaaFWalksI
namespace Go.Proofs.Yteeemfohehpaeaa
set_option maxRecDepth 100000
open Go.RowKit

theorem bequal_any (ao bo : Option Addr) (la ca lb cb : Nat) (xs ys : List Int) (w : World) (ha : Tx w ao la ca xs) (hb : Tx w bo lb cb ys) (F : Bool) (hF : (xs == ys) = F) :
    Calls Try.prog 46 #[.slice ao la ca, .slice bo lb cb] w fun e w' => e = .returned (.bool F) ∧ w = w' := by
  have s1 := ha.string
  have s2 := hb.string
  cases F with
  | true =>
    have e : xs = ys := by simpa using hF
    subst e
    generalize strOfNums xs = S at s1 s2
    go_enter Try.func46, Try.ntmps46
    go_wp2
    go_ret
    exact ⟨ret_bool (by simp), rfl⟩
  | false =>
    have e : ¬ xs = ys := by simpa using hF
    have hne := str_ne ha.rng hb.rng e
    generalize strOfNums xs = S at s1 hne
    generalize strOfNums ys = T at s2 hne
    go_enter Try.func46, Try.ntmps46
    go_wp2
    go_ret
    exact ⟨ret_bool (by simp [hne]), rfl⟩

theorem parseB_len {st : Bool} {p xs r : List Int} {e : Ent} (h : parseB st p xs = some (e, r)) : e.k.length ≤ p.length + xs.length ∧ r.length ≤ xs.length := by
  unfold parseB at h
  split at h
  · cases h
  · rename_i s r1 h1
    obtain ⟨_, rfl, l1⟩ := numB_some h1
    split at h
    · cases h
    · split at h
      · cases h
      · rename_i m r2 h2
        obtain ⟨_, rfl, l2⟩ := numB_some h2
        split at h
        · cases h
        · rename_i t r3 h3
          obtain ⟨rfl, rfl, _⟩ := takeT_some h3
          split at h
          · cases h
          · rename_i kd r4 h4
            obtain ⟨_, rfl, _⟩ := numB_some h4
            split at h
            · cases h
              simp only [List.length_drop, List.length_append, List.length_take]; omega
            · split at h
              · cases h
              · split at h
                · cases h
                · rename_i vl r5 h5
                  obtain ⟨_, rfl, _⟩ := numB_some h5
                  split at h
                  · cases h
                  · rename_i v r6 h6
                    obtain ⟨_, rfl, _⟩ := takeT_some h6
                    cases h
                    simp only [List.length_drop, List.length_append, List.length_take]; omega
theorem pre_len (i : Nat) (p : List Int) : (pre i p).length ≤ p.length := by unfold pre; split <;> simp
theorem readB_len : ∀ (n i : Nat) (p xs : List Int) (l : List Ent) (N M : Nat), readB n i p xs = some l → p.length ≤ N → xs.length ≤ M → ∀ e ∈ l, e.k.length ≤ N + n * M
  | 0, i, p, xs, l, N, M, h, _, _ => by
    unfold readB at h
    split at h
    · cases h; simp
    · cases h
  | n + 1, i, p, xs, l, N, M, h, hp, hx => by
    unfold readB at h
    split at h
    · cases h; simp
    · split at h
      · cases h
      · rename_i e r h1
        obtain ⟨k1, k2⟩ := parseB_len h1
        have hpre := pre_len i p
        cases h2 : readB n (i + 1) e.k r with
        | none => rw [h2] at h; cases h
        | some m =>
          rw [h2] at h
          cases h
          intro x hx'
          have hmul : (n + 1) * M = n * M + M := Nat.succ_mul n M
          rcases List.mem_cons.1 hx' with rfl | hx'
          · have : 0 ≤ n * M := Nat.zero_le _
            omega
          · have := readB_len n (i + 1) e.k r m (N + M) M h2 (by omega) (by omega) x hx'
            omega
theorem readL_len {xs : List Int} {l : List Ent} (h : readL xs = some l) (hx : xs.length ≤ 900000000) : ∀ e ∈ l, e.k.length ≤ 1000000000000 := by
  unfold readL at h
  split at h
  · cases h
  · rename_i a b hp
    have ha : a.length ≤ 900000000 := by
      unfold partsL at hp
      split at hp
      · cases hp
      · cases hp; simp; omega
    intro e he
    have := readB_len 255 0 [] a l 0 900000000 h (by simp) ha e he
    omega
theorem readL_pos {xs : List Int} {l : List Ent} (h : readL xs = some l) : ¬ xs = [] := by
  rintro rfl
  unfold readL partsL at h
  simp at h

/-- What All answers. -/
def AllPost (X : List Nat) (w : World) (xs : List Int) (e : Ending) (w' : World) : Prop :=
  (∃ es bo lb cb, allB xs = some es ∧ e = .returned (.tuple #[.slice bo lb cb, .int .i64 0]) ∧ Lx 3 (REx X) w' bo lb cb es ∧ Below w.heap.size w w') ∨ (allB xs = none ∧ e = .returned (.tuple #[.slice none 0 0, .int .i64 12]) ∧ Below w.heap.size w w')
theorem all_no {X : List Nat} {w V : World} {xs : List Int} (hp : allB xs = none) (H : Held w V (.slice none 0 0) 12) : AllPost X w xs (.returned (.tuple #[.slice none 0 0, .int .i64 12])) V := .inr ⟨hp, rfl, H.bel⟩
theorem Held.two (w : World) : Held w ((w.alloc (.cells #[.slice none 0 0] 22)).alloc (.cells #[.int .i64 0] 35)) (.slice none 0 0) 0 :=
  ⟨((Below.refl _ _).alloc (Nat.le_refl _) _).alloc (by simp) _, by simp [go_sem], by simp [go_sem], by simp [go_sem], by simp [go_sem]⟩
theorem Ls.readX {X : List Nat} {w : World} {B : Nat} {bo : Option Addr} {m cb : Nat} {es : List Ent} (h : Ls 25 3 (REx X) w B (.slice bo m cb) es) : Lx 3 RE w bo m cb es := by
  obtain ⟨ao9, cap9, e9, hx9⟩ := h.read (REx.st _) (REx.pl _)
  simp only [Value.slice.injEq] at e9
  obtain ⟨rfl, e10, rfl⟩ := e9
  rw [← e10] at hx9
  exact hx9.weaken

theorem Ls.readY {X : List Nat} {w : World} {B : Nat} {bo : Option Addr} {m cb : Nat} {es : List Ent} (h : Ls 25 3 (REx X) w B (.slice bo m cb) es) : Lx 3 (REx X) w bo m cb es := by
  obtain ⟨ao9, cap9, e9, hx9⟩ := h.read (REx.st _) (REx.pl _)
  simp only [Value.slice.injEq] at e9
  obtain ⟨rfl, e10, rfl⟩ := e9
  rw [← e10] at hx9
  exact hx9
theorem Lx.headX {X : List Nat} {w : World} {ao : Option Addr} {len cap : Nat} {l : List Ent} (h : Lx 3 (REx X) w ao len cap l) (h0 : 0 < len) :
    ∃ b off, ao = some ⟨b, off, none⟩ ∧ ∀ (j : Nat) (e : Ent), l[j]? = some e → ∃ ko kl kc vo vl vc, w.cell? ⟨b, off + j * 3, none⟩ = some (.slice ko kl kc) ∧ w.cell? ⟨b, off + j * 3 + 1, none⟩ = some (.slice vo vl vc) ∧ w.cell? ⟨b, off + j * 3 + 2, none⟩ = some (.bool e.g) ∧ Tx w ko kl kc e.k ∧ Tx w vo vl vc e.v ∧ (∀ ad, ko = some ad → 0 < kl → ad.block ∉ X) ∧ (∀ ad, vo = some ad → 0 < vl → ad.block ∉ X) := by
  obtain ⟨b, off, rfl, hc⟩ := h.head (REx.pl X) (by omega) h0
  refine ⟨b, off, rfl, fun j e he => ?_⟩
  obtain ⟨u, h1, k, v, rfl, ⟨ko, kl, kc, rfl, tk, nk⟩, ⟨vo, vl, vc, rfl, tv, nv⟩⟩ := hc j e he
  exact ⟨ko, kl, kc, vo, vl, vc, by simpa using h1 0 _ rfl, by simpa [Nat.add_assoc] using h1 1 _ rfl, by simpa [Nat.add_assoc] using h1 2 _ rfl, tk, tv, nk, nv⟩

set_option maxHeartbeats 4000000 in
theorem all_any (X : List Nat) (ao : Option Addr) (la ca : Nat) (xs : List Int) (w : World) (ha : Tx w ao la ca xs) (sa : la ≤ 900000000) (hX : ∀ q ∈ X, q < w.heap.size) :
    Calls Try.prog 28 #[.slice ao la ca] w fun e w' => AllPost X w xs e w' := by
  have hXs : ∀ q ∈ w.heap.size :: (w.heap.size + 1) :: X, q < w.heap.size + 2 := by
    intro q hq
    rcases List.mem_cons.1 hq with rfl | hq
    · omega
    · rcases List.mem_cons.1 hq with rfl | hq
      · omega
      · have := hX q hq; omega
  have hmf : ∀ (fn : Fn) (first cap : Array Value) (w : World), (Instr.makeFunc fn first cap).run Try.prog w = .ok (.func fn first cap) w := fun _ _ _ _ => rfl
  have H0 := Held.two w
  have hsz : ((w.alloc (.cells #[.slice none 0 0] 22)).alloc (.cells #[.int .i64 0] 35)).heap.size = w.heap.size + 2 := by simp
  have hl := ha.len_eq
  go_enter_defers Try.func28, Try.ntmps28
  go_wp2_with fail
  generalize ((w.alloc (.cells #[.slice none 0 0] 22)).alloc (.cells #[.int .i64 0] 35)) = V0 at H0 hsz ⊢
  have hrd := readents_any (w.heap.size :: (w.heap.size + 1) :: X) ao la ca xs V0 (ha.later H0.bel) sa (by rw [hsz]; exact hXs)
  with_reducible refine hrd.mono ?_
  clear hrd
  rintro e w1 (⟨es, bo, m, cb, hp, rfl, ls1, b1⟩ | ⟨hp, rfl, b1⟩)
  rotate_left
  · have H1 := H0.off (S := []) (.of_below b1) (by simp)
    have hno : allB xs = none := by rw [allB_read, hp]
    go_wp2
    refine leaves_cons (f := 51) (args := #[.pointer (some ⟨w.heap.size, 0, none⟩), .pointer (some ⟨w.heap.size + 1, 0, none⟩)]) (by simp) (by simp [go_sem]) ?_
    refine (catch_panicking w _ _ _ H1 _ _ _).mono ?_
    rintro e u' w'' ⟨rfl, rfl, HF⟩
    have hfin := all_no (X := X) hno HF
    have c0 := HF.c0
    have c1 := HF.c1
    simp [Leaves, settle, results, Try.results28, go_sem, c0, c1]
    exact hfin
  · have H1 := H0.off (S := []) (.of_below b1) (by simp)
    have H2 := H1.set (.slice bo m cb)
    have hk1 := H1.c0
    have hz1 := H1.f0
    have hXo : ∀ (V : World), Off (w.heap.size :: (w.heap.size + 1) :: X) w1 V → Ls 25 3 (REx (w.heap.size :: (w.heap.size + 1) :: X)) V V0.heap.size (.slice bo m cb) es := fun V ho => ls1.offX ho (fun q hq h => by have := (ls1.lt q hq).2; have := hXs q h; omega)
    have ls2 := hXo _ ((Off.refl (w.heap.size :: (w.heap.size + 1) :: X) w1).setCell (p := ⟨w.heap.size, 0, none⟩) (by simp) (.slice bo m cb))
    have hpos := readL_pos hp
    have hkl := readL_len hp (by omega)
    have hall : Hid (allB xs = if validB es xs = true then some es else none) := by show _ = _; rw [allB_read, hp]
    have hk2 := H2.c0
    clear hp hXo ls1
    go_wp2_with fail
    generalize w1.setCell ⟨w.heap.size, 0, none⟩ (.slice bo m cb) = V1 at H2 ls2 hk2 ⊢
    have hbu := build_any bo m cb es V1 ls2.readX hkl
    with_reducible refine hbu.mono ?_
    clear hbu
    intro e w2 hpost
    have hb2 : Below V1.heap.size V1 w2 := by rcases hpost with ⟨_, _, h⟩ | ⟨_, _, _, h⟩ | ⟨_, _, _, _, _, _, _, h⟩ <;> exact h
    have H3 := H2.off (S := []) (.of_below hb2) (by simp)
    have ls3 := ls2.later (REx.st _) hb2
    have tb := ha.later H3.bel
    have hcase : ∃ (bo' : Option Addr) (lb' cb' : Nat) (z : Int) (ys : List Int), e = .returned (.tuple #[.slice bo' lb' cb', .int .i64 z]) ∧ Tx w2 bo' lb' cb' ys ∧ Hid ((ys == xs) = validB es xs) := by
      rcases hpost with ⟨h1, rfl, _⟩ | ⟨h1, h2, rfl, _⟩ | ⟨h1, h2, bo', lb', cb', rfl, g, _⟩
      · refine ⟨none, 0, 0, 1, [], rfl, Tx.nil _, ?_⟩
        show _ = _
        simp [validB, h1]; exact hpos
      · refine ⟨none, 0, 0, 3, [], rfl, Tx.nil _, ?_⟩
        show _ = _
        simp [validB, h2]; exact hpos
      · refine ⟨bo', lb', cb', 0, _, rfl, g.tx, ?_⟩
        show _ = _
        simp [validB, h1, h2]
    clear hpost
    obtain ⟨bo', lb', cb', z, ys, rfl, ty, hys⟩ := hcase
    have heq := bequal_any bo' ao lb' cb' la ca ys xs w2 ty tb (validB es xs) hys.out
    cases hv : validB es xs with
    | false =>
      rw [hv] at heq
      have hno : allB xs = none := by rw [hall.out, hv]; rfl
      clear hys hall hv
      go_wp2_with (go_at_call 46; with_reducible refine heq.mono ?_; rintro e w3 ⟨rfl, rfl⟩)
      refine leaves_cons (f := 51) (args := #[.pointer (some ⟨w.heap.size, 0, none⟩), .pointer (some ⟨w.heap.size + 1, 0, none⟩)]) (by simp) (by simp [go_sem]) ?_
      refine (catch_panicking w _ _ _ H3 _ _ _).mono ?_
      rintro e u' w'' ⟨rfl, rfl, HF⟩
      have hfin := all_no (X := X) hno HF
      have c0 := HF.c0
      have c1 := HF.c1
      simp [Leaves, settle, results, Try.results28, go_sem, c0, c1]
      exact hfin
    | true =>
      rw [hv] at heq
      have hyes : Hid (allB xs = some es) := by show _ = _; rw [hall.out, hv]; rfl
      clear hys hall hv
      have HF := (H3.set (.slice bo m cb)).set1 0
      have O6 : Off (w.heap.size :: (w.heap.size + 1) :: X) w2 ((w2.setCell ⟨w.heap.size, 0, none⟩ (.slice bo m cb)).setCell ⟨w.heap.size + 1, 0, none⟩ (.int .i64 0)) := ((Off.refl _ _).setCell (p := ⟨w.heap.size, 0, none⟩) (by simp) _).setCell (p := ⟨w.heap.size + 1, 0, none⟩) (by simp) _
      have hx9 := ((ls3.offX O6 (fun q hq h => by have := (ls3.lt q hq).2; have := hXs q h; omega)).less (Y := X) (C := 0) (fun k hk => by simp [hk]) (by omega)).readY
      obtain ⟨_, k0, k1, l0, l1⟩ := H3
      go_wp2_with (go_at_call 46; with_reducible refine heq.mono ?_; rintro e w3 ⟨rfl, rfl⟩)
      refine leaves_cons (f := 51) (args := #[.pointer (some ⟨w.heap.size, 0, none⟩), .pointer (some ⟨w.heap.size + 1, 0, none⟩)]) (by simp) (by simp [go_sem]) ?_
      refine (catch_idle _ _ _).mono ?_
      rintro e u' w'' ⟨rfl, rfl, rfl⟩
      have c0 := HF.c0
      have c1 := HF.c1
      have hB := HF.bel
      generalize (w2.setCell ⟨w.heap.size, 0, none⟩ (.slice bo m cb)).setCell ⟨w.heap.size + 1, 0, none⟩ (.int .i64 0) = F at c0 c1 hB hx9 ⊢
      simp [Leaves, settle, results, Try.results28, go_sem, c0, c1]
      exact .inl ⟨es, bo, m, cb, hyes.out, rfl, hx9, hB⟩

end Go.Proofs.Yteeemfohehpaeaa
