/- The walk of mem.own: an entry in memory of its own. -/
import Derived.Test.YtjbppedphadenaaMMod
namespace Go.Proofs.Ytjbppedphadenaa
set_option maxRecDepth 100000
open Go.RowKit Go.Sort

/-- Bytes of the call's own, from B on. -/
structure Nw (B : Nat) (w : World) (ao : Option Addr) (l c : Nat) (xs : List Int) : Prop where
  tx : Tx w ao l c xs
  own : w.ownsRow B 5 1 (.slice ao l c) l (xs.map (Value.int .u8))
  far : ∀ ad, ao = some ad → B ≤ ad.block
theorem Nw.nil (B : Nat) (w : World) : Nw B w none 0 0 [] := ⟨Tx.nil _, ⟨rfl, .inl ⟨rfl, rfl⟩⟩, fun _ h => by cases h⟩
theorem Nw.later {B : Nat} {w w' : World} {ao : Option Addr} {l c : Nat} {xs : List Int} (h : Nw B w ao l c xs) (hb : Below w.heap.size w w') : Nw B w' ao l c xs := ⟨h.tx.later hb, own_later h.own hb, h.far⟩
theorem Nw.mono {B C : Nat} {w : World} {ao : Option Addr} {l c : Nat} {xs : List Int} (h : Nw C w ao l c xs) (hBC : B ≤ C) : Nw B w ao l c xs := ⟨h.tx, ⟨h.own.1, h.own.2.imp id (fun ⟨g, cap, cur, e, hb, r⟩ => ⟨g, cap, cur, e, Nat.le_trans hBC hb, r⟩)⟩, fun ad ha => Nat.le_trans hBC (h.far ad ha)⟩
theorem bclone2_any (ao : Option Addr) (la ca : Nat) (xs : List Int) (w : World) (ha : Tx w ao la ca xs) (hl : la ≤ 1000000000) :
    Calls Try.prog 31 #[.slice ao la ca] w fun e w' => ∃ bo cb, e = .returned (.slice bo la cb) ∧ Nw w.heap.size w' bo la cb xs ∧ Below w.heap.size w w' := by
  cases ao with
  | none =>
    obtain ⟨rfl, rfl⟩ := ha.bare rfl
    have hx : xs = [] := List.eq_nil_of_length_eq_zero ha.len_eq
    subst hx
    have hq : ∀ w, (binOp .eql 24 (.slice none 0 0) (.slice none 0 0)).run Try.prog w = .ok (.bool true) w := fun _ => by kernel_rfl
    go_enter Try.func31, Try.ntmps31
    go_wp2
    go_ret
    exact ⟨none, 0, rfl, Nw.nil _ _, Below.refl _ _⟩
  | some a =>
    have hq := fun wx => Lib.run_eql_slice_nil (P := Try.prog) wx 24 5 (some a) la ca 0 0 Try.underlying24
    go_enter Try.func31, Try.ntmps31
    have hi : (some a).isNone = false := rfl
    rw [hi] at hq
    go_wp2_with (with_reducible show wpList _ _ _ (⟨some 7, _, _, _, _, _⟩ :: _) _ _; refine wpList_append_bytes _ rfl _ _ rfl w.heap.size (.slice (some ⟨w.heap.size, 0, none⟩) 0 0) 0 [] rfl (own_empty w) (by simp) (some a) la ca xs rfl (ha.alloc _) (by omega) (by simp) ?_; intro a5 l5 c5 w5 hl5 hown5 htx5 b5)
    go_ret
    rw [Nat.zero_add] at hl5
    subst hl5
    exact ⟨a5, c5, rfl, ⟨htx5, hown5, fun ad h => (own_lt hown5 ad.block (by subst h; simp [own, Value.ownBlock])).2⟩, ((Below.refl _ _).alloc (Nat.le_refl _) _).trans b5⟩

theorem below_set3 {B : Nat} {V W : World} (h : Below B V W) {p : Nat} (hp : B ≤ p) (a b c : Value) : Below B V (((W.setCell ⟨p, 0, none⟩ a).setCell ⟨p, 1, none⟩ b).setCell ⟨p, 2, none⟩ c) :=
  ((h.setCell (p := ⟨p, 0, none⟩) hp a).setCell (p := ⟨p, 1, none⟩) hp b).setCell (p := ⟨p, 2, none⟩) hp c
theorem off_set3 (W : World) (p : Nat) (a b c : Value) : Off [p] W (((W.setCell ⟨p, 0, none⟩ a).setCell ⟨p, 1, none⟩ b).setCell ⟨p, 2, none⟩ c) :=
  (((Off.refl [p] W).setCell (p := ⟨p, 0, none⟩) (by simp) a).setCell (p := ⟨p, 1, none⟩) (by simp) b).setCell (p := ⟨p, 2, none⟩) (by simp) c
theorem Nw.off {S : List Nat} {B : Nat} {w w' : World} {ao : Option Addr} {l c : Nat} {xs : List Int} (h : Nw B w ao l c xs) (ho : Off S w w') (hs : ∀ ad, ao = some ad → ad.block ∉ S) : Nw B w' ao l c xs :=
  ⟨h.tx.off ho (fun ad ha _ => hs ad ha), rows_offB h.own ho (fun k hk => by
    cases ao with
    | none => simp [Go.Proofs.Ytjbppedphadenaa.own, Value.ownBlock] at hk
    | some a => simp [Go.Proofs.Ytjbppedphadenaa.own, Value.ownBlock] at hk; subst hk; exact hs a rfl), h.far⟩
theorem Box.set1 {W : World} {p : Nat} {k v v' : Value} {g : Bool} (h : Boxf W p k v g) : Boxf (W.setCell ⟨p, 1, none⟩ v') p k v' g :=
  ⟨by rw [World.cell?_setCell_other _ _ _ _ (by simp)]; exact h.c0, World.cell?_setCell_same _ _ _ h.c1, by rw [World.cell?_setCell_other _ _ _ _ (by simp)]; exact h.c2, fun j => by rw [World.frozen?_setCell]; exact h.z j⟩

set_option maxHeartbeats 4000000 in
theorem own_any (ko : Option Addr) (kl kc : Nat) (vo : Option Addr) (vl vc : Nat) (G : Bool) (ks vs : List Int) (w : World) (tk : Tx w ko kl kc ks) (tv : Tx w vo vl vc vs) (sk : kl ≤ 1000000000) (sv : vl ≤ 1000000000) :
    Calls Try.prog 22 #[.agg #[.slice ko kl kc, .slice vo vl vc, .bool G]] w fun e w' => ∃ (ko' : Option Addr) (kc' : Nat) (vo' : Option Addr) (vl' vc' : Nat), e = .returned (.agg #[.slice ko' kl kc', .slice vo' vl' vc', .bool G]) ∧ Nw w.heap.size w' ko' kl kc' ks ∧ Nw w.heap.size w' vo' vl' vc' (if G = true then [] else vs) ∧ Below w.heap.size w w' := by
  have bB : Below w.heap.size w ((w.alloc (.cells #[.slice ko kl kc, .slice vo vl vc, .bool G] 26)).alloc (.cells #[.slice none 0 0, .slice none 0 0, .bool false] 26)) := ((Below.refl _ _).alloc (Nat.le_refl _) _).alloc (by simp) _
  have bx1 : Box ((w.alloc (.cells #[.slice ko kl kc, .slice vo vl vc, .bool G] 26)).alloc (.cells #[.slice none 0 0, .slice none 0 0, .bool false] 26)) w.heap.size (.slice ko kl kc) (.slice vo vl vc) G := (Box.new w _ _ _).later ((Below.refl _ _).alloc (Nat.le_refl _) _)
  have bx2 := Boxf.new' (w.alloc (.cells #[.slice ko kl kc, .slice vo vl vc, .bool G] 26)) (.slice none 0 0) (.slice none 0 0) false
  rw [show (w.alloc (.cells #[.slice ko kl kc, .slice vo vl vc, .bool G] 26)).heap.size = w.heap.size + 1 by simp] at bx2
  go_enter Try.func22, Try.ntmps22
  go_wp2_with fail

  generalize ((w.alloc (.cells #[.slice ko kl kc, .slice vo vl vc, .bool G] 26)).alloc (.cells #[.slice none 0 0, .slice none 0 0, .bool false] 26)) = V at bB bx1 bx2 ⊢
  have tkV := tk.later bB
  have tvV := tv.later bB
  obtain ⟨x0, x1, x2⟩ := bx1
  have hcl := fun (W : World) (h : Below V.heap.size V W) => bclone2_any ko kl kc ks W (tkV.later h) sk
  have hkp := fun (W : World) (h : Below V.heap.size V W) => held2 x0 x2 h
  have hal : ∀ (W : World) (o : Obj), Below V.heap.size V W → Below V.heap.size V (W.alloc o) := fun W o h => h.alloc h.size _
  have b0 : Below V.heap.size V V.drew := (Below.refl _ _).drew
  have bA : Below V.heap.size V (V.alloc (.cells #[.slice none 0 0, .slice none 0 0, .bool false] 26)).drew := ((Below.refl _ _).alloc (Nat.le_refl _) _).drew
  have bxA := Boxf.new V (.slice none 0 0) (.slice none 0 0) false
  go_region_held (fun w' => w'.cell? ⟨w.heap.size, 0, none⟩ = some (.slice ko kl kc) ∧ w'.cell? ⟨w.heap.size, 2, none⟩ = some (.bool G) ∧ Below V.heap.size V w') (first | assumption | exact hkp _ b0 | exact hkp _ (hal _ _ b0) | exact hkp _ bA | exact hkp _ B1 | exact hkp _ (hal _ _ B1) | exact hkp _ (below_set3 B1 (Nat.le_refl _) _ _ _))
    (first
    | (go_at_call 31; with_reducible refine (hcl (V.alloc (.cells #[.slice none 0 0, .slice none 0 0, .bool false] 26)).drew bA).mono ?_; rintro r w1 ⟨bo, cb, rfl, nk, b1⟩; have B1 := below_tr2 bA b1; obtain ⟨y0, y1, y2, yz⟩ := bxA.off (S := []) (.of_below b1) (by simp); have yz0 := yz 0; have yz1 := yz 1; have yz2 := yz 2)
    | (go_at_call 31; with_reducible refine (hcl V.drew b0).mono ?_; rintro r w1 ⟨bo, cb, rfl, nk, b1⟩; have B1 := below_tr2 b0 b1))
  · have F := Boxf.new' w1 (.slice bo kl cb) (.slice none 0 0) G
    have bU := hal w1 (.cells #[.slice bo kl cb, .slice none 0 0, .bool G] 26) B1
    have nU0 := nk.later ((Below.refl w1.heap.size w1).alloc (Nat.le_refl _) (.cells #[.slice bo kl cb, .slice none 0 0, .bool G] 26))
    have hp := B1.size
    have hfar : ∀ ad, bo = some ad → V.heap.size ≤ ad.block := nk.far
    have hVw : w.heap.size ≤ V.heap.size := bB.size
    have nU1 : Nw V.heap.size _ bo kl cb ks := nU0.mono (Nat.le_refl _)
    clear nU0
    have hV2 : w.heap.size + 1 < V.heap.size := bx2.lt
    generalize w1.alloc (.cells #[.slice bo kl cb, .slice none 0 0, .bool G] 26) = U at F bU nU1 ⊢
    have hne : ∀ ad, bo = some ad → ad.block ≠ w1.heap.size := fun ad ha h => by have h0 := nk.own; have := own_lt nk.own ad.block (by subst ha; simp [own, Value.ownBlock]); omega
    generalize w1.heap.size = p at F hp hne ⊢
    have x2U := cell_later bU x2
    have x1U := cell_later bU x1
    have bx2U := bx2.off (S := []) (.of_below bU) (by simp)
    have tvU := tvV.later bU
    have hpw : w.heap.size + 1 ≠ p := by omega
    have bwU := bB.trans (bU.mono hVw)
    have nU := nU1.mono (B := w.heap.size) (by omega)
    clear nk b1 B1 hcl hkp hal b0 bA bxA tkV tvV bB x0 x1 x2 bx2 tk tv
    cases G with
    | true =>
      obtain ⟨f0, f1, f2, fz⟩ := F
      obtain ⟨r0, r1, r2, rz⟩ := bx2U
      have rz0 := rz 0
      have rz1 := rz 1
      have rz2 := rz 2
      have q := Boxf.set U (w.heap.size + 1) (.slice bo kl cb) (.slice none 0 0) _ _ ⟨r0, r1, r2, rz⟩ true
      have O := off_set3 U (w.heap.size + 1) (.slice bo kl cb) (.slice none 0 0) (.bool true)
      have bE := below_set3 bwU (p := w.heap.size + 1) (by omega) (.slice bo kl cb) (.slice none 0 0) (.bool true)
      have nE := nU.off O (fun ad ha => by have := hfar ad ha; simp; omega)
      go_wp2
      generalize ((U.setCell ⟨w.heap.size + 1, 0, none⟩ (.slice bo kl cb)).setCell ⟨w.heap.size + 1, 1, none⟩ (.slice none 0 0)).setCell ⟨w.heap.size + 1, 2, none⟩ (.bool true) = Z at q bE nE ⊢
      obtain ⟨q0, q1, q2, _⟩ := q
      exact bodyPost_ret (v := .agg #[.slice bo kl cb, .slice none 0 0, .bool true]) (by simp [results, Try.results22, go_sem, q0, q1, q2]) rfl ⟨bo, cb, none, 0, 0, rfl, nE, Nw.nil _ _, bE⟩
    | false =>
      have hcl2 := bclone2_any vo vl vc vs U tvU sv
      go_wp2_with fail
      with_reducible refine hcl2.mono ?_
      clear hcl2
      rintro r W2 ⟨vo', vc', rfl, nv, b2⟩
      have F2 := F.off (S := []) (.of_below b2) (by simp)
      have R2 := bx2U.off (S := []) (.of_below b2) (by simp)
      have z1 := F2.z 1
      have pw : p < U.heap.size := F.lt
      have rz0 := R2.z 0
      have rz1 := R2.z 1
      have rz2 := R2.z 2
      have F3 : Boxf (W2.setCell ⟨p, 1, none⟩ (.slice vo' vl vc')) p (.slice bo kl cb) (.slice vo' vl vc') false := Box.set1 F2
      have R3 := R2.off (S := [p]) ((Off.refl [p] W2).setCell (p := ⟨p, 1, none⟩) (by simp) (.slice vo' vl vc')) (by simp; omega)
      have O := off_set3 (W2.setCell ⟨p, 1, none⟩ (.slice vo' vl vc')) (w.heap.size + 1) (.slice bo kl cb) (.slice vo' vl vc') (.bool false)
      have O1 := (Off.refl [p] W2).setCell (p := ⟨p, 1, none⟩) (by simp) (.slice vo' vl vc')
      have bE := below_set3 ((bwU.trans (b2.mono bwU.size)).setCell (p := ⟨p, 1, none⟩) (show w.heap.size ≤ p by omega) (.slice vo' vl vc')) (p := w.heap.size + 1) (by omega) (.slice bo kl cb) (.slice vo' vl vc') (.bool false)
      have nE := ((nU.later b2).off O1 (fun ad ha => by have := hne ad ha; simp; omega)).off O (fun ad ha => by have := hfar ad ha; simp; omega)
      have vE := ((nv.mono (B := w.heap.size) (by have := bwU.size; omega)).off O1 (fun ad ha => by have := nv.far ad ha; simp; omega)).off O (fun ad ha => by have := nv.far ad ha; have := bU.size; simp; omega)
      have q := Boxf.set (W2.setCell ⟨p, 1, none⟩ (.slice vo' vl vc')) (w.heap.size + 1) (.slice bo kl cb) (.slice vo' vl vc') _ _ R3 false
      obtain ⟨e0, e1, e2, _⟩ := F3
      obtain ⟨r0, r1, r2, _⟩ := R3
      obtain ⟨g0, g1, g2, _⟩ := F2
      go_wp2
      generalize ((((W2.setCell ⟨p, 1, none⟩ (.slice vo' vl vc')).setCell ⟨w.heap.size + 1, 0, none⟩ (.slice bo kl cb)).setCell ⟨w.heap.size + 1, 1, none⟩ (.slice vo' vl vc')).setCell ⟨w.heap.size + 1, 2, none⟩ (.bool false)) = Z at q bE nE vE ⊢
      obtain ⟨q0, q1, q2, _⟩ := q
      exact bodyPost_ret (v := .agg #[.slice bo kl cb, .slice vo' vl vc', .bool false]) (by simp [results, Try.results22, go_sem, q0, q1, q2]) rfl ⟨bo, cb, vo', vl, vc', rfl, nE, vE, bE⟩
  · have F : Boxf (((w1.setCell ⟨V.heap.size, 0, none⟩ (.slice bo kl cb)).setCell ⟨V.heap.size, 1, none⟩ (.slice none 0 0)).setCell ⟨V.heap.size, 2, none⟩ (.bool G)) V.heap.size (.slice bo kl cb) (.slice none 0 0) G := Boxf.set w1 V.heap.size (.slice bo kl cb) (.slice none 0 0) _ _ ⟨y0, y1, y2, yz⟩ G
    have bU := below_set3 B1 (Nat.le_refl V.heap.size) (.slice bo kl cb) (.slice none 0 0) (.bool G)
    have hsA : V.heap.size < (V.alloc (.cells #[.slice none 0 0, .slice none 0 0, .bool false] 26)).drew.heap.size := bxA.lt
    have hne : ∀ ad, bo = some ad → ad.block ≠ V.heap.size := fun ad ha h => by have := nk.far ad ha; omega
    have nU0 := nk.off (off_set3 w1 V.heap.size (.slice bo kl cb) (.slice none 0 0) (.bool G)) (fun ad ha => by have := hne ad ha; simpa using this)
    have hp : V.heap.size ≤ V.heap.size := Nat.le_refl _
    have hfar : ∀ ad, bo = some ad → V.heap.size ≤ ad.block := fun ad ha => by have := nk.far ad ha; omega
    have hVw : w.heap.size ≤ V.heap.size := bB.size
    have nU1 := nU0.mono (B := V.heap.size) (by omega)
    clear nU0
    have hV2 : w.heap.size + 1 < V.heap.size := bx2.lt
    clear y0 y1 y2 yz yz0 yz1 yz2
    generalize ((w1.setCell ⟨V.heap.size, 0, none⟩ (.slice bo kl cb)).setCell ⟨V.heap.size, 1, none⟩ (.slice none 0 0)).setCell ⟨V.heap.size, 2, none⟩ (.bool G) = U at F bU nU1 ⊢
    obtain ⟨p, hpe⟩ : ∃ p, Hid (p = V.heap.size) := ⟨_, rfl⟩
    rw [← hpe.out] at F hne ⊢
    have hp : V.heap.size ≤ p := by rw [hpe.out]; exact Nat.le_refl _
    have x2U := cell_later bU x2
    have x1U := cell_later bU x1
    have bx2U := bx2.off (S := []) (.of_below bU) (by simp)
    have tvU := tvV.later bU
    have hpw : w.heap.size + 1 ≠ p := by omega
    have bwU := bB.trans (bU.mono hVw)
    have nU := nU1.mono (B := w.heap.size) (by omega)
    clear nk b1 B1 hcl hkp hal b0 bA bxA tkV tvV bB x0 x1 x2 bx2 tk tv
    cases G with
    | true =>
      obtain ⟨f0, f1, f2, fz⟩ := F
      obtain ⟨r0, r1, r2, rz⟩ := bx2U
      have rz0 := rz 0
      have rz1 := rz 1
      have rz2 := rz 2
      have q := Boxf.set U (w.heap.size + 1) (.slice bo kl cb) (.slice none 0 0) _ _ ⟨r0, r1, r2, rz⟩ true
      have O := off_set3 U (w.heap.size + 1) (.slice bo kl cb) (.slice none 0 0) (.bool true)
      have bE := below_set3 bwU (p := w.heap.size + 1) (by omega) (.slice bo kl cb) (.slice none 0 0) (.bool true)
      have nE := nU.off O (fun ad ha => by have := hfar ad ha; simp; omega)
      go_wp2
      generalize ((U.setCell ⟨w.heap.size + 1, 0, none⟩ (.slice bo kl cb)).setCell ⟨w.heap.size + 1, 1, none⟩ (.slice none 0 0)).setCell ⟨w.heap.size + 1, 2, none⟩ (.bool true) = Z at q bE nE ⊢
      obtain ⟨q0, q1, q2, _⟩ := q
      exact bodyPost_ret (v := .agg #[.slice bo kl cb, .slice none 0 0, .bool true]) (by simp [results, Try.results22, go_sem, q0, q1, q2]) rfl ⟨bo, cb, none, 0, 0, rfl, nE, Nw.nil _ _, bE⟩
    | false =>
      have hcl2 := bclone2_any vo vl vc vs U tvU sv
      go_wp2_with fail
      with_reducible refine hcl2.mono ?_
      clear hcl2
      rintro r W2 ⟨vo', vc', rfl, nv, b2⟩
      have F2 := F.off (S := []) (.of_below b2) (by simp)
      have R2 := bx2U.off (S := []) (.of_below b2) (by simp)
      have z1 := F2.z 1
      have pw : p < U.heap.size := F.lt
      have rz0 := R2.z 0
      have rz1 := R2.z 1
      have rz2 := R2.z 2
      have F3 : Boxf (W2.setCell ⟨p, 1, none⟩ (.slice vo' vl vc')) p (.slice bo kl cb) (.slice vo' vl vc') false := Box.set1 F2
      have R3 := R2.off (S := [p]) ((Off.refl [p] W2).setCell (p := ⟨p, 1, none⟩) (by simp) (.slice vo' vl vc')) (by simp; omega)
      have O := off_set3 (W2.setCell ⟨p, 1, none⟩ (.slice vo' vl vc')) (w.heap.size + 1) (.slice bo kl cb) (.slice vo' vl vc') (.bool false)
      have O1 := (Off.refl [p] W2).setCell (p := ⟨p, 1, none⟩) (by simp) (.slice vo' vl vc')
      have bE := below_set3 ((bwU.trans (b2.mono bwU.size)).setCell (p := ⟨p, 1, none⟩) (show w.heap.size ≤ p by omega) (.slice vo' vl vc')) (p := w.heap.size + 1) (by omega) (.slice bo kl cb) (.slice vo' vl vc') (.bool false)
      have nE := ((nU.later b2).off O1 (fun ad ha => by have := hne ad ha; simp; omega)).off O (fun ad ha => by have := hfar ad ha; simp; omega)
      have vE := ((nv.mono (B := w.heap.size) (by have := bwU.size; omega)).off O1 (fun ad ha => by have := nv.far ad ha; simp; omega)).off O (fun ad ha => by have := nv.far ad ha; have := bU.size; simp; omega)
      have q := Boxf.set (W2.setCell ⟨p, 1, none⟩ (.slice vo' vl vc')) (w.heap.size + 1) (.slice bo kl cb) (.slice vo' vl vc') _ _ R3 false
      obtain ⟨e0, e1, e2, _⟩ := F3
      obtain ⟨r0, r1, r2, _⟩ := R3
      obtain ⟨g0, g1, g2, _⟩ := F2
      go_wp2
      generalize ((((W2.setCell ⟨p, 1, none⟩ (.slice vo' vl vc')).setCell ⟨w.heap.size + 1, 0, none⟩ (.slice bo kl cb)).setCell ⟨w.heap.size + 1, 1, none⟩ (.slice vo' vl vc')).setCell ⟨w.heap.size + 1, 2, none⟩ (.bool false)) = Z at q bE nE vE ⊢
      obtain ⟨q0, q1, q2, _⟩ := q
      exact bodyPost_ret (v := .agg #[.slice bo kl cb, .slice vo' vl vc', .bool false]) (by simp [results, Try.results22, go_sem, q0, q1, q2]) rfl ⟨bo, cb, vo', vl, vc', rfl, nE, vE, bE⟩
theorem Off.trans2 {S T : List Nat} {a b c : World} (h : Off S a b) (k : Off T b c) (ht : ∀ x ∈ T, x ∈ S ∨ a.heap.size ≤ x) : Off S a c :=
  ⟨k.os.trans h.os, k.tape.trans h.tape, k.output.trans h.output, Nat.le_trans h.size k.size, fun i hi hn => (k.block i (Nat.lt_of_lt_of_le hi h.size) (fun e => (ht i e).elim hn (fun e => by omega))).trans (h.block i hi hn)⟩
theorem norm_val (e : Ent) {G : Bool} (h : e.g = G) : (norm e).v = if G = true then [] else e.v := by
  unfold norm
  rw [h]
  split
  · rename_i hg; simp
  · rename_i hg; simp

end Go.Proofs.Ytjbppedphadenaa
