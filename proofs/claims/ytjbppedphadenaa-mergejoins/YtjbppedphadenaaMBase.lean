/- What texts of elder seats are wanted here: plain facts, the walks of bytes.Equal, the document's own Range and Get. -/
import Derived.Test.YtjbppedphadenaaPA
import Derived.Test.YtjbppedphadenaaPB
import Derived.Test.YtjbppedphadenaaPC
import Derived.Test.YtjbppedphadenaaFWalksH
import Derived.Test.YtjbppedphadenaaFWalksI
import Derived.Test.YtjbppedphadenaaBLaw
import Derived.Lib.SmallJoins
namespace Go.Proofs.Ytjbppedphadenaa
set_option maxRecDepth 100000
open Go.RowKit Go.Sort

theorem lessB_pos {p k : List Int} (h : lessB p k = true) : 1 ≤ k.length := by
  cases k with
  | nil => cases p <;> simp [lessB] at h
  | cons a k => simp
theorem take_snoc (l : List Ent) (k : Nat) (e : Ent) (h : l[k]? = some e) : l.take (k + 1) = l.take k ++ [e] := by
  obtain ⟨hk, rfl⟩ := List.getElem?_eq_some_iff.1 h
  rw [List.take_succ_eq_append_getElem hk]
theorem str_less (xs ys : List Int) (hx : ∀ n ∈ xs, 0 ≤ n ∧ n ≤ 255) (hy : ∀ n ∈ ys, 0 ≤ n ∧ n ≤ 255) : Op.bytesLess (strOfNums xs).toList (strOfNums ys).toList = lessB xs ys := by
  rw [← bytesLess_nums xs ys hx hy]; simp [ByteArray.toList_eq, strOfNums]
theorem bequal_any (ao bo : Option Addr) (la ca lb cb : Nat) (xs ys : List Int) (w : World) (ha : Tx w ao la ca xs) (hb : Tx w bo lb cb ys) (F : Bool) (hF : (xs == ys) = F) :
    Calls Try.prog 32 #[.slice ao la ca, .slice bo lb cb] w fun e w' => e = .returned (.bool F) ∧ w = w' := by
  have s1 := ha.string
  have s2 := hb.string
  cases F with
  | true =>
    have e : xs = ys := by simpa using hF
    subst e
    generalize strOfNums xs = S at s1 s2
    go_enter Try.func32, Try.ntmps32
    go_wp2
    go_ret
    exact ⟨ret_bool (by simp), rfl⟩
  | false =>
    have e : ¬ xs = ys := by simpa using hF
    have hne := str_ne ha.rng hb.rng e
    generalize strOfNums xs = S at s1 hne
    generalize strOfNums ys = T at s2 hne
    go_enter Try.func32, Try.ntmps32
    go_wp2
    go_ret
    exact ⟨ret_bool (by simp [hne]), rfl⟩
theorem below_tr2 {a b c : World} (h : Below a.heap.size a b) (k : Below b.heap.size b c) : Below a.heap.size a c := h.trans (k.mono h.size)
theorem own_empty2 (w : World) : Gr w.heap.size (w.alloc (.cells #[] 5)) (some ⟨w.heap.size, 0, none⟩) 0 0 [] := ⟨own_empty w, by simp, by simp⟩
theorem Boxf.new' (w : World) (k v : Value) (g : Bool) : Boxf (w.alloc (.cells #[k, v, .bool g] 26)) w.heap.size k v g :=
  ⟨(Box.new w k v g).c0, (Box.new w k v g).c1, (Box.new w k v g).c2, fun j => frozen_of_row (w.alloc (.cells #[k, v, .bool g] 26)) w.heap.size j _ 26 (heap_alloc_new w _)⟩
theorem Off.setNew {S : List Nat} {a w : World} (h : Off S a w) {p : Addr} (hp : a.heap.size ≤ p.block) (u : Value) : Off S a (w.setCell p u) :=
  ⟨h.os, h.tape, h.output, Nat.le_trans h.size (by simp [World.setCell]), fun k hk hn => (Below.heap_setCell _ _ _ _ (fun e => by omega)).trans (h.block k hk hn)⟩
theorem Boxf.off {S : List Nat} {w w' : World} {bx : Nat} {k v : Value} {g : Bool} (h : Boxf w bx k v g) (ho : Off S w w') (hn : bx ∉ S) : Boxf w' bx k v g :=
  ⟨ho.cell h.c0 hn, ho.cell h.c1 hn, ho.cell h.c2 hn, fun j => by rw [World.frozen?_of_block (w := w) (ho.block bx (World.block_lt_of_cell? _ _ h.c0) hn)]; exact h.z j⟩
/-- The box is written whole. -/
theorem box_set (w : World) (bx : Nat) (k v a b : Value) (h : Boxf w bx a b false) (c : Value) :
    (((w.setCell ⟨bx, 0, none⟩ k).setCell ⟨bx, 1, none⟩ v).setCell ⟨bx, 2, none⟩ c).cell? ⟨bx, 0, none⟩ = some k ∧ (((w.setCell ⟨bx, 0, none⟩ k).setCell ⟨bx, 1, none⟩ v).setCell ⟨bx, 2, none⟩ c).cell? ⟨bx, 1, none⟩ = some v ∧ (((w.setCell ⟨bx, 0, none⟩ k).setCell ⟨bx, 1, none⟩ v).setCell ⟨bx, 2, none⟩ c).cell? ⟨bx, 2, none⟩ = some c := by
  have e0 : (w.setCell ⟨bx, 0, none⟩ k).cell? ⟨bx, 0, none⟩ = some k := World.cell?_setCell_same _ _ _ h.c0
  have e1 : (w.setCell ⟨bx, 0, none⟩ k).cell? ⟨bx, 1, none⟩ = some b := by rw [World.cell?_setCell_other _ _ _ _ (by simp)]; exact h.c1
  have e2 : (w.setCell ⟨bx, 0, none⟩ k).cell? ⟨bx, 2, none⟩ = some (.bool false) := by rw [World.cell?_setCell_other _ _ _ _ (by simp)]; exact h.c2
  have f0 : ((w.setCell ⟨bx, 0, none⟩ k).setCell ⟨bx, 1, none⟩ v).cell? ⟨bx, 0, none⟩ = some k := by rw [World.cell?_setCell_other _ _ _ _ (by simp)]; exact e0
  have f1 : ((w.setCell ⟨bx, 0, none⟩ k).setCell ⟨bx, 1, none⟩ v).cell? ⟨bx, 1, none⟩ = some v := World.cell?_setCell_same _ _ _ e1
  have f2 : ((w.setCell ⟨bx, 0, none⟩ k).setCell ⟨bx, 1, none⟩ v).cell? ⟨bx, 2, none⟩ = some (.bool false) := by rw [World.cell?_setCell_other _ _ _ _ (by simp)]; exact e2
  exact ⟨by rw [World.cell?_setCell_other _ _ _ _ (by simp)]; exact f0, by rw [World.cell?_setCell_other _ _ _ _ (by simp)]; exact f1, World.cell?_setCell_same _ _ _ f2⟩
theorem Boxf.set (w : World) (bx : Nat) (k v a b : Value) (h : Boxf w bx a b false) (c : Bool) : Boxf (((w.setCell ⟨bx, 0, none⟩ k).setCell ⟨bx, 1, none⟩ v).setCell ⟨bx, 2, none⟩ (.bool c)) bx k v c := by
  obtain ⟨q0, q1, q2⟩ := box_set w bx k v a b h (.bool c)
  exact ⟨q0, q1, q2, fun j => by rw [World.frozen?_setCell, World.frozen?_setCell, World.frozen?_setCell]; exact h.z j⟩
/-- Is it taken out of a range? -/
def delK (fs ts k : List Int) : Bool := lessB k fs || (decide (0 < ts.length) && !lessB k ts)
/-- The entry of a Key. -/
def getL (m : List Ent) (ks : List Int) : Option Ent := m.find? (fun e => e.k == ks)
theorem getL_some {m : List Ent} (ho : okL [] m = true) {e : Ent} (he : e ∈ m) : getL m e.k = some e := by
  cases h : getL m e.k with
  | none =>
    rw [getL, List.find?_eq_none] at h
    have := h e he
    simp at this
  | some x =>
    have h1 := List.find?_some h
    have h2 := List.mem_of_find?_eq_some h
    simp at h1
    obtain ⟨i, hi, rfl⟩ := List.getElem_of_mem he
    obtain ⟨j, hj, rfl⟩ := List.getElem_of_mem h2
    rcases Nat.lt_trichotomy i j with hij | hij | hij
    · have := okL_lt m [] ho i j _ _ hij (List.getElem?_eq_getElem hi) (List.getElem?_eq_getElem hj)
      rw [h1, lessB_irr] at this; cases this
    · subst hij; rfl
    · have := okL_lt m [] ho j i _ _ hij (List.getElem?_eq_getElem hj) (List.getElem?_eq_getElem hi)
      rw [h1, lessB_irr] at this; cases this
theorem getL_none {m : List Ent} {ks : List Int} (h : ∀ e ∈ m, ¬ e.k = ks) : getL m ks = none := by
  rw [getL, List.find?_eq_none]
  intro x hx; simp [h x hx]
theorem ins_mem (e : Ent) : ∀ (l : List Ent) (x : Ent), x ∈ insR e l → x = e ∨ x ∈ l
  | [], x, h => by simp [insR] at h; exact .inl h
  | y :: l, x, h => by
    unfold insR at h
    split at h
    · rcases List.mem_cons.1 h with rfl | h
      · exact .inr (by simp)
      · exact (ins_mem e l x h).imp_right (fun h => by simp [h])
    · split at h
      · rcases List.mem_cons.1 h with rfl | h
        · exact .inl rfl
        · exact .inr (by simp [h])
      · rcases List.mem_cons.1 h with rfl | h
        · exact .inl rfl
        · exact .inr h
theorem cut_parts2 (K V : Nat) (hK : 1 ≤ K) (e : Ent) : 1 ≤ (cutE K V e).k.length ∧ (cutE K V e).k.length ≤ K ∧ (cutE K V e).v.length ≤ V ∧ norm (cutE K V e) = cutE K V e := by
  obtain ⟨k, v, g⟩ := e
  refine ⟨?_, ?_, ?_, ?_⟩
  · show 1 ≤ (if (k.take K).length = 0 then [107] else k.take K).length
    split
    · simp
    · omega
  · show (if (k.take K).length = 0 then [107] else k.take K).length ≤ K
    split
    · simpa using hK
    · rw [List.length_take]; omega
  · show (if g = true then [] else v.take V).length ≤ V
    split
    · simp
    · rw [List.length_take]; omega
  · cases g <;> simp [cutE, norm]
def GetPost (w : World) (m : List Ent) (ks : List Int) (e : Ending) (w' : World) : Prop :=
  ((∃ en ko kl kc vo vl vc, getL m ks = some en ∧ e = .returned (.tuple #[.agg #[.slice ko kl kc, .slice vo vl vc, .bool en.g], .bool true]) ∧ Tx w' ko kl kc en.k ∧ Tx w' vo vl vc en.v) ∨ (getL m ks = none ∧ e = .returned (.tuple #[.agg #[.slice none 0 0, .slice none 0 0, .bool false], .bool false]))) ∧ Below w.heap.size w w'
theorem get_hit {w V : World} {m : List Ent} {ks : List Int} {en : Ent} {ko vo : Option Addr} {kl kc vl vc : Nat} {G : Bool} (hG : en.g = G) (h : getL m ks = some en) (hlt : ∀ ad, ko = some ad → 0 < kl → ad.block ≠ w.heap.size) (hlt2 : ∀ ad, vo = some ad → 0 < vl → ad.block ≠ w.heap.size) (tk : Tx V ko kl kc en.k) (tv : Tx V vo vl vc en.v) (hb : Below w.heap.size w V) :
    GetPost w m ks (.returned (.tuple #[.agg #[.slice ko kl kc, .slice vo vl vc, .bool G], .bool true])) (((V.setCell ⟨w.heap.size, 0, none⟩ (.slice ko kl kc)).setCell ⟨w.heap.size, 1, none⟩ (.slice vo vl vc)).setCell ⟨w.heap.size, 2, none⟩ (.bool G)) := by
  subst hG
  have O3 : Off [w.heap.size] V (((V.setCell ⟨w.heap.size, 0, none⟩ (.slice ko kl kc)).setCell ⟨w.heap.size, 1, none⟩ (.slice vo vl vc)).setCell ⟨w.heap.size, 2, none⟩ (.bool en.g)) :=
    (((Off.refl [w.heap.size] V).setCell (p := ⟨w.heap.size, 0, none⟩) (by simp) _).setCell (p := ⟨w.heap.size, 1, none⟩) (by simp) _).setCell (p := ⟨w.heap.size, 2, none⟩) (by simp) _
  exact ⟨.inl ⟨en, ko, kl, kc, vo, vl, vc, h, rfl, tk.off O3 (fun ad ha h0 hk => by simp at hk; exact hlt ad ha h0 hk), tv.off O3 (fun ad ha h0 hk => by simp at hk; exact hlt2 ad ha h0 hk)⟩, hb.trans (O3.below (by simp) hb.size)⟩
theorem get_miss {w V : World} {m : List Ent} {ks : List Int} (h : getL m ks = none) (hb : Below w.heap.size w V) :
    GetPost w m ks (.returned (.tuple #[.agg #[.slice none 0 0, .slice none 0 0, .bool false], .bool false])) (((V.setCell ⟨w.heap.size, 0, none⟩ (.slice none 0 0)).setCell ⟨w.heap.size, 1, none⟩ (.slice none 0 0)).setCell ⟨w.heap.size, 2, none⟩ (.bool false)) := by
  have O3 : Off [w.heap.size] V (((V.setCell ⟨w.heap.size, 0, none⟩ (.slice none 0 0)).setCell ⟨w.heap.size, 1, none⟩ (.slice none 0 0)).setCell ⟨w.heap.size, 2, none⟩ (.bool false)) :=
    (((Off.refl [w.heap.size] V).setCell (p := ⟨w.heap.size, 0, none⟩) (by simp) _).setCell (p := ⟨w.heap.size, 1, none⟩) (by simp) _).setCell (p := ⟨w.heap.size, 2, none⟩) (by simp) _
  exact ⟨.inr ⟨h, rfl⟩, hb.trans (O3.below (by simp) hb.size)⟩
theorem Ls.lx {w : World} {B : Nat} {bo : Option Addr} {n cb : Nat} {es : List Ent} (h : Ls 26 3 RE w B (.slice bo n cb) es) : Lx 3 RE w bo n cb es := by
  obtain ⟨ao9, cap9, e9, hx9⟩ := h.read RE.stable RE.plain
  simp only [Value.slice.injEq] at e9
  obtain ⟨rfl, e10, rfl⟩ := e9
  rw [← e10] at hx9
  exact hx9
theorem filt_take {p : Ent → Bool} (m : List Ent) (i : Nat) (x : Ent) (h : m[i]? = some x) : (m.take (i + 1)).filter p = (m.take i).filter p ++ (if p x = true then [x] else []) := by
  rw [take_snoc m i x h, List.filter_append]
  cases hp : p x <;> simp [hp]
theorem getL_at {m : List Ent} {ks : List Int} : ∀ {k : Nat} {x : Ent}, m[k]? = some x → x.k = ks → (∀ y ∈ m.take k, ¬ y.k = ks) → getL m ks = some x := by
  induction m with
  | nil => intro k x h; simp at h
  | cons y m ih =>
    intro k x h hx hb
    cases k with
    | zero => simp at h; subst h; simp [getL, hx]
    | succ k =>
      have h1 : ¬ y.k = ks := hb y (by simp)
      have h2 := ih (k := k) (x := x) (by simpa using h) hx (fun z hz => hb z (by simp [hz]))
      simp only [getL] at h2 ⊢
      rw [List.find?_cons_of_neg (by simpa using h1)]
      exact h2
end Go.Proofs.Ytjbppedphadenaa
