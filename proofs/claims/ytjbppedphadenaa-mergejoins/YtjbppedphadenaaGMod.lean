/- Rows joined, as plain data: heads in a heap, and what comes out of them. -/
import Derived.Test.YtjbppedphadenaaMMod
namespace Go.Proofs.Ytjbppedphadenaa
set_option maxRecDepth 100000
open Go.RowKit Go.Sort

/-- A source's head: its block b, the source's block r, its entry as it lies and as it reads, its age, what is left of the source. -/
structure Nd where
  b : Nat
  r : Nat
  kv : Value
  vv : Value
  e : Ent
  age : Nat
  lo : Option Addr
  ll : Nat
  lc : Nat
  rest : List Ent

def ndLess (x y : Nd) : Bool := if x.e.k = y.e.k then decide (x.age < y.age) else lessB x.e.k y.e.k
def NdLe (x y : Nd) : Prop := lessB x.e.k y.e.k = true ∨ (x.e.k = y.e.k ∧ x.age ≤ y.age)
theorem le_of_not {x y : Nd} (h : ndLess y x = false) : NdLe x y := by
  unfold ndLess at h
  split at h
  · rename_i hk
    exact .inr ⟨hk.symm, by simpa using h⟩
  · rename_i hk
    rcases lessB_tri x.e.k y.e.k with h1 | h1 | h1
    · exact .inl h1
    · exact absurd h1.symm hk
    · rw [h1] at h; cases h
theorem le_of_less {x y : Nd} (h : ndLess x y = true) : NdLe x y := by
  unfold ndLess at h
  split at h
  · rename_i hk
    have : x.age < y.age := by simpa using h
    exact .inr ⟨hk, by omega⟩
  · exact .inl h
theorem NdLe.trans {x y z : Nd} (h : NdLe x y) (k : NdLe y z) : NdLe x z := by
  rcases h with h | ⟨h1, h2⟩
  · rcases k with k | ⟨k1, k2⟩
    · exact .inl (lessB_trans _ _ _ h k)
    · exact .inl (k1 ▸ h)
  · rcases k with k | ⟨k1, k2⟩
    · exact .inl (h1 ▸ k)
    · exact .inr ⟨h1.trans k1, by omega⟩
theorem NdLe.refl (x : Nd) : NdLe x x := .inr ⟨rfl, Nat.le_refl _⟩
theorem NdLe.key {x y : Nd} (h : NdLe x y) : lessB y.e.k x.e.k = false := by
  rcases h with h | ⟨h, _⟩
  · cases hh : lessB y.e.k x.e.k with
    | false => rfl
    | true => have := lessB_trans _ _ _ h hh; rw [lessB_irr] at this; cases this
  · rw [h, lessB_irr]

def Child (i j : Nat) : Prop := j = 2 * i + 1 ∨ j = 2 * i + 2
def HeapOn (hs : List Nd) (n : Nat) : Prop := ∀ i j x y, Child i j → j < n → hs[i]? = some x → hs[j]? = some y → NdLe x y
def swapL (hs : List Nd) (i j : Nat) (x y : Nd) : List Nd := (hs.set i y).set j x
theorem swapL_len (hs : List Nd) (i j : Nat) (x y : Nd) : (swapL hs i j x y).length = hs.length := by simp [swapL]
theorem swapL_get {hs : List Nd} {i j : Nat} {x y : Nd} (hi : hs[i]? = some x) (hj : hs[j]? = some y) (k : Nat) : (swapL hs i j x y)[k]? = if k = j then some x else if k = i then some y else hs[k]? := by
  have h1 := (List.getElem?_eq_some_iff.1 hi).1
  have h2 := (List.getElem?_eq_some_iff.1 hj).1
  simp only [swapL, List.getElem?_set, List.length_set]
  by_cases hkj : k = j
  · subst hkj; rw [if_pos rfl, if_pos h2, if_pos rfl]
  · rw [if_neg (fun e => hkj e.symm), if_neg hkj]
    by_cases hki : k = i
    · subst hki; rw [if_pos rfl, if_pos h1, if_pos rfl]
    · rw [if_neg (fun e => hki e.symm), if_neg hki]
theorem set_perm1 {A : Type} : ∀ (l : List A) (i : Nat) (x y : A), l[i]? = some x → (y :: l).Perm (x :: l.set i y)
  | [], i, x, y, h => by simp at h
  | z :: l, 0, x, y, h => by
    simp at h; subst h
    exact List.Perm.swap _ _ _
  | z :: l, i + 1, x, y, h => by
    simp only [List.set_cons_succ]
    have := set_perm1 l i x y (by simpa using h)
    exact (List.Perm.swap _ _ _).trans ((this.cons z).trans (List.Perm.swap _ _ _))
theorem swapL_perm {hs : List Nd} {i j : Nat} {x y : Nd} (hi : hs[i]? = some x) (hj : hs[j]? = some y) : (swapL hs i j x y).Perm hs := by
  have h1 := set_perm1 hs i x y hi
  have hj' : (hs.set i y)[j]? = some y := by
    rw [List.getElem?_set]
    split
    · rw [if_pos (List.getElem?_eq_some_iff.1 hi).1]
    · exact hj
  have h2 := set_perm1 (hs.set i y) j y x hj'
  exact ((h1.trans h2).cons_inv).symm

structure DownI (hs : List Nd) (n i : Nat) : Prop where
  le : ∀ p c x y, Child p c → c < n → p ≠ i → hs[p]? = some x → hs[c]? = some y → NdLe x y
  up : ∀ g c x y, Child g i → Child i c → c < n → hs[g]? = some x → hs[c]? = some y → NdLe x y
theorem child_one {p q c : Nat} (h : Child p c) (k : Child q c) : p = q := by unfold Child at h k; omega
theorem child_lt {p c : Nat} (h : Child p c) : p < c := by unfold Child at h; omega
theorem DownI.step {hs : List Nd} {n i m : Nat} {x y : Nd} (h : DownI hs n i) (hm : Child i m) (hmn : m < n) (hi : hs[i]? = some x) (hy : hs[m]? = some y) (hl : NdLe y x)
    (hmin : ∀ c z, Child i c → c < n → hs[c]? = some z → NdLe y z) : DownI (swapL hs i m x y) n m := by
  have him := child_lt hm
  refine ⟨fun p c u v hpc hcn hpm hu hv => ?_, fun g c u v hg hc hcn hu hv => ?_⟩
  · rw [swapL_get hi hy] at hu hv
    have hpc' := child_lt hpc
    by_cases hpi : p = i
    · subst hpi
      rw [if_neg (by omega), if_pos rfl] at hu
      cases hu
      by_cases hcm : c = m
      · subst hcm; rw [if_pos rfl] at hv; cases hv; exact hl
      · rw [if_neg hcm, if_neg (by omega)] at hv
        exact hmin c v hpc hcn hv
    · rw [if_neg hpm, if_neg hpi] at hu
      have hcm : c ≠ m := fun e => hpi (child_one (e ▸ hpc) hm)
      rw [if_neg hcm] at hv
      by_cases hci : c = i
      · subst hci
        rw [if_pos rfl] at hv; cases hv
        exact h.up p m u y hpc hm hmn hu hy
      · rw [if_neg hci] at hv
        exact h.le p c u v hpc hcn hpi hu hv
  · have hgi := child_one hg hm
    subst hgi
    rw [swapL_get hi hy] at hu hv
    have := child_lt hc
    rw [if_neg (by omega), if_pos rfl] at hu
    cases hu
    rw [if_neg (by omega), if_neg (by omega)] at hv
    exact h.le m c y v hc hcn (by omega) hy hv
theorem DownI.stop {hs : List Nd} {n i : Nat} (h : DownI hs n i) (hx : ∀ c x z, Child i c → c < n → hs[i]? = some x → hs[c]? = some z → NdLe x z) : HeapOn hs n := fun p c x y hpc hcn hp hc => by
  by_cases e : p = i
  · subst e; exact hx c x y hpc hcn hp hc
  · exact h.le p c x y hpc hcn e hp hc

structure UpI (hs : List Nd) (n j : Nat) : Prop where
  le : ∀ p c x y, Child p c → c < n → c ≠ j → hs[p]? = some x → hs[c]? = some y → NdLe x y
  up : ∀ g c x y, Child g j → Child j c → c < n → hs[g]? = some x → hs[c]? = some y → NdLe x y
theorem UpI.step {hs : List Nd} {n p j : Nat} {x y : Nd} (h : UpI hs n j) (hp : Child p j) (hjn : j < n) (hx : hs[p]? = some x) (hy : hs[j]? = some y) (hl : NdLe y x) : UpI (swapL hs p j x y) n p := by
  have hpj := child_lt hp
  refine ⟨fun q c u v hqc hcn hcp hu hv => ?_, fun g c u v hg hc hcn hu hv => ?_⟩
  · rw [swapL_get hx hy] at hu hv
    have hqc' := child_lt hqc
    by_cases hcj : c = j
    · subst hcj
      have := child_one hqc hp
      subst this
      rw [if_neg (by omega), if_pos rfl] at hu; cases hu
      rw [if_pos rfl] at hv; cases hv
      exact hl
    · rw [if_neg hcj, if_neg hcp] at hv
      by_cases hqj : q = j
      · subst hqj
        rw [if_pos rfl] at hu; cases hu
        exact h.up p c x v hp hqc hcn hx hv
      · rw [if_neg hqj] at hu
        by_cases hqp : q = p
        · subst hqp
          rw [if_pos rfl] at hu; cases hu
          exact hl.trans (h.le q c x v hqc hcn hcj hx hv)
        · rw [if_neg hqp] at hu
          exact h.le q c u v hqc hcn hcj hu hv
  · rw [swapL_get hx hy] at hu hv
    have h1 := child_lt hg
    have h2 := child_lt hc
    rw [if_neg (by omega), if_neg (by omega)] at hu
    have h3 : NdLe u x := h.le g p u x hg (by omega) (by omega) hu hx
    by_cases hcj : c = j
    · subst hcj
      rw [if_pos rfl] at hv; cases hv
      exact h3
    · rw [if_neg hcj, if_neg (by omega)] at hv
      exact h3.trans (h.le p c x v hc hcn hcj hx hv)
theorem UpI.stop {hs : List Nd} {n j : Nat} (h : UpI hs n j) (hx : ∀ p x z, Child p j → j < n → hs[p]? = some x → hs[j]? = some z → NdLe x z) : HeapOn hs n := fun p c x y hpc hcn hp hc => by
  by_cases e : c = j
  · subst e; exact hx p x y hpc hcn hp hc
  · exact h.le p c x y hpc hcn e hp hc
theorem HeapOn.top {hs : List Nd} {t : Nd} (h : HeapOn hs hs.length) (h0 : hs[0]? = some t) : ∀ x ∈ hs, NdLe t x := by
  have key : ∀ (i : Nat) (x : Nd), hs[i]? = some x → NdLe t x := by
    intro i
    induction i using Nat.strongRecOn with
    | _ i ih =>
      intro x hx
      by_cases hi : i = 0
      · subst hi; rw [h0] at hx; cases hx; exact NdLe.refl _
      · have hlt := (List.getElem?_eq_some_iff.1 hx).1
        have hc : Child ((i - 1) / 2) i := by unfold Child; omega
        have hp : hs[(i - 1) / 2]? = some (hs[(i - 1) / 2]'(by omega)) := by simp
        exact (ih ((i - 1) / 2) (by omega) _ hp).trans (h _ i _ x hc hlt hp hx)
  intro x hx
  obtain ⟨i, hi, rfl⟩ := List.getElem_of_mem hx
  exact key i _ (by simp)
/-- A heap whose top has turned. -/
theorem HeapOn.turn {t t' : Nd} {tl : List Nd} {n : Nat} (h : HeapOn (t :: tl) n) : DownI (t' :: tl) n 0 := by
  refine ⟨fun p c x y hpc hcn hp hx hy => ?_, fun g c x y hg => by unfold Child at hg; omega⟩
  obtain ⟨p, rfl⟩ := Nat.exists_eq_succ_of_ne_zero hp
  have := child_lt hpc
  obtain ⟨c, rfl⟩ := Nat.exists_eq_succ_of_ne_zero (show c ≠ 0 by omega)
  exact h _ _ x y hpc hcn (by simpa using hx) (by simpa using hy)
/-- A heap whose top and last have changed places. -/
theorem HeapOn.last {hs : List Nd} {n : Nat} {x y : Nd} (h : HeapOn hs hs.length) (hn : n < hs.length) (hx : hs[0]? = some x) (hy : hs[n]? = some y) : DownI (swapL hs 0 n x y) n 0 := by
  refine ⟨fun p c u v hpc hcn hp hu hv => ?_, fun g c x y hg => by unfold Child at hg; omega⟩
  have := child_lt hpc
  rw [swapL_get hx hy, if_neg (by omega), if_neg (by omega)] at hu hv
  exact h p c u v hpc (by omega) hu hv
/-- A heap with one more behind it. -/
theorem HeapOn.more {hs : List Nd} (x : Nd) (h : HeapOn hs hs.length) : UpI (hs ++ [x]) (hs.length + 1) hs.length := by
  refine ⟨fun p c u v hpc hcn hc hu hv => ?_, fun g c u v _ hc hcn => by have := child_lt hc; omega⟩
  have := child_lt hpc
  rw [List.getElem?_append_left (by omega)] at hu hv
  exact h p c u v hpc (by omega) hu hv

/- What is joined. -/
abbrev RiseP (es : List Ent) : Prop := es.Pairwise (fun x y => lessB x.k y.k = true)
theorem rises_pw {es : List Ent} : Rises es ↔ RiseP es := by
  rw [RiseP, List.pairwise_iff_getElem]
  refine ⟨fun h i j hi hj hij => h i j _ _ hij (by simp) (by simp), fun h i j x y hij hx hy => ?_⟩
  obtain ⟨hi, rfl⟩ := List.getElem?_eq_some_iff.1 hx
  obtain ⟨hj, rfl⟩ := List.getElem?_eq_some_iff.1 hy
  exact h i j hi hj hij
theorem ne_of_less {a b : List Int} (h : lessB a b = true) : a ≠ b := fun e => by rw [e, lessB_irr] at h; cases h
theorem less_asym {a b : List Int} (h : lessB a b = true) : lessB b a = false := by
  cases hh : lessB b a with
  | false => rfl
  | true => have := lessB_trans _ _ _ h hh; rw [lessB_irr] at this; cases this
theorem ins_mem_iff (e : Ent) : ∀ (es : List Ent), RiseP es → ∀ y, y ∈ insR e es ↔ y = e ∨ (y ∈ es ∧ y.k ≠ e.k)
  | [], _, y => by simp [insR]
  | x :: l, h, y => by
    have hx := (List.pairwise_cons.1 h).1
    have ih := ins_mem_iff e l (List.pairwise_cons.1 h).2 y
    rw [insR]
    split
    · rename_i hl
      rw [List.mem_cons, ih, List.mem_cons]
      refine ⟨?_, ?_⟩
      · rintro (rfl | rfl | ⟨h1, h2⟩)
        · exact .inr ⟨.inl rfl, ne_of_less hl⟩
        · exact .inl rfl
        · exact .inr ⟨.inr h1, h2⟩
      · rintro (rfl | ⟨rfl | h1, h2⟩)
        · exact .inr (.inl rfl)
        · exact .inl rfl
        · exact .inr (.inr ⟨h1, h2⟩)
    · rename_i hl
      split
      · rename_i he
        rw [List.mem_cons, List.mem_cons]
        refine ⟨?_, ?_⟩
        · rintro (rfl | h1)
          · exact .inl rfl
          · exact .inr ⟨.inr h1, fun e' => ne_of_less (hx y h1) (he.trans e'.symm)⟩
        · rintro (rfl | ⟨rfl | h1, h2⟩)
          · exact .inl rfl
          · exact absurd he h2
          · exact .inr h1
      · rename_i he
        have hlt : lessB e.k x.k = true := by
          rcases lessB_tri e.k x.k with h1 | h1 | h1
          · exact h1
          · exact absurd h1.symm he
          · exact absurd h1 hl
        rw [List.mem_cons, List.mem_cons]
        refine ⟨?_, ?_⟩
        · rintro (rfl | rfl | h1)
          · exact .inl rfl
          · exact .inr ⟨.inl rfl, he⟩
          · exact .inr ⟨.inr h1, fun e' => ne_of_less (lessB_trans _ _ _ hlt (hx y h1)) e'.symm⟩
        · rintro (rfl | ⟨h1, h2⟩)
          · exact .inl rfl
          · exact .inr h1
theorem ins_rise (e : Ent) : ∀ (es : List Ent), RiseP es → RiseP (insR e es)
  | [], _ => by simp [insR]
  | x :: l, h => by
    obtain ⟨hx, hl⟩ := List.pairwise_cons.1 h
    have ih := ins_rise e l hl
    rw [insR]
    split
    · rename_i hlt
      refine List.pairwise_cons.2 ⟨fun y hy => ?_, ih⟩
      rcases (ins_mem_iff e l hl y).1 hy with rfl | ⟨h1, _⟩
      · exact hlt
      · exact hx y h1
    · rename_i hlt
      split
      · rename_i he
        exact List.pairwise_cons.2 ⟨fun y hy => he ▸ hx y hy, hl⟩
      · rename_i he
        have hlt : lessB e.k x.k = true := by
          rcases lessB_tri e.k x.k with h1 | h1 | h1
          · exact h1
          · exact absurd h1.symm he
          · exact absurd h1 hlt
        refine List.pairwise_cons.2 ⟨fun y hy => ?_, h⟩
        rcases List.mem_cons.1 hy with rfl | h1
        · exact hlt
        · exact lessB_trans _ _ _ hlt (hx y h1)
theorem put_rise : ∀ (l acc : List Ent), RiseP acc → RiseP (putL acc l)
  | [], _, h => h
  | e :: l, acc, h => put_rise l _ (ins_rise (norm e) acc h)
theorem put_mem_iff : ∀ (l acc : List Ent), RiseP l → RiseP acc → ∀ y, y ∈ putL acc l ↔ (∃ x ∈ l, norm x = y) ∨ (y ∈ acc ∧ ∀ x ∈ l, x.k ≠ y.k)
  | [], acc, _, _, y => by simp [putL]
  | e :: l, acc, hl, ha, y => by
    obtain ⟨he, hl'⟩ := List.pairwise_cons.1 hl
    have ih := put_mem_iff l (insR (norm e) acc) hl' (ins_rise _ _ ha) y
    have e0 : putL acc (e :: l) = putL (insR (norm e) acc) l := rfl
    rw [e0, ih, ins_mem_iff (norm e) acc ha y]
    refine ⟨?_, ?_⟩
    · rintro (⟨x, hx, rfl⟩ | ⟨rfl | ⟨h1, h2⟩, h3⟩)
      · exact .inl ⟨x, by simp [hx], rfl⟩
      · exact .inl ⟨e, by simp, rfl⟩
      · refine .inr ⟨h1, fun x hx => ?_⟩
        rcases List.mem_cons.1 hx with rfl | hx
        · rw [norm_k] at h2; exact fun e' => h2 e'.symm
        · exact h3 x hx
    · rintro (⟨x, hx, rfl⟩ | ⟨h1, h2⟩)
      · rcases List.mem_cons.1 hx with rfl | hx
        · exact .inr ⟨.inl rfl, fun z hz => by rw [norm_k]; exact fun e' => ne_of_less (he z hz) e'.symm⟩
        · exact .inl ⟨x, hx, rfl⟩
      · refine .inr ⟨.inr ⟨h1, fun e' => h2 e (by simp) (by rw [e', norm_k])⟩, fun x hx => h2 x (by simp [hx])⟩

/-- The oldest first, each over what is there. -/
def joinL (ls : List (List Ent)) : List Ent := ls.foldr (fun l acc => putL acc l) []
theorem join_rise : ∀ (ls : List (List Ent)), RiseP (joinL ls)
  | [] => by simp [joinL]
  | l :: ls => put_rise l _ (join_rise ls)
theorem join_norm : ∀ (ls : List (List Ent)) (y : Ent), y ∈ joinL ls → norm y = y
  | [], y, h => by simp [joinL] at h
  | l :: ls, y, h => by
    rcases putL_mem l (joinL ls) y h with h1 | ⟨x, _, rfl⟩
    · exact join_norm ls y h1
    · exact norm_norm x
def RowsP (ls : List (List Ent)) : Prop := ∀ l ∈ ls, RiseP l
theorem join_cons {l : List Ent} {ls : List (List Ent)} (h : RowsP (l :: ls)) (y : Ent) : y ∈ joinL (l :: ls) ↔ (∃ x ∈ l, norm x = y) ∨ (y ∈ joinL ls ∧ ∀ x ∈ l, x.k ≠ y.k) :=
  put_mem_iff l (joinL ls) (h l (by simp)) (join_rise ls) y
theorem sorted_ext : ∀ (a b : List Ent), RiseP a → RiseP b → (∀ y, y ∈ a ↔ y ∈ b) → a = b
  | [], [], _, _, _ => rfl
  | [], y :: b, _, _, h => by have := (h y).2 (by simp); simp at this
  | x :: a, [], _, _, h => by have := (h x).1 (by simp); simp at this
  | x :: a, y :: b, ha, hb, h => by
    obtain ⟨hx, ha'⟩ := List.pairwise_cons.1 ha
    obtain ⟨hy, hb'⟩ := List.pairwise_cons.1 hb
    have hxy : x = y := by
      rcases List.mem_cons.1 ((h x).1 (by simp)) with e | e
      · exact e
      · rcases List.mem_cons.1 ((h y).2 (by simp)) with e' | e'
        · exact e'.symm
        · have := lessB_trans _ _ _ (hy x e) (hx y e'); rw [lessB_irr] at this; cases this
    subst hxy
    have : a = b := sorted_ext a b ha' hb' (fun z => by
      have hz := h z
      rw [List.mem_cons, List.mem_cons] at hz
      refine ⟨fun hza => ?_, fun hzb => ?_⟩
      · rcases hz.1 (.inr hza) with rfl | h1
        · have := hx z hza; rw [lessB_irr] at this; cases this
        · exact h1
      · rcases hz.2 (.inr hzb) with rfl | h1
        · have := hy z hzb; rw [lessB_irr] at this; cases this
        · exact h1)
    rw [this]
theorem join_key : ∀ (ls : List (List Ent)), RowsP ls → ∀ k, (∃ y ∈ joinL ls, y.k = k) ↔ ∃ l ∈ ls, ∃ x ∈ l, x.k = k
  | [], _, k => by simp [joinL]
  | l :: ls, h, k => by
    have ih := join_key ls (fun m hm => h m (by simp [hm])) k
    refine ⟨?_, ?_⟩
    · rintro ⟨y, hy, rfl⟩
      rcases (join_cons h y).1 hy with ⟨x, hx, rfl⟩ | ⟨h1, _⟩
      · exact ⟨l, by simp, x, hx, (norm_k x).symm⟩
      · obtain ⟨m, hm, x, hx, e⟩ := ih.1 ⟨y, h1, rfl⟩
        exact ⟨m, by simp [hm], x, hx, e⟩
    · rintro ⟨m, hm, x, hx, rfl⟩
      by_cases hk : ∃ z ∈ l, z.k = x.k
      · obtain ⟨z, hz, e⟩ := hk
        exact ⟨norm z, (join_cons h _).2 (.inl ⟨z, hz, rfl⟩), by rw [norm_k, e]⟩
      · rcases List.mem_cons.1 hm with rfl | hm
        · exact absurd ⟨x, hx, rfl⟩ hk
        · obtain ⟨y, hy, e⟩ := ih.2 ⟨m, hm, x, hx, rfl⟩
          exact ⟨y, (join_cons h y).2 (.inr ⟨hy, fun z hz e' => hk ⟨z, hz, e'.trans e⟩⟩), e⟩
theorem join_app : ∀ (a b : List (List Ent)), RowsP (a ++ b) → ∀ y, y ∈ joinL (a ++ b) ↔ y ∈ joinL a ∨ (y ∈ joinL b ∧ ∀ x ∈ joinL a, x.k ≠ y.k)
  | [], b, _, y => by simp [joinL]
  | l :: a, b, h, y => by
    have hla : RowsP (l :: a) := fun m hm => h m (by
      rcases List.mem_cons.1 hm with rfl | hm
      · simp
      · simp [hm])
    have ih := join_app a b (fun m hm => h m (by simp at hm ⊢; exact .inr hm)) y
    rw [List.cons_append, join_cons (by simpa using h) y, ih, join_cons hla y]
    have hk : (∀ x ∈ joinL (l :: a), x.k ≠ y.k) ↔ (∀ x ∈ l, x.k ≠ y.k) ∧ ∀ x ∈ joinL a, x.k ≠ y.k := by
      have k1 := join_key (l :: a) hla y.k
      have k2 := join_key a (fun m hm => hla m (by simp [hm])) y.k
      refine ⟨fun hh => ⟨fun x hx e => ?_, fun x hx e => ?_⟩, fun ⟨h1, h2⟩ x hx e => ?_⟩
      · obtain ⟨z, hz, e'⟩ := k1.2 ⟨l, by simp, x, hx, e⟩
        exact hh z hz e'
      · obtain ⟨m, hm, z, hz, e'⟩ := k2.1 ⟨x, hx, e⟩
        obtain ⟨z, hz, e'⟩ := k1.2 ⟨m, by simp [hm], z, hz, e'⟩
        exact hh z hz e'
      · obtain ⟨m, hm, z, hz, e'⟩ := k1.1 ⟨x, hx, e⟩
        rcases List.mem_cons.1 hm with rfl | hm
        · exact h1 z hz e'
        · obtain ⟨z, hz, e'⟩ := k2.2 ⟨m, hm, z, hz, e'⟩
          exact h2 z hz e'
    rw [hk]
    refine ⟨?_, ?_⟩
    · rintro (h1 | ⟨h1 | ⟨h1, h2⟩, h3⟩)
      · exact .inl (.inl h1)
      · exact .inl (.inr ⟨h1, h3⟩)
      · exact .inr ⟨h1, h3, h2⟩
    · rintro ((h1 | ⟨h1, h3⟩) | ⟨h1, h3, h2⟩)
      · exact .inl h1
      · exact .inr ⟨.inl h1, h3⟩
      · exact .inr ⟨.inr ⟨h1, h2⟩, h3⟩
theorem join_two {A B : List Ent} (hA : RiseP A) (hB : RiseP B) (nA : ∀ e ∈ A, norm e = e) (nB : ∀ e ∈ B, norm e = e) (y : Ent) : y ∈ joinL [A, B] ↔ y ∈ A ∨ (y ∈ B ∧ ∀ x ∈ A, x.k ≠ y.k) := by
  have hm : ∀ {C : List Ent}, (∀ e ∈ C, norm e = e) → ((∃ x ∈ C, norm x = y) ↔ y ∈ C) := fun hC => ⟨fun ⟨x, hx, e⟩ => by rw [hC x hx] at e; exact e ▸ hx, fun hy => ⟨y, hy, hC y hy⟩⟩
  rw [join_cons (by intro m hm; simp at hm; rcases hm with rfl | rfl <;> assumption) y, join_cons (by intro m hm; simp at hm; subst hm; exact hB) y, hm nA, hm nB]
  simp [joinL]
/-- Joined in parts. -/
theorem join_parts (ls : List (List Ent)) (h : RowsP ls) (k : Nat) : joinL [joinL (ls.take k), joinL (ls.drop k)] = joinL ls := by
  refine sorted_ext _ _ (join_rise _) (join_rise _) (fun y => ?_)
  rw [join_two (join_rise _) (join_rise _) (join_norm _) (join_norm _) y]
  have := join_app (ls.take k) (ls.drop k) (by rw [List.take_append_drop]; exact h) y
  rw [List.take_append_drop] at this
  exact this.symm
theorem join_twice (ls : List (List Ent)) : joinL [joinL ls, joinL ls] = joinL ls := by
  refine sorted_ext _ _ (join_rise _) (join_rise _) (fun y => ?_)
  rw [join_two (join_rise _) (join_rise _) (join_norm _) (join_norm _) y]
  exact ⟨fun h => h.elim id (·.1), .inl⟩

/-- What the heads, and what is out, have to do with the rows. -/
structure JI (ls : List (List Ent)) (out : List Ent) (hs : List Nd) : Prop where
  rem : ∀ (a : Nat) (l : List Ent), ls[a]? = some l → ∃ c r : List Ent, l = c ++ r ∧ (∀ x ∈ c, ∃ y ∈ out, y.k = x.k) ∧ ((r = [] ∧ ∀ n ∈ hs, n.age ≠ a) ∨ ∃ n ∈ hs, n.age = a ∧ r = n.e :: n.rest)
  age : ∀ n ∈ hs, ∃ l, ls[n.age]? = some l
  nd : (hs.map (·.age)).Nodup
  rise : RiseP out
  low : ∀ n ∈ hs, ∀ y ∈ out, lessB n.e.k y.k = false
  src : ∀ y ∈ out, ∃ (a : Nat) (l : List Ent) (x : Ent), ls[a]? = some l ∧ x ∈ l ∧ norm x = y ∧ ∀ (a' : Nat) (l' : List Ent), a' < a → ls[a']? = some l' → ∀ z ∈ l', z.k ≠ y.k
def outStep (out : List Ent) (e : Ent) : List Ent := if out = [] ∨ ∃ y, out.getLast? = some y ∧ lessB y.k e.k = true then out ++ [norm e] else out
def nextsP (t : Nd) (tl hs1 : List Nd) : Prop := (t.rest = [] ∧ hs1.Perm tl) ∨ ∃ t' : Nd, t'.age = t.age ∧ t.rest = t'.e :: t'.rest ∧ hs1.Perm (t' :: tl)
theorem rise_last {out : List Ent} (h : RiseP out) {y : Ent} (hy : out.getLast? = some y) : ∀ x ∈ out, x = y ∨ lessB x.k y.k = true := by
  intro x hx
  obtain ⟨l, rfl⟩ : ∃ l, out = l ++ [y] := by
    have hne : out ≠ [] := by intro e; subst e; simp at hx
    refine ⟨out.dropLast, ?_⟩
    rw [List.getLast?_eq_some_getLast hne] at hy
    rw [← Option.some.inj hy, List.dropLast_concat_getLast hne]
  rcases List.mem_append.1 hx with h1 | h1
  · exact .inr ((List.pairwise_append.1 h).2.2 x h1 y (by simp))
  · exact .inl (by simpa using h1)
theorem JI.step {ls : List (List Ent)} {out : List Ent} {t : Nd} {tl hs1 : List Nd} (h : JI ls out (t :: tl)) (hR : RowsP ls) (hmin : ∀ x ∈ t :: tl, NdLe t x) (hn : nextsP t tl hs1) : JI ls (outStep out t.e) hs1 := by
  have hnd := h.nd
  rw [List.map_cons, List.nodup_cons] at hnd
  have htl : ∀ n ∈ tl, n.age ≠ t.age := fun n hn' e => hnd.1 (List.mem_map.2 ⟨n, hn', e⟩)
  obtain ⟨lt, hlt⟩ := h.age t (by simp)
  obtain ⟨ct, rt, elt, hct, hrt⟩ := h.rem _ _ hlt
  have hrt' : rt = t.e :: t.rest := by
    rcases hrt with ⟨_, h1⟩ | ⟨n, hn', ha, e⟩
    · exact absurd rfl (h1 t (by simp))
    · rcases List.mem_cons.1 hn' with rfl | h2
      · exact e
      · exact absurd ha (htl n h2)
  subst hrt'
  have hlR := hR lt (List.mem_of_getElem? hlt)
  rw [elt] at hlR
  have hrR := (List.pairwise_append.1 hlR).2.1
  -- members of what comes next
  have hm1 : ∀ n ∈ hs1, n ∈ tl ∨ (n.age = t.age ∧ t.rest = n.e :: n.rest) := fun n hn' => by
    rcases hn with ⟨_, p⟩ | ⟨t', a', r', p⟩
    · exact .inl (p.mem_iff.1 hn')
    · rcases List.mem_cons.1 (p.mem_iff.1 hn') with rfl | h1
      · exact .inr ⟨a', r'⟩
      · exact .inl h1
  have hm2 : ∀ n ∈ tl, n ∈ hs1 := fun n hn' => by
    rcases hn with ⟨_, p⟩ | ⟨t', a', r', p⟩
    · exact p.mem_iff.2 hn'
    · exact p.mem_iff.2 (by simp [hn'])
  -- out
  have hsub : ∀ y ∈ out, y ∈ outStep out t.e := fun y hy => by unfold outStep; split <;> simp [hy]
  have hkey : ∃ y ∈ outStep out t.e, y.k = t.e.k := by
    unfold outStep
    split
    · exact ⟨norm t.e, by simp, norm_k _⟩
    · rename_i hh
      have hne : out ≠ [] := fun e => hh (.inl e)
      have hl := List.getLast?_eq_some_getLast hne
      have hmem := List.getLast_mem hne
      refine ⟨_, hmem, ?_⟩
      have h1 : ¬ lessB (out.getLast hne).k t.e.k = true := fun e => hh (.inr ⟨_, hl, e⟩)
      have h2 := h.low t (by simp) _ hmem
      rcases lessB_tri (out.getLast hne).k t.e.k with h3 | h3 | h3
      · exact absurd h3 h1
      · exact h3
      · rw [h3] at h2; cases h2
  have hnew : ∀ y ∈ outStep out t.e, y ∈ out ∨ (y = norm t.e ∧ ∀ z ∈ out, lessB z.k t.e.k = true) := fun y hy => by
    unfold outStep at hy
    split at hy
    · rename_i hh
      rcases List.mem_append.1 hy with h1 | h1
      · exact .inl h1
      · refine .inr ⟨by simpa using h1, fun z hz => ?_⟩
        rcases hh with rfl | ⟨w, hw, hl⟩
        · simp at hz
        · rcases rise_last h.rise hw z hz with rfl | h2
          · exact hl
          · exact lessB_trans _ _ _ h2 hl
    · exact .inl hy
  refine ⟨fun a l hal => ?_, fun n hn' => ?_, ?_, ?_, fun n hn' y hy => ?_, fun y hy => ?_⟩
  · obtain ⟨c, r, e, hc, hr⟩ := h.rem a l hal
    have hc' : ∀ x ∈ c, ∃ y ∈ outStep out t.e, y.k = x.k := fun x hx => by
      obtain ⟨y, hy, e'⟩ := hc x hx
      exact ⟨y, hsub y hy, e'⟩
    by_cases hat : a = t.age
    · subst hat
      rw [hlt] at hal; cases hal
      refine ⟨ct ++ [t.e], t.rest, by rw [elt]; simp, fun x hx => ?_, ?_⟩
      · rcases List.mem_append.1 hx with h1 | h1
        · obtain ⟨y, hy, e'⟩ := hct x h1
          exact ⟨y, hsub y hy, e'⟩
        · have : x = t.e := by simpa using h1
          subst this; exact hkey
      · rcases hn with ⟨r0, p⟩ | ⟨t', a', r', p⟩
        · exact .inl ⟨r0, fun n hn' => htl n (p.mem_iff.1 hn')⟩
        · exact .inr ⟨t', p.mem_iff.2 (by simp), a', r'⟩
    · refine ⟨c, r, e, hc', ?_⟩
      rcases hr with ⟨r0, h1⟩ | ⟨n, hn', ha, er⟩
      · refine .inl ⟨r0, fun n hn' => ?_⟩
        rcases hm1 n hn' with h2 | ⟨h2, _⟩
        · exact h1 n (by simp [h2])
        · rw [h2]; exact fun e' => hat e'.symm
      · rcases List.mem_cons.1 hn' with rfl | h2
        · exact absurd ha.symm hat
        · exact .inr ⟨n, hm2 n h2, ha, er⟩
  · rcases hm1 n hn' with h1 | ⟨h1, _⟩
    · exact h.age n (by simp [h1])
    · rw [h1]; exact ⟨lt, hlt⟩
  · rcases hn with ⟨_, p⟩ | ⟨t', a', r', p⟩
    · exact (p.map _).nodup_iff.2 hnd.2
    · refine (p.map _).nodup_iff.2 ?_
      rw [List.map_cons, List.nodup_cons, a']
      exact hnd
  · unfold outStep
    split
    · rename_i hh
      refine List.pairwise_append.2 ⟨h.rise, by simp, fun x hx y hy => ?_⟩
      have : y = norm t.e := by simpa using hy
      subst this
      rw [norm_k]
      rcases hh with rfl | ⟨w, hw, hl⟩
      · simp at hx
      · rcases rise_last h.rise hw x hx with rfl | h2
        · exact hl
        · exact lessB_trans _ _ _ h2 hl
    · exact h.rise
  · have hnt : lessB n.e.k t.e.k = false ∧ ∀ y ∈ out, lessB n.e.k y.k = false := by
      rcases hm1 n hn' with h1 | ⟨_, h1⟩
      · exact ⟨(hmin n (by simp [h1])).key, fun y hy => h.low n (by simp [h1]) y hy⟩
      · have hlt' : lessB t.e.k n.e.k = true := (List.pairwise_cons.1 hrR).1 n.e (by rw [h1]; simp)
        refine ⟨less_asym hlt', fun y hy => ?_⟩
        cases hh : lessB n.e.k y.k with
        | false => rfl
        | true => have := lessB_trans _ _ _ hlt' hh; rw [h.low t (by simp) y hy] at this; cases this
    rcases hnew y hy with h1 | ⟨rfl, _⟩
    · exact hnt.2 y h1
    · rw [norm_k]; exact hnt.1
  · rcases hnew y hy with h1 | ⟨rfl, hz⟩
    · exact h.src y h1
    · refine ⟨t.age, lt, t.e, hlt, by rw [elt]; simp, rfl, fun a' l' ha' hl' z hz' e => ?_⟩
      rw [norm_k] at e
      obtain ⟨c, r, el, hc, hr⟩ := h.rem a' l' hl'
      rw [el] at hz'
      have hlR' := hR l' (List.mem_of_getElem? hl')
      rw [el] at hlR'
      rcases List.mem_append.1 hz' with h1 | h1
      · obtain ⟨y, hy', e'⟩ := hc z h1
        exact ne_of_less (hz y hy') (e'.trans e)
      · rcases hr with ⟨rfl, _⟩ | ⟨n, hn', ha, rfl⟩
        · simp at h1
        · have hle := hmin n hn'
          have hnz : z = n.e ∨ lessB n.e.k z.k = true := by
            rcases List.mem_cons.1 h1 with h2 | h2
            · exact .inl h2
            · exact .inr ((List.pairwise_cons.1 (List.pairwise_append.1 hlR').2.1).1 z h2)
          rcases hle with h2 | ⟨h2, h3⟩
          · have : lessB t.e.k z.k = true := by
              rcases hnz with rfl | h4
              · exact h2
              · exact lessB_trans _ _ _ h2 h4
            exact ne_of_less this e.symm
          · omega
theorem join_src : ∀ (ls : List (List Ent)), RowsP ls → ∀ (y : Ent) (a : Nat) (l : List Ent) (x : Ent), ls[a]? = some l → x ∈ l → norm x = y → (∀ (a' : Nat) (l' : List Ent), a' < a → ls[a']? = some l' → ∀ z ∈ l', z.k ≠ y.k) → y ∈ joinL ls
  | [], _, y, a, l, x, h, _, _, _ => by simp at h
  | m :: ls, hR, y, 0, l, x, h, hx, hy, _ => by
    simp at h; subst h
    exact (join_cons hR y).2 (.inl ⟨x, hx, hy⟩)
  | m :: ls, hR, y, a + 1, l, x, h, hx, hy, hn => by
    refine (join_cons hR y).2 (.inr ⟨join_src ls (fun k hk => hR k (by simp [hk])) y a l x (by simpa using h) hx hy (fun a' l' ha' hl' => hn (a' + 1) l' (by omega) (by simpa using hl')), ?_⟩)
    exact hn 0 m (by omega) rfl
theorem JI.done {ls : List (List Ent)} {out : List Ent} (h : JI ls out []) (hR : RowsP ls) : out = joinL ls := by
  refine sorted_ext _ _ h.rise (join_rise ls) (fun y => ?_)
  have sub : ∀ y ∈ out, y ∈ joinL ls := fun y hy => by
    obtain ⟨a, l, x, h1, h2, h3, h4⟩ := h.src y hy
    exact join_src ls hR y a l x h1 h2 h3 h4
  refine ⟨sub y, fun hy => ?_⟩
  obtain ⟨l, hl, x, hx, e⟩ := (join_key ls hR y.k).1 ⟨y, hy, rfl⟩
  obtain ⟨a, ha, rfl⟩ := List.getElem_of_mem hl
  obtain ⟨c, r, e1, hc, hr⟩ := h.rem a _ (List.getElem?_eq_getElem ha)
  rcases hr with ⟨rfl, _⟩ | ⟨n, hn, _⟩
  · rw [List.append_nil] at e1
    obtain ⟨z, hz, e2⟩ := hc x (e1 ▸ hx)
    have hzJ := sub z hz
    have hR' := join_rise ls
    have : z = y := by
      obtain ⟨i, hi, rfl⟩ := List.getElem_of_mem hzJ
      obtain ⟨j, hj, rfl⟩ := List.getElem_of_mem hy
      have hp := List.pairwise_iff_getElem.1 hR'
      rcases Nat.lt_trichotomy i j with h1 | h1 | h1
      · exact absurd (e2.trans e) (ne_of_less (hp i j hi hj h1))
      · subst h1; rfl
      · exact absurd (e2.trans e).symm (ne_of_less (hp j i hj hi h1))
    exact this ▸ hz
  · simp at hn
end Go.Proofs.Ytjbppedphadenaa
