/- Plain facts: a disk as a list of files that rises by name; what its calls do to it. Nothing of the program is named here. -/
import Derived.Laws.Strings
namespace Go.Proofs.YtgleblfkcdkaeaaDoor

theorem less_lt : ∀ x y : List UInt8, Op.bytesLess x y = true ↔ x < y
  | x, [] => by cases x <;> simp [Op.bytesLess]
  | [], y :: ys => by simp [Op.bytesLess]
  | x :: xs, y :: ys => by
    have ih := less_lt xs ys
    rw [List.cons_lt_cons_iff]
    simp [Op.bytesLess, ih]

/-- Which name stands ahead, as Go's '<' says it. -/
def nlt (a b : ByteArray) : Bool := Op.bytesLess a.toList b.toList

theorem nlt_iff (a b : ByteArray) : nlt a b = true ↔ a.toList < b.toList := by
  unfold nlt; exact less_lt _ _

theorem toList_inj {a b : ByteArray} (h : a.toList = b.toList) : a = b := by
  rw [ByteArray.toList_eq, ByteArray.toList_eq] at h
  cases a; cases b
  simp at h
  simp [h]

theorem nlt_irrefl (a : ByteArray) : nlt a a = false := by
  cases h : nlt a a with
  | false => rfl
  | true => exact absurd ((nlt_iff a a).1 h) (List.lt_irrefl _)

theorem nlt_trans {a b c : ByteArray} (h : nlt a b = true) (k : nlt b c = true) : nlt a c = true :=
  (nlt_iff a c).2 (List.lt_trans ((nlt_iff a b).1 h) ((nlt_iff b c).1 k))

theorem nlt_asymm {a b : ByteArray} (h : nlt a b = true) : nlt b a = false := by
  cases k : nlt b a with
  | false => rfl
  | true => exact absurd (nlt_trans h k) (by rw [nlt_irrefl]; simp)

theorem nlt_total {a b : ByteArray} (h : nlt a b = false) (k : nlt b a = false) : a = b := by
  apply toList_inj
  have h1 : ¬ a.toList < b.toList := fun e => by rw [(nlt_iff a b).2 e] at h; cases h
  have h2 : ¬ b.toList < a.toList := fun e => by rw [(nlt_iff b a).2 e] at k; cases k
  exact List.le_antisymm (by simpa using h2) (by simpa using h1)

theorem nlt_ne {a b : ByteArray} (h : nlt a b = true) : a ≠ b := by
  rintro rfl; rw [nlt_irrefl] at h; cases h

/-- A file: its name, its bytes, how many of them are synced. -/
structure Fl where
  name : ByteArray
  data : List Int
  synced : Nat

/-- Names rise. -/
def Rising (l : List Fl) : Prop := l.Pairwise (fun f g => nlt f.name g.name = true)

def lo (l : List Fl) (nm : ByteArray) : List Fl := l.filter (fun f => nlt f.name nm)
def hi (l : List Fl) (nm : ByteArray) : List Fl := l.filter (fun f => nlt nm f.name)
def get (l : List Fl) (nm : ByteArray) : Option Fl := l.find? (fun f => decide (f.name = nm))
def put (l : List Fl) (f : Fl) : List Fl := lo l f.name ++ f :: hi l f.name
def del (l : List Fl) (nm : ByteArray) : List Fl := lo l nm ++ hi l nm
def used (l : List Fl) : Nat := (l.map (fun f => f.data.length)).sum

/-- Of a list that rises: what stands ahead of the name, it, what stands behind it. -/
theorem parts {l : List Fl} (h : Rising l) (nm : ByteArray) : l = lo l nm ++ (get l nm).toList ++ hi l nm := by
  induction l with
  | nil => rfl
  | cons f l ih =>
    have h' := List.pairwise_cons.1 h
    have ih := ih h'.2
    by_cases h1 : nlt f.name nm = true
    · have h2 : nlt nm f.name = false := nlt_asymm h1
      have h3 : f.name ≠ nm := nlt_ne h1
      simp only [lo, hi, get, List.filter_cons, h1, if_true, h2, List.find?_cons, h3, decide_false, List.cons_append] at ih ⊢
      exact congrArg (f :: ·) ih
    · have h1 : nlt f.name nm = false := by simpa using h1
      have hl : lo l nm = [] := by
        apply List.filter_eq_nil_iff.2
        intro g hg e
        have := h'.1 g hg
        rw [nlt_trans this e] at h1; cases h1
      by_cases h2 : nlt nm f.name = true
      · have h3 : f.name ≠ nm := fun e => nlt_ne h2 e.symm
        have hg : get l nm = none := by
          apply List.find?_eq_none.2
          intro g hg e
          have e : g.name = nm := by simpa using e
          have := nlt_trans h2 (h'.1 g hg)
          exact nlt_ne this e.symm
        rw [hl, hg] at ih
        have e : get (f :: l) nm = none := by unfold get; rw [List.find?_cons]; simp only [h3, decide_false]; exact hg
        have e2 : lo (f :: l) nm = [] := by unfold lo; rw [List.filter_cons, h1]; exact hl
        rw [e, e2]
        simp only [hi, List.filter_cons, h2, if_true, Option.toList, List.nil_append] at ih ⊢
        exact congrArg (f :: ·) ih
      · have h2 : nlt nm f.name = false := by simpa using h2
        have e0 : f.name = nm := nlt_total h1 h2
        have hh : hi l nm = l := by
          apply List.filter_eq_self.2
          intro g hg
          rw [← e0]; exact h'.1 g hg
        have e : get (f :: l) nm = some f := by unfold get; rw [List.find?_cons]; simp [e0]
        have e2 : lo (f :: l) nm = [] := by unfold lo; rw [List.filter_cons, h1]; exact hl
        have e3 : hi (f :: l) nm = l := by unfold hi; rw [List.filter_cons, h2]; exact hh
        rw [e, e2, e3]; rfl

theorem get_name {l : List Fl} {nm : ByteArray} {f : Fl} (h : get l nm = some f) : f.name = nm := by
  have := List.find?_some h; simpa using this
theorem get_mem {l : List Fl} {nm : ByteArray} {f : Fl} (h : get l nm = some f) : f ∈ l := List.mem_of_find?_eq_some h

theorem lo_lt {l : List Fl} {nm : ByteArray} {f : Fl} (h : f ∈ lo l nm) : nlt f.name nm = true ∧ f ∈ l := by
  have := List.mem_filter.1 h; exact ⟨this.2, this.1⟩
theorem hi_lt {l : List Fl} {nm : ByteArray} {f : Fl} (h : f ∈ hi l nm) : nlt nm f.name = true ∧ f ∈ l := by
  have := List.mem_filter.1 h; exact ⟨this.2, this.1⟩

theorem rising_put {l : List Fl} (h : Rising l) (f : Fl) : Rising (put l f) := by
  unfold put Rising
  rw [List.pairwise_append, List.pairwise_cons]
  refine ⟨List.Pairwise.filter _ h, ⟨fun g hg => (hi_lt hg).1, List.Pairwise.filter _ h⟩, ?_⟩
  intro a ha b hb
  rcases List.mem_cons.1 hb with rfl | hb
  · exact (lo_lt ha).1
  · exact nlt_trans (lo_lt ha).1 (hi_lt hb).1

theorem rising_del {l : List Fl} (h : Rising l) (nm : ByteArray) : Rising (del l nm) := by
  unfold del Rising
  rw [List.pairwise_append]
  exact ⟨List.Pairwise.filter _ h, List.Pairwise.filter _ h, fun a ha b hb => nlt_trans (lo_lt ha).1 (hi_lt hb).1⟩

theorem used_append (a b : List Fl) : used (a ++ b) = used a + used b := by simp [used]
theorem used_cons (f : Fl) (a : List Fl) : used (f :: a) = f.data.length + used a := by simp [used]
theorem used_parts {l : List Fl} (h : Rising l) (nm : ByteArray) : used l = used (del l nm) + ((get l nm).map (fun f => f.data.length)).getD 0 := by
  have := congrArg used (parts h nm)
  rw [used_append, used_append] at this
  rw [del, used_append]
  cases hg : get l nm with
  | none => rw [hg] at this; simp [used] at this ⊢; omega
  | some f => rw [hg] at this; simp [used] at this ⊢; omega
theorem used_put (l : List Fl) (f : Fl) : used (put l f) = used (del l f.name) + f.data.length := by
  rw [put, del, used_append, used_append, used_cons]; omega
theorem used_mem {l : List Fl} {f : Fl} (h : f ∈ l) : f.data.length ≤ used l := by
  induction l with
  | nil => cases h
  | cons g l ih =>
    rw [used_cons]
    rcases List.mem_cons.1 h with rfl | h
    · omega
    · have := ih h; omega

theorem length_parts {l : List Fl} (h : Rising l) (nm : ByteArray) : l.length = (lo l nm).length + (get l nm).toList.length + (hi l nm).length := by
  have := congrArg List.length (parts h nm)
  rw [List.length_append, List.length_append] at this
  exact this
theorem length_put {l : List Fl} (h : Rising l) (f : Fl) : (put l f).length ≤ l.length + 1 := by
  have := length_parts h f.name
  simp [put]; omega
theorem length_del {l : List Fl} (h : Rising l) (nm : ByteArray) : (del l nm).length ≤ l.length := by
  have := length_parts h nm
  simp [del]; omega

/-- The file at the place of the name is replaced, or comes in. -/
theorem set_put {l : List Fl} (h : Rising l) {nm : ByteArray} {f g : Fl} (hg : get l nm = some g) (hf : f.name = nm) : l.set (lo l nm).length f = put l f := by
  have e := parts h nm
  rw [hg] at e
  subst hf
  unfold put
  generalize lo l f.name = A at *
  generalize hi l f.name = B at *
  rw [e]; simp
theorem at_lo {l : List Fl} (h : Rising l) {nm : ByteArray} {g : Fl} (hg : get l nm = some g) : l[(lo l nm).length]? = some g := by
  have e := parts h nm
  rw [hg] at e
  generalize lo l nm = A at *
  generalize hi l nm = B at *
  rw [e]; simp
theorem ins_put {l : List Fl} (h : Rising l) {f : Fl} (hg : get l f.name = none) : l.take (lo l f.name).length ++ f :: l.drop (lo l f.name).length = put l f := by
  have e := parts h f.name
  rw [hg] at e
  unfold put
  generalize lo l f.name = A at *
  generalize hi l f.name = B at *
  rw [e]; simp
theorem era_del {l : List Fl} (h : Rising l) {nm : ByteArray} {g : Fl} (hg : get l nm = some g) : l.take (lo l nm).length ++ l.drop ((lo l nm).length + 1) = del l nm := by
  have e := parts h nm
  rw [hg] at e
  unfold del
  generalize lo l nm = A at *
  generalize hi l nm = B at *
  rw [e, List.append_assoc, List.take_left', List.drop_append]
  · simp
  · rfl

theorem get_put {l : List Fl} (h : Rising l) (f : Fl) (nm : ByteArray) : get (put l f) nm = if f.name = nm then some f else get l nm := by
  by_cases e : f.name = nm
  · subst e
    rw [if_pos rfl]
    unfold get put
    rw [List.find?_append, List.find?_eq_none.2]
    · simp
    · intro g hg
      have := nlt_ne (lo_lt hg).1
      simpa using this
  · rw [if_neg e]
    have p := parts h f.name
    unfold get put
    conv => rhs; rw [p]
    rw [List.find?_append, List.find?_append, List.find?_append, List.find?_cons]
    simp only [e, decide_false]
    cases hg : get l f.name with
    | none => simp
    | some g =>
      have : g.name ≠ nm := by rw [get_name hg]; exact e
      simp [this]
theorem get_del {l : List Fl} (h : Rising l) (a nm : ByteArray) : get (del l a) nm = if a = nm then none else get l nm := by
  by_cases e : a = nm
  · subst e
    rw [if_pos rfl]
    apply List.find?_eq_none.2
    intro g hg
    rcases List.mem_append.1 hg with hg | hg
    · have := nlt_ne (lo_lt hg).1; simpa using this
    · have := nlt_ne (hi_lt hg).1; simpa using fun e => this e.symm
  · rw [if_neg e]
    have p := parts h a
    unfold get del
    conv => rhs; rw [p]
    rw [List.find?_append, List.find?_append, List.find?_append]
    cases hg : get l a with
    | none => simp
    | some g =>
      have : g.name ≠ nm := by rw [get_name hg]; exact e
      simp [this]

/-- What a crash leaves of a file. -/
def Fl.crash (f : Fl) (keep : Int) : Fl := ⟨f.name, f.data.take (f.synced + min keep.toNat (f.data.length - f.synced)), f.synced + min keep.toNat (f.data.length - f.synced)⟩
theorem rising_map {l : List Fl} (h : Rising l) (g : Fl → Fl) (hg : ∀ f, (g f).name = f.name) : Rising (l.map g) := by
  unfold Rising
  rw [List.pairwise_map]
  exact h.imp (fun {a b} hab => by rw [hg a, hg b]; exact hab)
theorem get_map (l : List Fl) (g : Fl → Fl) (hg : ∀ f, (g f).name = f.name) (nm : ByteArray) : get (l.map g) nm = (get l nm).map g := by
  unfold get
  rw [List.find?_map]
  congr 2
  funext f
  simp [hg f]

/-- A disk. -/
structure Dm where
  limit : Nat
  files : List Fl
  left : Int
  down : Bool

/-- What always holds of one. -/
structure Dm.Ok (d : Dm) : Prop where
  lim : d.limit ≤ 16777216
  room : used d.files ≤ d.limit
  rise : Rising d.files
  sync : ∀ f ∈ d.files, f.synced ≤ f.data.length
  rng : ∀ f ∈ d.files, ∀ n ∈ f.data, 0 ≤ n ∧ n ≤ 255
  name : ∀ f ∈ d.files, 1 ≤ f.name.size ∧ f.name.size ≤ 32
  l1 : -9223372036854775808 ≤ d.left
  l2 : d.left ≤ 9223372036854775807

/-- One call is counted. -/
def Dm.spend (d : Dm) : Dm := if 0 < d.left then { d with left := d.left - 1, down := decide (d.left - 1 = 0) } else d

def okName (nm : ByteArray) : Bool := decide (1 ≤ nm.size ∧ nm.size ≤ 32)

def Dm.create (d : Dm) (nm : ByteArray) : Dm × Int :=
  if okName nm = false then (d, 1) else if d.spend.down = true then (d.spend, 13) else ({ d.spend with files := put d.files ⟨nm, [], 0⟩ }, 0)
def Dm.writes (d : Dm) (n : Nat) : Bool := !d.down && decide (n + used d.files ≤ d.limit)
def Dm.append (d : Dm) (nm : ByteArray) (b : List Int) : Dm × Int :=
  match get d.files nm with
  | none => (d, 22)
  | some f => (if d.writes b.length = true then { d.spend with files := put d.files ⟨nm, f.data ++ b, f.synced⟩ } else d.spend, if d.writes b.length = true ∧ d.spend.down = false then 0 else 13)
def Dm.sync (d : Dm) (nm : ByteArray) : Dm × Int :=
  match get d.files nm with
  | none => (d, 22)
  | some f => if d.spend.down = true then (d.spend, 13) else ({ d.spend with files := put d.files ⟨nm, f.data, f.data.length⟩ }, 0)
def Dm.cut (d : Dm) (nm : ByteArray) (n : Int) : Dm × Int :=
  match get d.files nm with
  | none => (d, 22)
  | some f => if n < 0 ∨ (f.data.length : Int) < n then (d, 1) else if d.spend.down = true then (d.spend, 13) else ({ d.spend with files := put d.files ⟨nm, f.data.take n.toNat, n.toNat⟩ }, 0)
def Dm.rename (d : Dm) (nm to : ByteArray) : Dm × Int :=
  match get d.files nm with
  | none => (d, 22)
  | some f => if okName to = false then (d, 1) else if d.spend.down = true then (d.spend, 13) else ({ d.spend with files := put (del d.files nm) ⟨to, f.data, f.synced⟩ }, 0)
def Dm.remove (d : Dm) (nm : ByteArray) : Dm × Int :=
  match get d.files nm with
  | none => (d, 22)
  | some _ => if d.spend.down = true then (d.spend, 13) else ({ d.spend with files := del d.files nm }, 0)
def Dm.arm (d : Dm) (n : Int) : Dm := if d.down = true then d else { d with left := n }
def Dm.crash (d : Dm) (keep : Int) : Dm := ⟨d.limit, d.files.map (fun f => f.crash keep), 0, false⟩
def Dm.grow (d : Dm) (n : Int) : Dm × Bool := if n < used d.files ∨ 16777216 < n then (d, false) else ({ d with limit := n.toNat }, true)

theorem Dm.spend_files (d : Dm) : d.spend.files = d.files := by unfold Dm.spend; split <;> rfl
theorem Dm.spend_limit (d : Dm) : d.spend.limit = d.limit := by unfold Dm.spend; split <;> rfl
theorem Dm.Ok.spend {d : Dm} (h : d.Ok) : d.spend.Ok := by
  have e1 := h.l1; have e2 := h.l2
  refine ⟨by rw [d.spend_limit]; exact h.lim, by rw [d.spend_files, d.spend_limit]; exact h.room, by rw [d.spend_files]; exact h.rise, by rw [d.spend_files]; exact h.sync, by rw [d.spend_files]; exact h.rng, by rw [d.spend_files]; exact h.name, ?_, ?_⟩ <;> (unfold Dm.spend; split <;> (try show _ ≤ _ - (1 : Int)) <;> (try show _ - (1 : Int) ≤ _) <;> omega)

theorem mem_put {l : List Fl} {f g : Fl} (h : g ∈ put l f) : g = f ∨ g ∈ l := by
  rcases List.mem_append.1 h with h | h
  · exact .inr (lo_lt h).2
  · rcases List.mem_cons.1 h with h | h
    · exact .inl h
    · exact .inr (hi_lt h).2
theorem mem_del {l : List Fl} {nm : ByteArray} {g : Fl} (h : g ∈ del l nm) : g ∈ l := by
  rcases List.mem_append.1 h with h | h
  · exact (lo_lt h).2
  · exact (hi_lt h).2

theorem Dm.Ok.files {d : Dm} (h : d.Ok) (l : List Fl) (hr : Rising l) (hu : used l ≤ d.limit) (hm : ∀ f ∈ l, f ∈ d.files ∨ (f.synced ≤ f.data.length ∧ (∀ n ∈ f.data, 0 ≤ n ∧ n ≤ 255) ∧ 1 ≤ f.name.size ∧ f.name.size ≤ 32)) : Dm.Ok { d with files := l } :=
  ⟨h.lim, hu, hr, fun f hf => (hm f hf).elim (h.sync f) (·.1), fun f hf => (hm f hf).elim (h.rng f) (·.2.1), fun f hf => (hm f hf).elim (h.name f) (·.2.2), h.l1, h.l2⟩
theorem Dm.Ok.put {d : Dm} (h : d.Ok) (f : Fl) (hu : used (del d.files f.name) + f.data.length ≤ d.limit) (h1 : f.synced ≤ f.data.length) (h2 : ∀ n ∈ f.data, 0 ≤ n ∧ n ≤ 255) (h3 : 1 ≤ f.name.size ∧ f.name.size ≤ 32) : Dm.Ok { d with files := YtgleblfkcdkaeaaDoor.put d.files f } :=
  h.files _ (rising_put h.rise f) (by rw [used_put]; exact hu) (fun g hg => (mem_put hg).elim (fun e => by subst e; exact .inr ⟨h1, h2, h3⟩) .inl)
theorem Dm.Ok.del {d : Dm} (h : d.Ok) (nm : ByteArray) : Dm.Ok { d with files := YtgleblfkcdkaeaaDoor.del d.files nm } :=
  h.files _ (rising_del h.rise nm) (by have := used_parts h.rise nm; have := h.room; omega) (fun g hg => .inl (mem_del hg))

end Go.Proofs.YtgleblfkcdkaeaaDoor
