/- The walks of strings.Cut at one byte. -/
import Derived.Test.YtcloepkaieifpaaDoorTextB
namespace Go.Proofs.YtcloepkaieifpaaDoor
open Go.RowKit Go.Sort

theorem indexByte_none : ∀ (l : List UInt8), 47 ∉ l → Lib.indexByte l 47 = -1
  | [], _ => rfl
  | c :: l, h => by
    simp at h
    have ih := indexByte_none l h.2
    unfold Lib.indexByte
    have hc : (c == 47) = false := by simpa using fun e => h.1 e.symm
    simp [hc, ih]
theorem indexByte_some : ∀ (a b : List UInt8), 47 ∉ a → Lib.indexByte (a ++ 47 :: b) 47 = a.length
  | [], b, _ => by unfold Lib.indexByte; simp
  | c :: a, b, h => by
    simp at h
    have ih := indexByte_some a b h.2
    have hc : (c == 47) = false := by simpa using fun e => h.1 e.symm
    rw [List.cons_append]
    unfold Lib.indexByte
    have hn : (Lib.indexByte (a ++ 47 :: b) 47 == -1) = false := by rw [ih, beq_eq_false_iff_ne]; omega
    simp only [hc, hn]
    simp [ih]

theorem of_list {x : ByteArray} {l : List UInt8} (h : x.data.toList = l) : x = ⟨l.toArray⟩ := by
  apply ByteArray.ext
  subst h; simp
theorem ret_tuple3 {a b c a' b' c' : Value} (h1 : a = a') (h2 : b = b') (h3 : c = c') : Ending.returned (.tuple #[a, b, c]) = .returned (.tuple #[a', b', c']) := by rw [h1, h2, h3]

theorem inner_none (s : ByteArray) (h : 47 ∉ s.data.toList) (w : World) :
    Calls Tryd.prog 44 #[.string s, .string ⟨#[47]⟩] w fun e w' => e = .returned (.tuple #[.string s, .string ⟨#[]⟩, .bool false]) ∧ ∃ n, w' = w.drewN n := by
  have hi := indexByte_none _ h
  go_enter Tryd.func44, Tryd.ntmps44
  go_wp2_with (go_at_call 48; refine (Tryd.stringslite_Index_one _ _ _).mono ?_; rintro e w' ⟨rfl, rfl⟩)
  go_ret3
  exact ⟨rfl, 0, rfl⟩
theorem inner_some (s : ByteArray) (a b : List UInt8) (h : s.data.toList = a ++ 47 :: b) (ha : 47 ∉ a) (hs : s.size ≤ maxLen) (w : World) :
    Calls Tryd.prog 44 #[.string s, .string ⟨#[47]⟩] w fun e w' => e = .returned (.tuple #[.string ⟨a.toArray⟩, .string ⟨b.toArray⟩, .bool true]) ∧ ∃ n, w' = w.drewN n := by
  have hi := indexByte_some a b ha
  rw [← h] at hi
  have hz : a.length + 1 + b.length = s.size := by
    have := congrArg List.length h
    simp at this; omega
  unfold maxLen at hs
  have z1 : (a.length : Int) < (s.size : Int) := by omega
  have z2 : (a.length : Int) + 1 ≤ (s.size : Int) := by omega
  have HH : Hid (s.data.toList = a ++ 47 :: b) := h
  have HZ : Hid (a.length + 1 + b.length = s.size) := hz
  clear h hz
  go_enter Tryd.func44, Tryd.ntmps44
  go_wp2_with (go_at_call 48; refine (Tryd.stringslite_Index_one _ _ _).mono ?_; rintro e w' ⟨rfl, rfl⟩)
  go_quiet (fail)
  go_wp2
  go_ret3
  have x1 : s.extract 0 a.length = ⟨a.toArray⟩ := of_list (by rw [Lib.extract_data, HH.out]; simp)
  have x2 : s.extract (a.length + 1) s.size = ⟨b.toArray⟩ := of_list (by rw [Lib.extract_data, HH.out, ← HZ.out]; simp)
  exact ⟨ret_tuple3 (by rw [← x1]; rfl) (by rw [← x2]; rfl) rfl, _, rfl⟩

theorem cut_none (s : ByteArray) (h : 47 ∉ s.data.toList) (w : World) :
    Calls Tryd.prog 34 #[.string s, .string ⟨#[47]⟩] w fun e w' => e = .returned (.tuple #[.string s, .string ⟨#[]⟩, .bool false]) ∧ ∃ n, w' = w.drewN n := by
  go_enter Tryd.func34, Tryd.ntmps34
  go_wp2_with (go_at_call 44; refine (inner_none s h _).mono ?_; rintro e w' ⟨rfl, n, rfl⟩)
  go_ret3
  exact ⟨rfl, _, rfl⟩
theorem cut_some (s : ByteArray) (a b : List UInt8) (h : s.data.toList = a ++ 47 :: b) (ha : 47 ∉ a) (hs : s.size ≤ maxLen) (w : World) :
    Calls Tryd.prog 34 #[.string s, .string ⟨#[47]⟩] w fun e w' => e = .returned (.tuple #[.string ⟨a.toArray⟩, .string ⟨b.toArray⟩, .bool true]) ∧ ∃ n, w' = w.drewN n := by
  have HH : Hid (s.data.toList = a ++ 47 :: b) := h
  clear h
  go_enter Tryd.func34, Tryd.ntmps34
  go_wp2_with (go_at_call 44; refine (inner_some s a b HH.out ha hs _).mono ?_; rintro e w' ⟨rfl, n, rfl⟩)
  go_ret3
  exact ⟨rfl, _, rfl⟩
end Go.Proofs.YtcloepkaieifpaaDoor
