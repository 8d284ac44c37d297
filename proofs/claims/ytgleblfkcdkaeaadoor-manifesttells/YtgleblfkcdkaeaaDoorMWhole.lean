/- A number's decimal digits, as the document's own Whole writes them, and the names of files. -/
import Derived.Lib.ItoaNum
import Derived.Test.YtgleblfkcdkaeaaDoorMBook
namespace Go.Proofs.YtgleblfkcdkaeaaDoor
set_option maxRecDepth 100000
open Go.RowKit Go.Sort

theorem ret_str {a b : ByteArray} (h : a = b) : Ending.returned (.string a) = .returned (.string b) := by rw [h]
theorem dec_len : ∀ (k u : Nat), u < 10 ^ (k + 1) → (Lib.decDigits u).length ≤ k + 1
  | 0, u, h => by rw [Lib.decDigits, dif_pos (by omega)]; simp
  | k + 1, u, h => by
    rw [Lib.decDigits]
    by_cases hu : u < 10
    · rw [dif_pos hu]; simp
    · rw [dif_neg hu]
      have := dec_len k (u / 10) (by rw [Nat.pow_succ] at h; omega)
      simp; omega
/-- The byte of a digit. -/
def dig (k : Nat) : UInt8 := UInt8.ofNat (48 + k)
/-- What is left of u, and what is written already: together the digits of u0. -/
def Part (u0 u : Nat) (acc : List UInt8) : Prop := if u = 0 ∧ acc ≠ [] then acc = Lib.decDigits u0 else Lib.decDigits u ++ acc = Lib.decDigits u0
theorem Part.start (u0 : Nat) : Part u0 u0 [] := by unfold Part; simp
theorem Part.step {u0 u : Nat} {acc : List UInt8} (h : Part u0 u acc) (hg : 0 < u ∨ acc = []) : Part u0 (u / 10) (dig (u % 10) :: acc) := by
  have h' : Lib.decDigits u ++ acc = Lib.decDigits u0 := by
    unfold Part at h
    have hc : ¬ (u = 0 ∧ acc ≠ []) := by
      rintro ⟨a, b⟩
      rcases hg with c | c
      · omega
      · exact b c
    rwa [if_neg hc] at h
  unfold Part
  by_cases hu : u < 10
  · have e : u / 10 = 0 := by omega
    have e2 : u % 10 = u := by omega
    rw [if_pos ⟨e, by simp⟩, e2, ← h']
    rw [Lib.decDigits, dif_pos hu]; rfl
  · rw [if_neg (by rintro ⟨a, b⟩; omega), ← h']
    conv => rhs; rw [Lib.decDigits, dif_neg hu]
    simp [dig]
theorem Part.done {u0 : Nat} {acc : List UInt8} (h : Part u0 0 acc) (hg : acc ≠ []) : acc = Lib.decDigits u0 := by
  unfold Part at h; rwa [if_pos ⟨rfl, hg⟩] at h
theorem Part.len {u0 u : Nat} {acc : List UInt8} (h : Part u0 u acc) (h0 : u0 < 10 ^ 20) : acc.length ≤ 20 := by
  have hl := dec_len 19 u0 h0
  unfold Part at h
  split at h
  · rw [h]; exact hl
  · have := congrArg List.length h
    simp at this; omega
/-- 1, if a text is empty. -/
def emptyOf : Value → Nat
  | .string b => if b.size = 0 then 1 else 0
  | _ => 0
theorem enc10 (k : Nat) (h : k < 10) : Utf8.encode (48 + (k : Int)) = ⟨#[dig k]⟩ := by
  have : k = 0 ∨ k = 1 ∨ k = 2 ∨ k = 3 ∨ k = 4 ∨ k = 5 ∨ k = 6 ∨ k = 7 ∨ k = 8 ∨ k = 9 := by omega
  rcases this with rfl | rfl | rfl | rfl | rfl | rfl | rfl | rfl | rfl | rfl <;> rfl
theorem emptyOf_cons (c : UInt8) (acc : ByteArray) : emptyOf (.string (⟨#[c]⟩ ++ acc)) = 0 := by
  have h : (⟨#[c]⟩ ++ acc : ByteArray).size ≠ 0 := by
    rw [ByteArray.size_append]
    show 1 + _ ≠ 0
    omega
  show (if (⟨#[c]⟩ ++ acc : ByteArray).size = 0 then 1 else 0) = 0
  rw [if_neg h]
theorem of_bytes {x : ByteArray} {l : List UInt8} (h : x.data.toList = l) : x = ⟨l.toArray⟩ := by
  apply ByteArray.ext
  subst h; simp

theorem parts_nn (n : Int) (h0 : 0 ≤ n) (h1 : n ≤ 9223372036854775807) (w : World) :
    Calls Tryd.prog 44 #[.int .i64 n] w fun e w' => e = .returned (.tuple #[.bool false, .int .u64 n]) ∧ w' = w := by
  have h : ¬ n < 0 := by omega
  have hw : IntKind.u64.wrap n = n := by rw [IntKind.wrap_u64]; omega
  go_enter Tryd.func44, Tryd.ntmps44
  go_wp2
  go_ret2
  exact ⟨rfl, rfl⟩
set_option maxHeartbeats 1000000 in
theorem refwhole_any (u0 : Nat) (hle : u0 ≤ 16777216) (w : World) :
    Calls Tryd.prog 22 #[.int .i64 (u0 : Int)] w fun e w' => e = .returned (.string ⟨(Lib.decDigits u0).toArray⟩) ∧ w' = w := by
  have hu0 : u0 < 10 ^ 20 := by omega
  go_enter Tryd.func22, Tryd.ntmps22
  go_wp2_with fail
  refine (parts_nn _ (by omega) (by omega) _).mono ?_
  rintro e w' ⟨rfl, rfl⟩
  go_wp2
  go_loop [4, 5] (fun a s => ∃ (u : Nat) (acc : ByteArray), u ≤ 16777216 ∧ a = .int .u64 u ∧ s = .string acc ∧ Part u0 u acc.data.toList) (fun a s => (intOf a).toNat + emptyOf s)
  case atStart => exact ⟨u0, ⟨#[]⟩, hle, rfl, rfl, Part.start u0⟩
  case round =>
    obtain ⟨u, acc, hu, rfl, rfl, hp⟩ := hrel
    have hl := hp.len hu0
    have hl' : acc.size ≤ 20 := hl
    have henc : Utf8.encode (48 + (u : Int) % 10) = ⟨#[dig (u % 10)]⟩ := by
      rw [show (48 : Int) + (u : Int) % 10 = 48 + ((u % 10 : Nat) : Int) by omega]; exact enc10 _ (by omega)
    have hz : ¬ 9223372036854775807 < 1 + acc.size := by omega
    have hstep := fun hg => hp.step hg
    by_cases hg : 0 < u
    · have HS : Hid (Part u0 (u / 10) (dig (u % 10) :: acc.data.toList)) := hstep (Or.inl hg)
      clear hstep
      go_wp2
      go_round
      case rel => exact ⟨u / 10, ⟨#[dig (u % 10)]⟩ ++ acc, by omega, by congr 1, rfl, by simpa [ByteArray.data_append] using HS.out⟩
      case measure => rw [emptyOf_cons]; simp [intOf]; omega
    · have hu' : u = 0 := by omega
      subst hu'
      by_cases he : acc.data.toList = []
      · have hacc : acc = ⟨#[]⟩ := by apply ByteArray.ext; simpa using he
        subst hacc
        have HS : Hid (Part u0 (0 / 10) (dig (0 % 10) :: [])) := hstep (Or.inr rfl)
        have henc0 : Utf8.encode 48 = ⟨#[dig 0]⟩ := rfl
        clear hstep henc
        go_wp2
        go_round
        case rel => exact ⟨0, ⟨#[dig 0]⟩ ++ ⟨#[]⟩, by omega, rfl, rfl, by simpa [ByteArray.data_append] using HS.out⟩
        case measure => rw [emptyOf_cons]; exact Nat.zero_lt_one
      · have hd := hp.done he
        have hem : acc.toList.isEmpty = false := by rw [ByteArray.toList_eq]; simpa using he
        have HD : Hid (acc.data.toList = Lib.decDigits u0) := hd
        clear hstep henc hd hp
        go_wp2
        go_ret
        exact ⟨ret_str (of_bytes (by rw [HD.out])), rfl⟩

theorem itoa_nn (u : Nat) : Lib.itoa (u : Int) = Lib.decDigits u := by unfold Lib.itoa; rw [if_neg (by omega)]; rfl

theorem table_any (u : Nat) (h : u ≤ 16777216) (w : World) (ht : Lib.TabIs Tryd.prog w "internal/strconv.uint64pow10" .u64 Lib.pow10Tab) :
    Calls Tryd.prog 21 #[.int .i64 u] w fun e w' => e = .returned (.string (⟨#[116]⟩ ++ ⟨(Lib.decDigits u).toArray⟩)) ∧ Below w.heap.size w w' := by
  have hi := Tryd.strconv_Itoa (u : Int) (by omega) (by omega) w ht
  rw [itoa_nn] at hi
  have hl := dec_len 19 u (by omega)
  have hz : ¬ 9223372036854775807 < 1 + (⟨(Lib.decDigits u).toArray⟩ : ByteArray).size := by show ¬ _ < 1 + (Lib.decDigits u).toArray.size; simp; omega
  generalize (⟨(Lib.decDigits u).toArray⟩ : ByteArray) = S at *
  go_enter Tryd.func21, Tryd.ntmps21
  go_wp2_with fail
  with_reducible refine hi.mono ?_
  rintro e w1 ⟨rfl, k, os, rfl⟩
  have hb := below_regrown w (w.drawn + k) os
  go_wp2
  go_ret
  exact ⟨rfl, hb⟩
theorem wal_any (u : Nat) (h : u ≤ 16777216) (w : World) (ht : Lib.TabIs Tryd.prog w "internal/strconv.uint64pow10" .u64 Lib.pow10Tab) :
    Calls Tryd.prog 23 #[.int .i64 u] w fun e w' => e = .returned (.string (⟨#[119]⟩ ++ ⟨(Lib.decDigits u).toArray⟩)) ∧ Below w.heap.size w w' := by
  have hi := Tryd.strconv_Itoa (u : Int) (by omega) (by omega) w ht
  rw [itoa_nn] at hi
  have hl := dec_len 19 u (by omega)
  have hz : ¬ 9223372036854775807 < 1 + (⟨(Lib.decDigits u).toArray⟩ : ByteArray).size := by show ¬ _ < 1 + (Lib.decDigits u).toArray.size; simp; omega
  generalize (⟨(Lib.decDigits u).toArray⟩ : ByteArray) = S at *
  go_enter Tryd.func23, Tryd.ntmps23
  go_wp2_with fail
  with_reducible refine hi.mono ?_
  rintro e w1 ⟨rfl, k, os, rfl⟩
  have hb := below_regrown w (w.drawn + k) os
  go_wp2
  go_ret
  exact ⟨rfl, hb⟩

end Go.Proofs.YtgleblfkcdkaeaaDoor
