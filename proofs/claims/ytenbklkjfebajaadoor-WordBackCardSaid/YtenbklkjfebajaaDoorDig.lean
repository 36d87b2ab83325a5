/- What the program and the document's answer say of the digits of a number. Conditions: for the program, the table of powers of ten lies in memory. -/
import Derived.Test.YtenbklkjfebajaaDoorShelf
import Derived.Laws.BytesArg
namespace Go.Proofs.YtenbklkjfebajaaDoor
open Go.RowKit
open Go.Lib (decDigits itoa)

theorem digits_any (n : Int) (h0 : -9223372036854775808 ≤ n) (h1 : n ≤ 9223372036854775807) (w : World) (hp : PowIn w) :
    Calls Tryd.prog 21 #[.int .i64 n] w fun e w' => e = .returned (.string ⟨(Lib.itoa n).toArray⟩) ∧ Below w.heap.size w w' := by
  go_enter Tryd.func21, Tryd.ntmps21
  go_wp2_with fail
  refine (itoa_any n h0 h1 _ hp).mono ?_
  rintro e w1 ⟨rfl, hb1⟩
  go_wp2
  go_ret
  exact ⟨rfl, hb1⟩

/-- A text of one byte. -/
def one (x : Int) : ByteArray := ⟨#[UInt8.ofNat x.toNat]⟩
theorem one_size (x : Int) : (one x).size = 1 := rfl
/-- A text of one byte, out of a list of one. -/
theorem conv1 (W : World) (x : Int) : (convert 38 9 (.slice (some ⟨W.heap.size, 0, none⟩) 1 1)).run Tryd.prog (W.alloc (.cells #[.int .u8 x] 5)) =
    .ok (.string (one x)) (W.alloc (.cells #[.int .u8 x] 5)) := by
  refine run_convert_bytes_arg (W.alloc (.cells #[.int .u8 x] 5)) 38 5 Tryd.underlying38 Tryd.underlying5 W.heap.size 0 1 1 [x] rfl ?_ 9 Tryd.underlying9
  intro i hi
  obtain rfl : i = 0 := by omega
  exact cell_of_row _ W.heap.size 0 #[.int .u8 x] 5 (0, 0) (heap_new W _)

/-- The digits ahead of the last. -/
def pre (v : Nat) : List UInt8 := if v < 10 then [] else decDigits (v / 10)
theorem dec_pre (v : Nat) : decDigits v = pre v ++ (one (48 + (v : Int) % 10)).data.toList := by
  have hb : (one (48 + (v : Int) % 10)).data.toList = [UInt8.ofNat (48 + v % 10)] := by
    have h : ((48 : Int) + (v : Int) % 10).toNat = 48 + v % 10 := by omega
    show [UInt8.ofNat _] = _
    rw [h]
  rw [hb]
  unfold pre
  by_cases h : v < 10
  · rw [if_pos h, Wd.dec_small h, Nat.mod_eq_of_lt h]; rfl
  · rw [if_neg h, Wd.dec_big h]
theorem app_list (a b : ByteArray) : (a ++ b).data.toList = a.data.toList ++ b.data.toList := by
  rw [ByteArray.data_append, Array.toList_append]
theorem of_list (b : ByteArray) (l : List UInt8) (h : b.data.toList = l) : b = ⟨l.toArray⟩ := by
  subst h; cases b; simp

theorem bytes_app (a b : List UInt8) : (⟨a.toArray⟩ : ByteArray) ++ ⟨b.toArray⟩ = ⟨(a ++ b).toArray⟩ :=
  of_list _ _ (by rw [app_list])

theorem pre_step (u v : Nat) (S : ByteArray) (h : decDigits u = pre v ++ S.data.toList) (hv : 10 ≤ v) : decDigits u = pre (v / 10) ++ (one (48 + (v : Int) / 10 % 10) ++ S).data.toList := by
  rw [app_list, ← List.append_assoc]
  have h2 := dec_pre (v / 10)
  have h3 : (((v / 10 : Nat) : Int)) = (v : Int) / 10 := by omega
  rw [h3] at h2
  rw [← h2, h]
  unfold pre
  rw [if_neg (by omega)]
theorem pre_end (u v : Nat) (S : ByteArray) (h : decDigits u = pre v ++ S.data.toList) (hv : v < 10) : S = ⟨(decDigits u).toArray⟩ := by
  apply of_list
  rw [h]; unfold pre; rw [if_pos hv]; rfl
theorem size_le (u v : Nat) (S : ByteArray) (h : decDigits u = pre v ++ S.data.toList) (h2 : u ≤ 9223372036854775808) : S.size ≤ 20 := by
  have hl := Lib.decDigits_length u
  have hs : S.data.toList.length = S.size := rfl
  rw [h, List.length_append, hs] at hl
  have : Lib.nDigits u ≤ 20 := by
    rcases Nat.eq_zero_or_pos u with e | e
    · subst e; rw [Lib.nDigits_small (by omega)]; omega
    · have hn := Lib.numDigits_eq u e (by omega)
      have := hn.1
      split at this <;> omega
  omega

theorem refDigits_neg (u : Nat) (h0 : 1 ≤ u) (h1 : u ≤ 9223372036854775808) (w : World) :
    Calls Tryd.prog 22 #[.int .i64 (-(u : Int))] w fun e w' => e = .returned (.string ⟨(Lib.itoa (-(u : Int))).toArray⟩) ∧ Below w.heap.size w w' := by
  have hcv := conv1
  have hu : 0 < u := h0
  go_enter Tryd.func22, Tryd.ntmps22
  go_wp2
  go_loopw [0, 4] (fun n s wr => ∃ (v : Nat) (S : ByteArray), v ≤ 9223372036854775808 ∧ n = .int .i64 (-(v : Int)) ∧ s = .string S ∧ Below w.heap.size w wr ∧ Hid (decDigits u = pre v ++ S.data.toList)) (fun n _ _ => (intOf n).natAbs)
  case atStart =>
    exact ⟨u, _, h1, rfl, rfl, (Below.refl _ w).alloc (Nat.le_refl _) _, dec_pre u⟩
  case round =>
    obtain ⟨v, S, hv, rfl, rfl, hb, hd⟩ := hrel
    have hsz := size_le u v S hd.out h1
    by_cases hge : 10 ≤ v
    · have HS := Lib.hid (pre_step u v S hd.out hge)
      have h1s : ¬ 9223372036854775807 < (one (48 + (v : Int) / 10 % 10)).size + S.size := by rw [one_size]; omega
      go_wp2
      go_roundw
      case rel => exact ⟨v / 10, _, by omega, by go_num, rfl, hb.alloc hb.size _, HS.out⟩
      case measure => simp [intOf]; omega
    · have HS := Lib.hid (pre_end u v S hd.out (by omega))
      go_wp2
      go_ret
      refine ⟨?_, hb⟩
      rw [HS.out]
      unfold itoa
      rw [if_pos (by omega), show (-(u : Int)).natAbs = u by omega]
      exact congrArg (fun x => Ending.returned (.string x)) (bytes_app [45] (decDigits u))

theorem refDigits_pos (u : Nat) (h1 : u ≤ 9223372036854775807) (w : World) :
    Calls Tryd.prog 22 #[.int .i64 (u : Int)] w fun e w' => e = .returned (.string ⟨(Lib.itoa (u : Int)).toArray⟩) ∧ Below w.heap.size w w' := by
  have hcv := conv1
  go_enter Tryd.func22, Tryd.ntmps22
  go_wp2
  go_loopw [0, 4] (fun n s wr => ∃ (v : Nat) (S : ByteArray), v ≤ 9223372036854775808 ∧ n = .int .i64 (-(v : Int)) ∧ s = .string S ∧ Below w.heap.size w wr ∧ Hid (decDigits u = pre v ++ S.data.toList)) (fun n _ _ => (intOf n).natAbs)
  case atStart =>
    exact ⟨u, _, by omega, rfl, rfl, (Below.refl _ w).alloc (Nat.le_refl _) _, dec_pre u⟩
  case round =>
    obtain ⟨v, S, hv, rfl, rfl, hb, hd⟩ := hrel
    have hsz := size_le u v S hd.out (by omega)
    by_cases hge : 10 ≤ v
    · have HS := Lib.hid (pre_step u v S hd.out hge)
      have h1s : ¬ 9223372036854775807 < (one (48 + (v : Int) / 10 % 10)).size + S.size := by rw [one_size]; omega
      go_wp2
      go_roundw
      case rel => exact ⟨v / 10, _, by omega, by go_num, rfl, hb.alloc hb.size _, HS.out⟩
      case measure => simp [intOf]; omega
    · have HS := Lib.hid (pre_end u v S hd.out (by omega))
      go_wp2
      go_ret
      refine ⟨?_, hb⟩
      rw [HS.out]
      unfold itoa
      rw [if_neg (by omega), show ((u : Int)).toNat = u by omega]
      exact congrArg (fun x => Ending.returned (.string x)) (bytes_app [] (decDigits u))

theorem refDigits_any (n : Int) (h0 : -9223372036854775808 ≤ n) (h1 : n ≤ 9223372036854775807) (w : World) :
    Calls Tryd.prog 22 #[.int .i64 n] w fun e w' => e = .returned (.string ⟨(Lib.itoa n).toArray⟩) ∧ Below w.heap.size w w' := by
  rcases Int.lt_or_le n 0 with h | h
  · obtain ⟨u, rfl⟩ : ∃ u : Nat, n = -(u : Int) := ⟨n.natAbs, by omega⟩
    exact refDigits_neg u (by omega) (by omega) w
  · obtain ⟨u, rfl⟩ : ∃ u : Nat, n = (u : Int) := ⟨n.toNat, by omega⟩
    exact refDigits_pos u (by omega) w

end Go.Proofs.YtenbklkjfebajaaDoor
