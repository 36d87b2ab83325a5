/- What the document's answer for layer 1 returns: Of gives line and column of a place, Back the byte at a place. Conditions: the text is at most 1000 bytes. -/
import Derived.Test.YtllfpldcilceaaaChecked
import Derived.Test.YtllfpldcilceaaaMath
import Derived.WalkKit
import Derived.BigQuiet
import Derived.Deep.QuietTactic
import Derived.LoopTactic
import Derived.Lib.Hide
import Derived.IntWalk
namespace Go.Proofs.Ytllfpldcilceaaa
open Go.RowKit

theorem ret_ii {a b c d : Int} (h : a = c) (h' : b = d) : Ending.returned (.tuple #[.int .i64 a, .int .i64 b]) = .returned (.tuple #[.int .i64 c, .int .i64 d]) := by rw [h, h']

/-- One step of 'pos', in the walk's own spelling. -/
theorem step_yes (s : ByteArray) (k : Nat) (h : k < s.size) (e : ((s[k].toNat : Int) == 10) = true) : Pl.pos s.data.toList (k + 1) = ((Pl.pos s.data.toList k).1 + 1, 1) := by
  have h1 : s.data.toList[k]'h = 10 := by
    have h2 : (s[k].toNat : Int) = 10 := by simpa using e
    have h3 : s[k] = 10 := by apply UInt8.toNat_inj.1; show s[k].toNat = 10; omega
    exact h3
  rw [Pl.pos_succ s.data.toList k h, if_pos h1]
theorem step_no (s : ByteArray) (k : Nat) (h : k < s.size) (e : ((s[k].toNat : Int) == 10) = false) : Pl.pos s.data.toList (k + 1) = ((Pl.pos s.data.toList k).1, (Pl.pos s.data.toList k).2 + 1) := by
  have h1 : s.data.toList[k]'h ≠ 10 := by
    intro h2
    have h3 : s[k] = 10 := h2
    rw [h3] at e
    simp at e
  rw [Pl.pos_succ s.data.toList k h, if_neg h1]

set_option maxHeartbeats 400000 in
theorem refOf_any (s : ByteArray) (a : Int) (w : World) (hs : s.size ≤ 1000) :
    Calls Try.prog 8 #[.string s, .int .i64 a] w fun e w' =>
      e = .returned (.tuple #[.int .i64 (Pl.pos s.data.toList (min s.size a.toNat)).1, .int .i64 (Pl.pos s.data.toList (min s.size a.toNat)).2]) ∧ w = w' := by
  go_enter Try.func8, Try.ntmps8
  go_wp2
  go_loop [6, 7, 8] (fun l c i => ∃ k : Nat, k ≤ s.size ∧ k ≤ a.toNat ∧ i = .int .i64 k ∧ l = .int .i64 (Pl.pos s.data.toList k).1 ∧ c = .int .i64 (Pl.pos s.data.toList k).2) (fun _ _ i => s.size - (intOf i).toNat)
  case atStart => exact ⟨0, Nat.zero_le _, Nat.zero_le _, rfl, rfl, rfl⟩
  case round =>
    obtain ⟨k, hk, hka, rfl, rfl, rfl⟩ := hrel
    have hlen : s.data.toList.length = s.size := rfl
    have hb := Pl.pos_bd s.data.toList k hk
    by_cases hlt : k < s.size
    · by_cases hla : (k : Int) < a
      · have HY := Lib.hid (step_yes s k hlt)
        have HN := Lib.hid (step_no s k hlt)
        go_wp2
        · have ht : ((s[k].toNat : Int) == 10) = true := by assumption
          have HS := Lib.hid (HY.out ht)
          go_round
          case rel => exact ⟨k + 1, by omega, by omega, by go_num, by rw [HS.out]; go_num, by rw [HS.out]; rfl⟩
          case measure => simp [intOf]; omega
        · have ht : ((s[k].toNat : Int) == 10) = false := by assumption
          have HS := Lib.hid (HN.out ht)
          go_round
          case rel => exact ⟨k + 1, by omega, by omega, by go_num, by rw [HS.out], by rw [HS.out]; go_num⟩
          case measure => simp [intOf]; omega
      · have hd : decide ((k : Int) < a) = false := by simpa using hla
        have hm : min s.size a.toNat = k := by omega
        have HM := Lib.hid hm
        clear hm
        go_wp2
        go_ret2
        exact ⟨by rw [HM.out]; rfl, rfl⟩
    · have hm : min s.size a.toNat = k := by omega
      have HM := Lib.hid hm
      clear hm
      go_wp2
      go_ret2
      exact ⟨by rw [HM.out]; rfl, rfl⟩

/-- What 'Back' answers. -/
def backV (bs : List UInt8) (l c : Int) : Value := .tuple #[.int .i64 ((Pl.back bs l c).getD 0 : Nat), .bool (Pl.back bs l c).isSome]

set_option maxHeartbeats 400000 in
theorem refBack_any (s : ByteArray) (l c : Int) (w : World) (hs : s.size ≤ 1000) :
    Calls Try.prog 10 #[.string s, .int .i64 l, .int .i64 c] w fun e w' => e = .returned (backV s.data.toList l c) ∧ w = w' := by
  have hlen : s.data.toList.length = s.size := rfl
  go_enter Try.func10, Try.ntmps10
  go_wp2
  go_loop [8] (fun i => ∃ k : Nat, k ≤ s.size + 1 ∧ i = .int .i64 k ∧ ∀ j, j < k → ((Pl.pos s.data.toList j).1 : Int) = l → ((Pl.pos s.data.toList j).2 : Int) ≠ c) (fun i => s.size + 1 - (intOf i).toNat)
  case atStart => exact ⟨0, Nat.zero_le _, rfl, by omega⟩
  case round =>
    obtain ⟨k, hk, rfl, hno⟩ := hrel
    have HNO := Lib.hid hno
    clear hno
    by_cases hlt : k ≤ s.size
    · have hm : min s.size ((k : Int)).toNat = k := by omega
      have HM := Lib.hid hm
      clear hm
      have hb := Pl.pos_bd s.data.toList k hlt
      go_wp2_with (go_at_call 8; refine (refOf_any s k _ hs).mono ?_; rintro e w' ⟨rfl, rfl⟩; rw [HM.out])
      · have h1 : ((Pl.pos s.data.toList k).1 : Int) = l := by assumption
        have h2 : (((Pl.pos s.data.toList k).2 : Int) == c) = true := by assumption
        have HB := Lib.hid (Pl.back_some s.data.toList l c k hlt h1 (by simpa using h2))
        go_ret2
        exact ⟨by unfold backV; rw [HB.out]; rfl, rfl⟩
      · have h2 : (((Pl.pos s.data.toList k).2 : Int) == c) = false := by assumption
        have h3 : ((Pl.pos s.data.toList k).2 : Int) ≠ c := by simpa using h2
        go_round
        case rel =>
          refine ⟨k + 1, by omega, by go_num, fun j hj => ?_⟩
          by_cases e : j = k
          · subst e; exact fun _ => h3
          · exact HNO.out j (by omega)
        case measure => simp [intOf]; omega
      · have h1 : ¬ ((Pl.pos s.data.toList k).1 : Int) = l := by assumption
        go_round
        case rel =>
          refine ⟨k + 1, by omega, by go_num, fun j hj => ?_⟩
          by_cases e : j = k
          · subst e; exact fun h => absurd h h1
          · exact HNO.out j (by omega)
        case measure => simp [intOf]; omega
    · have HB := Lib.hid (Pl.back_none s.data.toList l c (fun i hi => HNO.out i (by omega)))
      go_wp2
      go_ret2
      exact ⟨by unfold backV; rw [HB.out]; rfl, rfl⟩
end Go.Proofs.Ytllfpldcilceaaa
