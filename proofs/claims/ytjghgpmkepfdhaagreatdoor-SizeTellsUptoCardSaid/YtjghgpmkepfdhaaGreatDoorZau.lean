/- What the program and the document's answer say of numbers. Conditions: none. -/
import Derived.Test.YtjghgpmkepfdhaaGreatDoorZac
namespace Go.Proofs.YtjghgpmkepfdhaaGreatDoor
open Go.RowKit

/-- What 'Number' answers. -/
def numV (s : ByteArray) : Value := .tuple #[.int .i64 ((Wd.number s).getD 0 : Nat), .bool (Wd.number s).isSome]

theorem ret_num {a c : Int} {b d : Bool} (h : a = c) (h' : b = d) : Ending.returned (.tuple #[.int .i64 a, .bool b]) = .returned (.tuple #[.int .i64 c, .bool d]) := by rw [h, h']

theorem byte48 {b : UInt8} (h : ((b.toNat : Int) == 48) = true) : b = 48 := by
  apply UInt8.toNat_inj.1
  have : (b.toNat : Int) = 48 := by simpa using h
  show b.toNat = 48
  omega
theorem byte48_no {b : UInt8} (h : ((b.toNat : Int) == 48) = false) : ¬ b = 48 := by
  rintro rfl
  simp at h

theorem acc_lt {acc k : Nat} (h : acc < 10 ^ k) (hk : k ≤ 8) : acc < 100000000 :=
  Nat.lt_of_lt_of_le h (Nat.pow_le_pow_right (by decide) hk : 10 ^ k ≤ 10 ^ 8)
theorem acc_step {acc k x : Nat} (h : acc < 10 ^ k) (hx : x ≤ 9) : acc * 10 + x < 10 ^ (k + 1) := by
  rw [Nat.pow_succ]; omega

theorem number_loop_end (s : ByteArray) (n : Nat) (h : Wd.number s = some n) : Ending.returned (.tuple #[.int .i64 (n : Int), .bool true]) = .returned (numV s) := by
  unfold numV; rw [h]; rfl
theorem number_loop_no (s : ByteArray) (h : Wd.number s = none) : Ending.returned (.tuple #[.int .i64 0, .bool false]) = .returned (numV s) := by
  unfold numV; rw [h]; rfl

set_option maxHeartbeats 400000 in
theorem number_any (s : ByteArray) (w : World) : Calls Tryz.prog 195 #[.string s] w fun e w' => e = .returned (numV s) ∧ w = w' := by
  by_cases hlen : s.size < 1 ∨ 9 < s.size
  · have HN := Lib.hid (number_loop_no s (Wd.num_len s hlen))
    rcases hlen with h | h
    · go_enter Tryz.func195, Tryz.ntmps195
      go_wp2
      go_ret2
      exact ⟨HN.out, rfl⟩
    · go_enter Tryz.func195, Tryz.ntmps195
      go_wp2
      go_ret2
      exact ⟨HN.out, rfl⟩
  · have h1 : 1 ≤ s.size := by omega
    have h2 : s.size ≤ 9 := by omega
    clear hlen
    by_cases h0 : s[0] = 48 ∧ 1 < s.size
    · have HN := Lib.hid (number_loop_no s (Wd.num_nought s h0.2 h0.1))
      have hs1 := h0.2
      have hb : ((s[0].toNat : Int) == 48) = true := by rw [h0.1]; rfl
      clear h0
      go_enter Tryz.func195, Tryz.ntmps195
      go_wp2
      go_ret2
      exact ⟨HN.out, rfl⟩
    · have HG := Lib.hid (Wd.num_go s h1 h2 h0)
      have hsplit : (((s[0].toNat : Int) == 48) = false) ∨ (((s[0].toNat : Int) == 48) = true ∧ s.size = 1) := by
        cases hb : ((s[0].toNat : Int) == 48) with
        | false => exact .inl rfl
        | true =>
          refine .inr ⟨rfl, ?_⟩
          rcases Nat.lt_or_ge 1 s.size with h | h
          · exact absurd ⟨byte48 hb, h⟩ h0
          · omega
      clear h0
      go_enter Tryz.func195, Tryz.ntmps195
      rcases hsplit with hb | ⟨hb, hs1⟩
      all_goals
        go_wp2
        go_loop [4, 5] (fun n i => ∃ k acc : Nat, k ≤ s.size ∧ i = .int .i64 k ∧ n = .int .i64 acc ∧ Hid (acc < 10 ^ k) ∧ Hid (Wd.numFrom acc (s.data.toList.drop k) = Wd.number s)) (fun _ i => s.size - (intOf i).toNat)
        case atStart => exact ⟨0, 0, by omega, rfl, rfl, Nat.lt_succ_self 0, HG.out.symm⟩
        case round =>
          obtain ⟨k, acc, hk, rfl, rfl, hacc, hr⟩ := hrel
          by_cases hlt : k < s.size
          · by_cases hd : Wd.isDigit (s[k].toNat : Int) = true
            · have HD := Lib.hid hd
              have hb48 := (Wd.isDigit_iff _).1 hd
              obtain ⟨hb1, hb2⟩ := hb48
              have ha8 := acc_lt hacc.out (by omega)
              have HR := Lib.hid (Wd.num_yes s acc k hlt hr.out hd)
              clear hd
              go_wp2_with fail
              refine (digit_any _ _).mono ?_
              rintro e w2 ⟨rfl, rfl⟩
              rw [HD.out]
              go_wp2
              go_round
              case rel =>
                refine ⟨k + 1, acc * 10 + (s[k].toNat - 48), by omega, by go_num, ?_, acc_step hacc.out (by omega), HR.out⟩
                congr 1; omega
              case measure => simp [intOf]; omega
            · have hd0 : Wd.isDigit (s[k].toNat : Int) = false := by simpa using hd
              have HD := Lib.hid hd0
              have HN := Lib.hid (number_loop_no s (Wd.num_no s acc k hlt hr.out hd0))
              clear hd hd0
              go_wp2_with fail
              refine (digit_any _ _).mono ?_
              rintro e w2 ⟨rfl, rfl⟩
              rw [HD.out]
              go_wp2
              go_ret2
              exact ⟨HN.out, rfl⟩
          · have HE := Lib.hid (number_loop_end s acc (Wd.num_end s acc k hlt hr.out))
            go_wp2
            go_ret2
            exact ⟨HE.out, rfl⟩

set_option maxHeartbeats 400000 in
theorem refNumber_any (s : ByteArray) (w : World) : Calls Tryz.prog 76 #[.string s] w fun e w' => e = .returned (numV s) ∧ w = w' := by
  by_cases hlen : s.size < 1 ∨ 9 < s.size
  · have HN := Lib.hid (number_loop_no s (Wd.num_len s hlen))
    rcases hlen with h | h
    · go_enter Tryz.func76, Tryz.ntmps76
      go_wp2
      go_ret2
      exact ⟨HN.out, rfl⟩
    · go_enter Tryz.func76, Tryz.ntmps76
      go_wp2
      go_ret2
      exact ⟨HN.out, rfl⟩
  · have h1 : 1 ≤ s.size := by omega
    have h2 : s.size ≤ 9 := by omega
    clear hlen
    by_cases h0 : s[0] = 48 ∧ 1 < s.size
    · have HN := Lib.hid (number_loop_no s (Wd.num_nought s h0.2 h0.1))
      have hs1 := h0.2
      have hb : ((s[0].toNat : Int) == 48) = true := by rw [h0.1]; rfl
      clear h0
      go_enter Tryz.func76, Tryz.ntmps76
      go_wp2
      go_ret2
      exact ⟨HN.out, rfl⟩
    · have HG := Lib.hid (Wd.num_go s h1 h2 h0)
      have hsplit : (((s[0].toNat : Int) == 48) = false) ∨ (((s[0].toNat : Int) == 48) = true ∧ s.size = 1) := by
        cases hb : ((s[0].toNat : Int) == 48) with
        | false => exact .inl rfl
        | true =>
          refine .inr ⟨rfl, ?_⟩
          rcases Nat.lt_or_ge 1 s.size with h | h
          · exact absurd ⟨byte48 hb, h⟩ h0
          · omega
      clear h0
      go_enter Tryz.func76, Tryz.ntmps76
      rcases hsplit with hb | ⟨hb, hs1⟩
      all_goals
        go_wp2
        go_loop [4, 5] (fun n i => ∃ k acc : Nat, k ≤ s.size ∧ i = .int .i64 k ∧ n = .int .i64 acc ∧ Hid (acc < 10 ^ k) ∧ Hid (Wd.numFrom acc (s.data.toList.drop k) = Wd.number s)) (fun _ i => s.size - (intOf i).toNat)
        case atStart => exact ⟨0, 0, by omega, rfl, rfl, Nat.lt_succ_self 0, HG.out.symm⟩
        case round =>
          obtain ⟨k, acc, hk, rfl, rfl, hacc, hr⟩ := hrel
          by_cases hlt : k < s.size
          · by_cases hd : Wd.isDigit (s[k].toNat : Int) = true
            · have HD := Lib.hid hd
              have hb48 := (Wd.isDigit_iff _).1 hd
              obtain ⟨hb1, hb2⟩ := hb48
              have ha8 := acc_lt hacc.out (by omega)
              have HR := Lib.hid (Wd.num_yes s acc k hlt hr.out hd)
              clear hd
              go_wp2_with fail
              refine (refDigit_any _ _).mono ?_
              rintro e w2 ⟨rfl, rfl⟩
              rw [HD.out]
              go_wp2
              go_round
              case rel =>
                refine ⟨k + 1, acc * 10 + (s[k].toNat - 48), by omega, by go_num, ?_, acc_step hacc.out (by omega), HR.out⟩
                congr 1; omega
              case measure => simp [intOf]; omega
            · have hd0 : Wd.isDigit (s[k].toNat : Int) = false := by simpa using hd
              have HD := Lib.hid hd0
              have HN := Lib.hid (number_loop_no s (Wd.num_no s acc k hlt hr.out hd0))
              clear hd hd0
              go_wp2_with fail
              refine (refDigit_any _ _).mono ?_
              rintro e w2 ⟨rfl, rfl⟩
              rw [HD.out]
              go_wp2
              go_ret2
              exact ⟨HN.out, rfl⟩
          · have HE := Lib.hid (number_loop_end s acc (Wd.num_end s acc k hlt hr.out))
            go_wp2
            go_ret2
            exact ⟨HE.out, rfl⟩

end Go.Proofs.YtjghgpmkepfdhaaGreatDoor
