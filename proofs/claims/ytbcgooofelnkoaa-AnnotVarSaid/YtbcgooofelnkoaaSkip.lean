/- What the document's answer leaves out ahead of a text. Condition: the text has at most 16384 bytes. -/
import Derived.Test.YtbcgooofelnkoaaRefSign
namespace Go.Proofs.Ytbcgooofelnkoaa
open Go.RowKit
set_option linter.unusedVariables false

/-- Behind k bytes, in a note or not, what is left out ends where it does from the beginning on. -/
def SkAt (s : ByteArray) (m : Bool) (k : Nat) : Prop := k ≤ s.size ∧ Tk.sk false s.data.toList = k + Tk.sk m (s.data.toList.drop k)

theorem skAt_start (s : ByteArray) : SkAt s false 0 := ⟨Nat.zero_le _, by simp⟩
theorem skAt_blank {s : ByteArray} {k : Nat} (h : k < s.size) (hr : SkAt s false k) (hb : Wd.isBlank (s[k].toNat : Int) = true) : SkAt s false (k + 1) := by
  refine ⟨h, ?_⟩
  have := hr.2
  rw [Wd.num_drop s k h, Tk.sk_f, if_pos (show Tk.blankB s[k] = true from hb)] at this
  omega
theorem skAt_stop {s : ByteArray} {k : Nat} (h : k < s.size) (hr : SkAt s false k) (hb : Wd.isBlank (s[k].toNat : Int) = false) (hn : ¬ (s[k] = 47 ∧ ∃ h' : k + 1 < s.size, s[k + 1] = 47)) : Tk.sk false s.data.toList = k := by
  have := hr.2
  rw [Wd.num_drop s k h, Tk.sk_f, if_neg (by rw [show Tk.blankB s[k] = false from hb]; simp), if_neg] at this
  · exact this
  · rintro ⟨e1, e2⟩
    refine hn ⟨e1, ?_⟩
    rcases Nat.lt_or_ge (k + 1) s.size with h' | h'
    · rw [Wd.num_drop s (k + 1) h'] at e2
      exact ⟨h', by simpa using e2⟩
    · rw [List.drop_eq_nil_of_le (by show s.size ≤ k + 1; omega)] at e2
      cases e2
theorem skAt_note {s : ByteArray} {k : Nat} (h : k + 1 < s.size) (hr : SkAt s false k) (hb : Wd.isBlank (s[k].toNat : Int) = false) (e1 : s[k] = 47) (e2 : s[k + 1] = 47) : SkAt s true k := by
  refine ⟨hr.1, ?_⟩
  have := hr.2
  rw [Wd.num_drop s k (by omega), Tk.sk_f, if_neg (by rw [show Tk.blankB s[k] = false from hb]; simp), if_pos ⟨e1, by rw [Wd.num_drop s (k + 1) h, e2]; rfl⟩] at this
  rw [Wd.num_drop s k (by omega), Tk.sk_t, if_neg (by rw [e1]; decide)]
  exact this
theorem skAt_in {s : ByteArray} {k : Nat} (h : k < s.size) (hr : SkAt s true k) (hb : ¬ s[k] = 10) : SkAt s true (k + 1) := by
  refine ⟨h, ?_⟩
  have := hr.2
  rw [Wd.num_drop s k h, Tk.sk_t, if_neg hb] at this
  omega
theorem skAt_out {s : ByteArray} {k : Nat} (h : k < s.size) (hr : SkAt s true k) (hb : s[k] = 10) : SkAt s false k := by
  refine ⟨hr.1, ?_⟩
  have := hr.2
  rw [Wd.num_drop s k h, hb, Tk.sk_t, if_pos rfl] at this
  rw [Wd.num_drop s k h, hb, Tk.sk_f, if_pos (by decide)]
  exact this
theorem skAt_all {s : ByteArray} {k : Nat} {m : Bool} (h : ¬ k < s.size) (hr : SkAt s m k) : Tk.sk false s.data.toList = k := by
  have := hr.2
  rw [List.drop_eq_nil_of_le (by show s.size ≤ k; omega), Tk.sk_n] at this
  exact this
theorem skAt_full {s : ByteArray} {k : Nat} {m : Bool} (h : ¬ k < s.size) (hr : SkAt s m k) : SkAt s false k := by
  refine ⟨hr.1, ?_⟩
  have := hr.2
  rw [List.drop_eq_nil_of_le (by show s.size ≤ k; omega), Tk.sk_n] at this ⊢
  exact this

theorem neq_of {a b : Int} (h : (a == b) = false) : (a != b) = true := by unfold bne; rw [h]; rfl
theorem eq_of {a b : Int} (h : (a == b) = true) : (a != b) = false := by unfold bne; rw [h]; rfl
theorem b47 {b : UInt8} (h : ((b.toNat : Int) == 47) = true) : b = 47 := beq_yes (b := 47) h
theorem b47_no {b : UInt8} (h : ((b.toNat : Int) == 47) = false) : ¬ b = 47 := beq_no (b := 47) h
theorem b10 {b : UInt8} (h : ((b.toNat : Int) == 10) = true) : b = 10 := beq_yes (b := 10) h
theorem b10_no {b : UInt8} (h : ((b.toNat : Int) == 10) = false) : ¬ b = 10 := beq_no (b := 10) h

theorem skip_any (s : ByteArray) (hs : s.size ≤ 16384) (w : World) : Calls Try.prog 15 #[.string s] w fun e w' => e = .returned (.int .i64 (Tk.sk false s.data.toList : Nat)) ∧ w = w' := by
  go_enter Try.func15, Try.ntmps15
  go_wp2
  go_loop [3] (fun i => ∃ k : Nat, k ≤ s.size ∧ i = .int .i64 k ∧ Hid (SkAt s false k)) (fun i => s.size - (intOf i).toNat)
  case atStart => exact ⟨0, by omega, rfl, Lib.hid (skAt_start s)⟩
  case round =>
    obtain ⟨k, hk, rfl, hr⟩ := hrel
    by_cases hlt : k < s.size
    · cases hb : Wd.isBlank (s[k].toNat : Int) with
      | true =>
        have HB := Lib.hid hb
        have HR := Lib.hid (skAt_blank hlt hr.out hb)
        clear hb
        go_wp2_with fail
        refine (refBlank_any _ _).mono ?_
        rintro e w1 ⟨rfl, rfl⟩
        rw [HB.out]
        go_wp2
        go_round
        case rel => exact ⟨k + 1, by omega, by go_num, HR⟩
        case measure => simp [intOf]; omega
      | false =>
        have HB := Lib.hid hb
        clear hb
        by_cases hd : s[k] = 47 ∧ ∃ h' : k + 1 < s.size, s[k + 1] = 47
        · obtain ⟨e1, h', e2⟩ := hd
          have HR := Lib.hid (skAt_note h' hr.out HB.out e1 e2)
          have H1 := Lib.hid e1
          have t1 : ((s[k].toNat : Int) == 47) = true := by rw [e1]; rfl
          have t2 : ((s[k + 1].toNat : Int) == 47) = true := by rw [e2]; rfl
          have t1' : ((s[k].toNat : Int) != 47) = false := by rw [e1]; rfl
          have t2' : ((s[k + 1].toNat : Int) != 47) = false := by rw [e2]; rfl
          clear e1 e2
          go_wp2_with fail
          refine (refBlank_any _ _).mono ?_
          rintro e w1 ⟨rfl, rfl⟩
          rw [HB.out]
          go_wp2
          go_loop [3] (fun i => ∃ j : Nat, k ≤ j ∧ j ≤ s.size ∧ i = .int .i64 j ∧ Hid (SkAt s true j)) (fun i => s.size - (intOf i).toNat)
          case atStart => exact ⟨k, by omega, by omega, rfl, HR⟩
          case round =>
            obtain ⟨j, hkj, hj, rfl, hrj⟩ := hrel
            by_cases hjt : j < s.size
            · cases hten : ((s[j].toNat : Int) == 10) with
              | false =>
                have hten' := neq_of hten
                have HR2 := Lib.hid (skAt_in hjt hrj.out (b10_no hten))
                go_wp2
                go_round
                case rel => exact ⟨j + 1, by omega, by omega, by go_num, HR2⟩
                case measure => simp [intOf]; omega
              | true =>
                have hten' := eq_of hten
                have HR2 := Lib.hid (skAt_out hjt hrj.out (b10 hten))
                have hne : k < j := by
                  rcases Nat.lt_or_ge k j with h | h
                  · exact h
                  · exfalso
                    obtain rfl : j = k := by omega
                    have h3 := b10 hten
                    rw [H1.out] at h3
                    exact absurd h3 (by decide)
                go_wp2
                go_round
                case rel => exact ⟨j, by omega, rfl, HR2⟩
                case measure => simp [intOf]; omega
            · have HR2 := Lib.hid (skAt_full hjt hrj.out)
              go_wp2
              go_round
              case rel => exact ⟨j, by omega, rfl, HR2⟩
              case measure => simp [intOf]; omega
        · have HS := Lib.hid (skAt_stop hlt hr.out HB.out hd)
          have hways : s.size ≤ k + 1 ∨ (k + 1 < s.size ∧ ((s[k].toNat : Int) == 47) = false) ∨ ∃ h' : k + 1 < s.size, ((s[k].toNat : Int) == 47) = true ∧ ((s[k + 1].toNat : Int) == 47) = false := by
            rcases Nat.lt_or_ge (k + 1) s.size with h' | h'
            · right
              cases e1 : ((s[k].toNat : Int) == 47) with
              | false => exact .inl ⟨h', rfl⟩
              | true =>
                cases e2 : ((s[k + 1].toNat : Int) == 47) with
                | false => exact .inr ⟨h', rfl, e2⟩
                | true => exact absurd ⟨b47 e1, h', b47 e2⟩ hd
            · exact .inl h'
          clear hd
          go_wp2_with fail
          refine (refBlank_any _ _).mono ?_
          rintro e w1 ⟨rfl, rfl⟩
          rw [HB.out]
          rcases hways with h' | ⟨h', t1⟩ | ⟨h', t1, t2⟩
          · go_wp2
            go_ret
            exact ⟨ret_nat HS.out.symm, rfl⟩
          · have t1' := neq_of t1
            go_wp2
            go_ret
            exact ⟨ret_nat HS.out.symm, rfl⟩
          · have t1' := eq_of t1
            have t2' := neq_of t2
            go_wp2
            go_ret
            exact ⟨ret_nat HS.out.symm, rfl⟩
    · have HS := Lib.hid (skAt_all hlt hr.out)
      go_wp2
      go_ret
      exact ⟨ret_nat HS.out.symm, rfl⟩
end Go.Proofs.Ytbcgooofelnkoaa
