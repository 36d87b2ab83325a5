/- What the program says of a text's first bytes: how many of a kind it begins with, how many are left out, how long a sign is. Condition: the text has at most 16384 bytes. -/
import Derived.Test.YtiijhlmdgbpkmaaDoorTb
import Derived.Test.YtiijhlmdgbpkmaaDoorShelf
namespace Go.Proofs.YtiijhlmdgbpkmaaDoor
open Go.RowKit

theorem inName_any (b : UInt8) (w : World) : Calls Tryd.prog 37 #[.int .u8 (b.toNat : Int)] w fun e w' => e = .returned (.bool (Wd.okB b)) ∧ w = w' := by
  cases h : Wd.isLetter (b.toNat : Int) with
  | true =>
    have HL := Lib.hid h
    have HO := Lib.hid (Tk.okB_let (b := b) h)
    clear h
    go_enter Tryd.func37, Tryd.ntmps37
    go_wp2_with fail
    refine (letter_any _ _).mono ?_
    rintro e w1 ⟨rfl, rfl⟩
    rw [HL.out]
    go_wp2
    go_ret
    exact ⟨by rw [HO.out]; rfl, rfl⟩
  | false =>
    have HL := Lib.hid h
    have HO : Hid (Wd.okB b = Wd.isDigit (b.toNat : Int)) := Lib.hid (by unfold Wd.okB; rw [h]; rfl)
    clear h
    go_enter Tryd.func37, Tryd.ntmps37
    go_wp2_with fail
    refine (letter_any _ _).mono ?_
    rintro e w1 ⟨rfl, rfl⟩
    rw [HL.out]
    go_wp2_with fail
    refine (digit_any _ _).mono ?_
    rintro e w1 ⟨rfl, rfl⟩
    go_wp2
    go_ret
    exact ⟨by rw [HO.out]; rfl, rfl⟩

theorem run_yes {p : UInt8 → Bool} (s : ByteArray) (k : Nat) (h : k < s.size) (hr : Tk.runL p s.data.toList = k + Tk.runL p (s.data.toList.drop k)) (e : p s[k] = true) :
    Tk.runL p s.data.toList = (k + 1) + Tk.runL p (s.data.toList.drop (k + 1)) := by
  rw [Wd.num_drop s k h, Tk.runL_yes e] at hr; omega
theorem run_no {p : UInt8 → Bool} (s : ByteArray) (k : Nat) (h : k < s.size) (hr : Tk.runL p s.data.toList = k + Tk.runL p (s.data.toList.drop k)) (e : p s[k] = false) :
    Tk.runL p s.data.toList = k := by
  rw [Wd.num_drop s k h, Tk.runL_no e] at hr; omega
theorem run_end {p : UInt8 → Bool} (s : ByteArray) (k : Nat) (h : ¬ k < s.size) (hr : Tk.runL p s.data.toList = k + Tk.runL p (s.data.toList.drop k)) :
    Tk.runL p s.data.toList = k := by
  rw [List.drop_eq_nil_of_le (by show s.size ≤ k; omega), Tk.runL_nil] at hr; omega

theorem ret_nat {k : IntKind} {a b : Nat} (h : a = b) : Ending.returned (.int k (a : Int)) = .returned (.int k (b : Int)) := by rw [h]

theorem run_any (p : UInt8 → Bool) (K : Nat) (hK : ∀ (b : UInt8) (w : World), Calls Tryd.prog K #[.int .u8 (b.toNat : Int)] w fun e w' => e = .returned (.bool (p b)) ∧ w = w')
    (hcall : ∀ (x : Int) (w : World), (callFunc K #[.int .u8 x]).run Tryd.prog w = .ok (.enter K #[.int .u8 x]) w) (s : ByteArray) (hs : s.size ≤ 16384) (w : World) : Calls Tryd.prog 32 #[.string s, .func (.func K) #[] #[]] w fun e w' => e = .returned (.int .i64 (Tk.runL p s.data.toList : Nat)) ∧ w = w' := by
  have HK := Lib.hid hK
  clear hK
  go_enter Tryd.func32, Tryd.ntmps32
  go_wp2
  go_loop [5] (fun i => ∃ k : Nat, k ≤ s.size ∧ i = .int .i64 k ∧ Hid (Tk.runL p s.data.toList = k + Tk.runL p (s.data.toList.drop k))) (fun i => s.size - (intOf i).toNat)
  case atStart => exact ⟨0, by omega, rfl, Lib.hid (by simp)⟩
  case round =>
    obtain ⟨k, hk, rfl, hr⟩ := hrel
    by_cases hlt : k < s.size
    · cases hp : p s[k] with
      | true =>
        have HP := Lib.hid hp
        have HR := Lib.hid (run_yes s k hlt hr.out hp)
        clear hp
        go_wp2_with fail
        refine (HK.out _ _).mono ?_
        rintro e w1 ⟨rfl, rfl⟩
        rw [HP.out]
        go_wp2
        go_round
        case rel => exact ⟨k + 1, by omega, by go_num, HR.out⟩
        case measure => simp [intOf]; omega
      | false =>
        have HP := Lib.hid hp
        have HR := Lib.hid (run_no s k hlt hr.out hp)
        clear hp
        go_wp2_with fail
        refine (HK.out _ _).mono ?_
        rintro e w1 ⟨rfl, rfl⟩
        rw [HP.out]
        go_wp2
        go_ret
        exact ⟨ret_nat HR.out.symm, rfl⟩
    · have HR := Lib.hid (run_end s k hlt hr.out)
      go_wp2
      go_ret
      exact ⟨ret_nat HR.out.symm, rfl⟩

theorem runBlank_any (s : ByteArray) (hs : s.size ≤ 16384) (w : World) : Calls Tryd.prog 32 #[.string s, .func (.func 33) #[] #[]] w fun e w' => e = .returned (.int .i64 (Tk.runL Tk.blankB s.data.toList : Nat)) ∧ w = w' :=
  run_any Tk.blankB 33 (fun _ _ => blank_any _ _) (fun _ _ => by kernel_rfl) s hs w
theorem runDigit_any (s : ByteArray) (hs : s.size ≤ 16384) (w : World) : Calls Tryd.prog 32 #[.string s, .func (.func 38) #[] #[]] w fun e w' => e = .returned (.int .i64 (Tk.runL Tk.digB s.data.toList : Nat)) ∧ w = w' :=
  run_any Tk.digB 38 (fun _ _ => digit_any _ _) (fun _ _ => by kernel_rfl) s hs w
theorem runName_any (s : ByteArray) (hs : s.size ≤ 16384) (w : World) : Calls Tryd.prog 32 #[.string s, .func (.func 37) #[] #[]] w fun e w' => e = .returned (.int .i64 (Tk.runL Wd.okB s.data.toList : Nat)) ∧ w = w' :=
  run_any Wd.okB 37 (fun _ _ => inName_any _ _) (fun _ _ => by kernel_rfl) s hs w

/-! ### What is left out -/
theorem indexByte_run (l : List UInt8) : (Tk.runL (· != 10) l < l.length ∧ Lib.indexByte l 10 = (Tk.runL (· != 10) l : Nat)) ∨ (Tk.runL (· != 10) l = l.length ∧ Lib.indexByte l 10 = -1) := by
  induction l with
  | nil => exact .inr ⟨rfl, rfl⟩
  | cons b t ih =>
    by_cases h : b = 10
    · subst h
      left
      rw [Tk.runL_no (p := (· != 10)) (by decide)]
      exact ⟨by simp, by simp [Lib.indexByte]⟩
    · have hb : (b == 10) = false := by simpa using h
      have hn : (b != 10) = true := by simpa using h
      rw [Tk.runL_yes (p := (· != 10)) hn]
      rcases ih with ⟨h1, h2⟩ | ⟨h1, h2⟩
      · left
        refine ⟨by simp; omega, ?_⟩
        rw [Lib.indexByte, hb, h2, if_neg (by simp), if_neg (by simp)]; simp; omega
      · right
        refine ⟨by simp; omega, ?_⟩
        rw [Lib.indexByte, hb, h2]; rfl

theorem left_note {l : List UInt8} (h : Lib.hasPrefix l [47, 47] = true) : Tk.leftL l = Tk.runL (· != 10) l := by unfold Tk.leftL; exact if_pos h
theorem left_blank {l : List UInt8} (h : Lib.hasPrefix l [47, 47] = false) : Tk.leftL l = Tk.runL Tk.blankB l := by
  unfold Tk.leftL
  rw [if_neg]
  show ¬ Lib.hasPrefix l [47, 47] = true
  simp [h]

theorem leftOut_any (s : ByteArray) (hs : s.size ≤ 16384) (w : World) : Calls Tryd.prog 21 #[.string s] w fun e w' => e = .returned (.int .i64 (Tk.leftL s.data.toList : Nat)) ∧ w = w' := by
  cases h : Lib.hasPrefix s.data.toList [47, 47] with
  | false =>
    have HP := Lib.hid h
    have HL := Lib.hid (left_blank h)
    clear h
    go_enter Tryd.func21, Tryd.ntmps21
    go_wp2_with fail
    refine (Tryd.strings_HasPrefix _ _ _).mono ?_
    rintro e w1 ⟨rfl, rfl⟩
    rw [show Lib.hasPrefix s.data.toList (ByteArray.mk #[47, 47]).data.toList = false from HP.out]
    go_wp2_with fail
    refine (runBlank_any _ hs _).mono ?_
    rintro e w2 ⟨rfl, rfl⟩
    go_wp2
    go_ret
    exact ⟨ret_nat HL.out.symm, rfl⟩
  | true =>
    have HP := Lib.hid h
    have HL := Lib.hid (left_note h)
    clear h
    rcases indexByte_run s.data.toList with ⟨h1, h2⟩ | ⟨h1, h2⟩
    · have H2 := Lib.hid h2
      clear h2 h1
      go_enter Tryd.func21, Tryd.ntmps21
      go_wp2_with fail
      refine (Tryd.strings_HasPrefix _ _ _).mono ?_
      rintro e w1 ⟨rfl, rfl⟩
      rw [show Lib.hasPrefix s.data.toList (ByteArray.mk #[47, 47]).data.toList = true from HP.out]
      go_wp2_with fail
      refine (Tryd.strings_IndexByte _ _ _).mono ?_
      rintro e w2 ⟨rfl, rfl⟩
      rw [show Lib.indexByte s.data.toList (10 : Int).toNat.toUInt8 = _ from H2.out]
      go_wp2
      go_ret
      exact ⟨ret_nat HL.out.symm, rfl⟩
    · have H2 := Lib.hid h2
      have H1 : Hid (s.size = Tk.leftL s.data.toList) := Lib.hid (by rw [HL.out, h1]; rfl)
      clear h2 h1
      go_enter Tryd.func21, Tryd.ntmps21
      go_wp2_with fail
      refine (Tryd.strings_HasPrefix _ _ _).mono ?_
      rintro e w1 ⟨rfl, rfl⟩
      rw [show Lib.hasPrefix s.data.toList (ByteArray.mk #[47, 47]).data.toList = true from HP.out]
      go_wp2_with fail
      refine (Tryd.strings_IndexByte _ _ _).mono ?_
      rintro e w2 ⟨rfl, rfl⟩
      rw [show Lib.indexByte s.data.toList (10 : Int).toNat.toUInt8 = _ from H2.out]
      go_wp2
      go_ret
      exact ⟨ret_nat H1.out, rfl⟩

end Go.Proofs.YtiijhlmdgbpkmaaDoor
