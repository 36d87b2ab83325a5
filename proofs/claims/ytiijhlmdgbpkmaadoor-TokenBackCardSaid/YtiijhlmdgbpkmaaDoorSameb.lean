/- Whether two lists of tokens are the same, by the document's answer, and whether a token is a word or a sign with a text. Conditions: at most 1000 tokens. -/
import Derived.Test.YtiijhlmdgbpkmaaDoorSame
namespace Go.Proofs.YtiijhlmdgbpkmaaDoor
open Go.RowKit
set_option linter.unusedVariables false

set_option maxHeartbeats 1000000 in
theorem refSame_any (A1 A2 : Option Addr) (c1 c2 : Nat) (l m : List Gt) (w : World) (hr1 : RT w w.heap.size A1 l) (hr2 : RT w w.heap.size A2 m) (hn1 : l.length ≤ 1000) (hn2 : m.length ≤ 1000) (hc1 : l.length ≤ c1) (hc2 : m.length ≤ c2) :
    Calls Tryd.prog 12 #[.slice A1 l.length c1, .slice A2 m.length c2] w fun e w' => e = .returned (.bool (Gt.same l m)) ∧ Below w.heap.size w w' := by
  have HR1 := Lib.hid hr1
  have HR2 := Lib.hid hr2
  clear hr1 hr2
  by_cases hne : l.length = m.length
  · have HM := Lib.hid hne
    obtain ⟨n, hn⟩ : ∃ n, n = m.length := ⟨_, rfl⟩
    rw [← hn] at hne ⊢
    have HNm := Lib.hid hn
    have HNl := Lib.hid hne
    rw [hne]
    have hn' : n ≤ 1000 := by omega
    have hc1' : n ≤ c1 := by omega
    have hc2' : n ≤ c2 := by omega
    clear hn hne hn1 hn2 hc1 hc2
    go_enter Tryd.func12, Tryd.ntmps12
    go_wp2
    go_loopw [5] (fun i wr => ∃ k : Nat, k ≤ n ∧ i = .int .i64 k ∧ Below w.heap.size w wr ∧ Hid (Gt.same (l.drop k) (m.drop k) = Gt.same l m)) (fun i _ => n - (intOf i).toNat)
    case atStart => exact ⟨0, by omega, rfl, Below.refl _ _, Lib.hid (by simp)⟩
    case round =>
      obtain ⟨k, hk, rfl, hbw, hs⟩ := hrel
      have hsz := hbw.size
      by_cases hlt : k < n
      · have hl1 : k < l.length := by have := HNl.out; omega
        have hl2 : k < m.length := by have := HNm.out; omega
        obtain ⟨b1, o1, rfl, hB1, q0, q1, q2⟩ := (HR1.out.below hbw).at_ hl1
        obtain ⟨b2, o2, rfl, hB2, p0, p1, p2⟩ := (HR2.out.below hbw).at_ hl2
        obtain ⟨x, hx⟩ : ∃ x, x = l[k] := ⟨_, rfl⟩
        obtain ⟨y, hy⟩ : ∃ y, y = m[k] := ⟨_, rfl⟩
        rw [← hx] at q0 q1 q2
        rw [← hy] at p0 p1 p2
        have HX := Lib.hid hx
        have HY := Lib.hid hy
        have hB1' : b1 < wr.heap.size := by omega
        have hB2' : b2 < wr.heap.size := by omega
        clear hx hy p2 q2
        by_cases hkk : x.kind = y.kind
        · by_cases htt : x.text = y.text
          · have HN := Lib.hid (same_next hl1 hl2 hs.out (by rw [← HX.out, ← HY.out]; exact hkk) (by rw [← HX.out, ← HY.out]; exact htt))
            rw [← hkk] at p0
            rw [← htt] at p1
            clear hkk htt
            go_wp2
            go_quiet (fail)
            go_wp2
            go_roundw
            case rel => exact ⟨k + 1, by omega, by go_num, below_drewN hbw nq, HN⟩
            case measure => simp [intOf]; omega
          · have HN := Lib.hid (same_text hl1 hl2 hs.out (by rw [← HX.out, ← HY.out]; exact htt))
            rw [← hkk] at p0
            have tt : (x.text.toList == y.text.toList) = false := by rw [text_beq]; simpa using htt
            have tt' : (x.text.toList != y.text.toList) = true := by unfold bne; rw [tt]; rfl
            clear hkk htt
            go_wp2
            go_quiet (fail)
            go_wp2
            go_ret
            exact ⟨by rw [HN.out]; rfl, below_drewN hbw nq⟩
        · have HN := Lib.hid (same_kind hl1 hl2 hs.out (by rw [← HX.out, ← HY.out]; exact hkk))
          have kk : (x.kind == y.kind) = false := by simpa using hkk
          have kk' : (x.kind != y.kind) = true := neq_of kk
          clear hkk
          go_wp2
          go_quiet (fail)
          go_wp2
          go_ret
          exact ⟨by rw [HN.out]; rfl, below_drewN hbw nq⟩
      · have HE := Lib.hid (same_end (by have := HNl.out; omega) HM.out hs.out)
        go_wp2
        go_ret
        exact ⟨by rw [HE.out]; rfl, hbw⟩
  · have HN := Lib.hid (same_len l m hne)
    obtain ⟨n1, h1⟩ : ∃ n, n = l.length := ⟨_, rfl⟩
    obtain ⟨n2, h2⟩ : ∃ n, n = m.length := ⟨_, rfl⟩
    rw [← h1, ← h2]
    have e0 : ((n1 : Int) == (n2 : Int)) = false := by simp; omega
    have e0' : ((n1 : Int) != (n2 : Int)) = true := neq_of e0
    clear h1 h2 hne
    go_enter Tryd.func12, Tryd.ntmps12
    go_wp2
    go_ret
    exact ⟨by rw [HN.out]; rfl, Below.refl _ _⟩

def Gt.is (t : Gt) (s : ByteArray) : Bool := (decide (t.kind = 3) || decide (t.kind = 4)) && decide (t.text = s)
def Gt.val (t : Gt) : Value := .agg #[.int .i64 t.kind, .string t.text, .int .i64 t.pos]

theorem is_any (t : Gt) (s : ByteArray) (w : World) : Calls Tryd.prog 13 #[t.val, .string s] w fun e w' => e = .returned (.bool (t.is s)) ∧ Below w.heap.size w w' := by
  obtain ⟨k, x, p⟩ := t
  have hv : Gt.val ⟨k, x, p⟩ = .agg #[.int .i64 k, .string x, .int .i64 p] := rfl
  rw [hv]
  clear hv
  cases tt : (x.toList == s.toList) with
  | true =>
    by_cases h3 : k = 3
    · have HE : Hid (Gt.is ⟨k, x, p⟩ s = true) := Lib.hid (by rw [text_beq] at tt; unfold Gt.is; simp at tt; simp [h3, tt])
      subst h3
      go_enter Tryd.func13, Tryd.ntmps13
      go_wp2
      go_ret
      exact ⟨by rw [HE.out]; rfl, (Below.refl _ _).alloc (Nat.le_refl _) _⟩
    · by_cases h4 : k = 4
      · have HE : Hid (Gt.is ⟨k, x, p⟩ s = true) := Lib.hid (by rw [text_beq] at tt; unfold Gt.is; simp at tt; simp [h4, tt])
        subst h4
        clear h3
        go_enter Tryd.func13, Tryd.ntmps13
        go_wp2
        go_ret
        exact ⟨by rw [HE.out]; rfl, (Below.refl _ _).alloc (Nat.le_refl _) _⟩
      · have HE : Hid (Gt.is ⟨k, x, p⟩ s = false) := Lib.hid (by unfold Gt.is; simp [h3, h4])
        have e3 : (k == 3) = false := by simpa using h3
        have e4 : (k == 4) = false := by simpa using h4
        clear h3 h4
        go_enter Tryd.func13, Tryd.ntmps13
        go_wp2
        go_ret
        exact ⟨by rw [HE.out]; rfl, (Below.refl _ _).alloc (Nat.le_refl _) _⟩
  | false =>
    have HE : Hid (Gt.is ⟨k, x, p⟩ s = false) := Lib.hid (by rw [text_beq] at tt; unfold Gt.is; simp at tt; simp [tt])
    by_cases h3 : k = 3
    · subst h3
      go_enter Tryd.func13, Tryd.ntmps13
      go_wp2
      go_ret
      exact ⟨by rw [HE.out]; rfl, (Below.refl _ _).alloc (Nat.le_refl _) _⟩
    · by_cases h4 : k = 4
      · subst h4
        clear h3
        go_enter Tryd.func13, Tryd.ntmps13
        go_wp2
        go_ret
        exact ⟨by rw [HE.out]; rfl, (Below.refl _ _).alloc (Nat.le_refl _) _⟩
      · have e3 : (k == 3) = false := by simpa using h3
        have e4 : (k == 4) = false := by simpa using h4
        clear h3 h4
        go_enter Tryd.func13, Tryd.ntmps13
        go_wp2
        go_ret
        exact ⟨by rw [HE.out]; rfl, (Below.refl _ _).alloc (Nat.le_refl _) _⟩

theorem refIs_any (t : Gt) (s : ByteArray) (w : World) : Calls Tryd.prog 14 #[t.val, .string s] w fun e w' => e = .returned (.bool (t.is s)) ∧ Below w.heap.size w w' := by
  obtain ⟨k, x, p⟩ := t
  have hv : Gt.val ⟨k, x, p⟩ = .agg #[.int .i64 k, .string x, .int .i64 p] := rfl
  rw [hv]
  clear hv
  cases tt : (x.toList == s.toList) with
  | true =>
    by_cases h3 : k = 3
    · have HE : Hid (Gt.is ⟨k, x, p⟩ s = true) := Lib.hid (by rw [text_beq] at tt; unfold Gt.is; simp at tt; simp [h3, tt])
      subst h3
      go_enter Tryd.func14, Tryd.ntmps14
      go_wp2
      go_ret
      exact ⟨by rw [HE.out]; rfl, (Below.refl _ _).alloc (Nat.le_refl _) _⟩
    · by_cases h4 : k = 4
      · have HE : Hid (Gt.is ⟨k, x, p⟩ s = true) := Lib.hid (by rw [text_beq] at tt; unfold Gt.is; simp at tt; simp [h4, tt])
        subst h4
        clear h3
        go_enter Tryd.func14, Tryd.ntmps14
        go_wp2
        go_ret
        exact ⟨by rw [HE.out]; rfl, (Below.refl _ _).alloc (Nat.le_refl _) _⟩
      · have HE : Hid (Gt.is ⟨k, x, p⟩ s = false) := Lib.hid (by unfold Gt.is; simp [h3, h4])
        have e3 : (k == 3) = false := by simpa using h3
        have e4 : (k == 4) = false := by simpa using h4
        clear h3 h4
        go_enter Tryd.func14, Tryd.ntmps14
        go_wp2
        go_ret
        exact ⟨by rw [HE.out]; rfl, (Below.refl _ _).alloc (Nat.le_refl _) _⟩
  | false =>
    have HE : Hid (Gt.is ⟨k, x, p⟩ s = false) := Lib.hid (by rw [text_beq] at tt; unfold Gt.is; simp at tt; simp [tt])
    by_cases h3 : k = 3
    · subst h3
      go_enter Tryd.func14, Tryd.ntmps14
      go_wp2
      go_ret
      exact ⟨by rw [HE.out]; rfl, (Below.refl _ _).alloc (Nat.le_refl _) _⟩
    · by_cases h4 : k = 4
      · subst h4
        clear h3
        go_enter Tryd.func14, Tryd.ntmps14
        go_wp2
        go_ret
        exact ⟨by rw [HE.out]; rfl, (Below.refl _ _).alloc (Nat.le_refl _) _⟩
      · have e3 : (k == 3) = false := by simpa using h3
        have e4 : (k == 4) = false := by simpa using h4
        clear h3 h4
        go_enter Tryd.func14, Tryd.ntmps14
        go_wp2
        go_ret
        exact ⟨by rw [HE.out]; rfl, (Below.refl _ _).alloc (Nat.le_refl _) _⟩
end Go.Proofs.YtiijhlmdgbpkmaaDoor
