/- Whether two lists of tokens are the same, and whether a token is a word or a sign with a text, as the program and the document's answer tell it. Conditions: at most 1000 tokens. -/
import Derived.Test.YtiijhlmdgbpkmaaDoorRefText
namespace Go.Proofs.YtiijhlmdgbpkmaaDoor
open Go.RowKit
set_option linter.unusedVariables false

theorem same_len : ∀ (l m : List Gt), l.length ≠ m.length → Gt.same l m = false
  | [], [], h => absurd rfl h
  | [], _ :: _, _ => rfl
  | _ :: _, [], _ => rfl
  | a :: r, b :: q, h => by
    have : r.length ≠ q.length := by intro e; exact h (by simp [e])
    rw [Gt.same, same_len r q this]; simp
theorem same_drop {l m : List Gt} {k : Nat} (h1 : k < l.length) (h2 : k < m.length) : Gt.same (l.drop k) (m.drop k) = (decide (l[k].kind = m[k].kind) && decide (l[k].text = m[k].text) && Gt.same (l.drop (k + 1)) (m.drop (k + 1))) := by
  rw [List.drop_eq_getElem_cons h1, List.drop_eq_getElem_cons h2, Gt.same]
theorem same_kind {l m : List Gt} {k : Nat} (h1 : k < l.length) (h2 : k < m.length) (hs : Gt.same (l.drop k) (m.drop k) = Gt.same l m) (hk : ¬ l[k].kind = m[k].kind) : Gt.same l m = false := by
  rw [← hs, same_drop h1 h2]; simp [hk]
theorem same_text {l m : List Gt} {k : Nat} (h1 : k < l.length) (h2 : k < m.length) (hs : Gt.same (l.drop k) (m.drop k) = Gt.same l m) (hk : ¬ l[k].text = m[k].text) : Gt.same l m = false := by
  rw [← hs, same_drop h1 h2]; simp [hk]
theorem same_next {l m : List Gt} {k : Nat} (h1 : k < l.length) (h2 : k < m.length) (hs : Gt.same (l.drop k) (m.drop k) = Gt.same l m) (hk : l[k].kind = m[k].kind) (ht : l[k].text = m[k].text) : Gt.same (l.drop (k + 1)) (m.drop (k + 1)) = Gt.same l m := by
  rw [← hs, same_drop h1 h2]; simp [hk, ht]
theorem same_end {l m : List Gt} {k : Nat} (h1 : ¬ k < l.length) (h2 : l.length = m.length) (hs : Gt.same (l.drop k) (m.drop k) = Gt.same l m) : Gt.same l m = true := by
  rw [← hs, List.drop_eq_nil_of_le (by omega), List.drop_eq_nil_of_le (by omega)]; rfl
theorem text_beq {a b : ByteArray} : (a.toList == b.toList) = decide (a = b) := by
  rw [Bool.eq_iff_iff, decide_eq_true_eq]
  constructor
  · exact str_yes
  · rintro rfl; simp

set_option maxHeartbeats 1000000 in
theorem same_any (A1 A2 : Option Addr) (c1 c2 : Nat) (l m : List Gt) (w : World) (hr1 : RT w w.heap.size A1 l) (hr2 : RT w w.heap.size A2 m) (hn1 : l.length ≤ 1000) (hn2 : m.length ≤ 1000) (hc1 : l.length ≤ c1) (hc2 : m.length ≤ c2) :
    Calls Tryd.prog 11 #[.slice A1 l.length c1, .slice A2 m.length c2] w fun e w' => e = .returned (.bool (Gt.same l m)) ∧ Below w.heap.size w w' := by
  have HR1 := Lib.hid hr1
  have HR2 := Lib.hid hr2
  clear hr1 hr2
  by_cases hne : l.length = m.length
  · have HM := Lib.hid hne
    obtain ⟨n, hn⟩ : ∃ n, n = m.length := ⟨_, rfl⟩
    rw [← hn] at hne ⊢
    have HNm := Lib.hid hn
    have HNl := Lib.hid hne
    rw [hne]
    have hn' : n ≤ 1000 := by omega
    have hc1' : n ≤ c1 := by omega
    have hc2' : n ≤ c2 := by omega
    clear hn hne hn1 hn2 hc1 hc2
    go_enter Tryd.func11, Tryd.ntmps11
    go_wp2
    go_loopw [14] (fun i wr => ∃ k : Nat, k ≤ n ∧ i = .int .i64 k ∧ Below w.heap.size w wr ∧ Hid (Gt.same (l.drop k) (m.drop k) = Gt.same l m)) (fun i _ => n - (intOf i).toNat)
    case atStart => exact ⟨0, by omega, rfl, Below.refl _ _, Lib.hid (by simp)⟩
    case round =>
      obtain ⟨k, hk, rfl, hbw, hs⟩ := hrel
      have hsz := hbw.size
      by_cases hlt : k < n
      · have hl1 : k < l.length := by have := HNl.out; omega
        have hl2 : k < m.length := by have := HNm.out; omega
        obtain ⟨b1, o1, rfl, hB1, q0, q1, q2⟩ := (HR1.out.below hbw).at_ hl1
        obtain ⟨b2, o2, rfl, hB2, p0, p1, p2⟩ := (HR2.out.below hbw).at_ hl2
        obtain ⟨x, hx⟩ : ∃ x, x = l[k] := ⟨_, rfl⟩
        obtain ⟨y, hy⟩ : ∃ y, y = m[k] := ⟨_, rfl⟩
        rw [← hx] at q0 q1 q2
        rw [← hy] at p0 p1 p2
        have HX := Lib.hid hx
        have HY := Lib.hid hy
        have hB1' : b1 < wr.heap.size := by omega
        have hB2' : b2 < wr.heap.size := by omega
        clear hx hy p2
        by_cases hkk : x.kind = y.kind
        · by_cases htt : x.text = y.text
          · have HN := Lib.hid (same_next hl1 hl2 hs.out (by rw [← HX.out, ← HY.out]; exact hkk) (by rw [← HX.out, ← HY.out]; exact htt))
            rw [← hkk] at p0
            rw [← htt] at p1
            clear hkk htt
            go_wp2
            go_quiet (fail)
            go_wp2
            go_roundw
            case rel => exact ⟨k + 1, by omega, by go_num, below_drewN (hbw.alloc hsz _) nq, HN⟩
            case measure => simp [intOf]; omega
          · have HN := Lib.hid (same_text hl1 hl2 hs.out (by rw [← HX.out, ← HY.out]; exact htt))
            rw [← hkk] at p0
            have tt : (x.text.toList == y.text.toList) = false := by rw [text_beq]; simpa using htt
            have tt' : (x.text.toList != y.text.toList) = true := by unfold bne; rw [tt]; rfl
            clear hkk htt
            go_wp2
            go_quiet (fail)
            go_wp2
            go_ret
            exact ⟨by rw [HN.out]; rfl, below_drewN (hbw.alloc hsz _) nq⟩
        · have HN := Lib.hid (same_kind hl1 hl2 hs.out (by rw [← HX.out, ← HY.out]; exact hkk))
          have kk : (x.kind == y.kind) = false := by simpa using hkk
          have kk' : (x.kind != y.kind) = true := neq_of kk
          clear hkk
          go_wp2
          go_quiet (fail)
          go_wp2
          go_ret
          exact ⟨by rw [HN.out]; rfl, below_drewN (hbw.alloc hsz _) nq⟩
      · have HE := Lib.hid (same_end (by have := HNl.out; omega) HM.out hs.out)
        go_wp2
        go_ret
        exact ⟨by rw [HE.out]; rfl, hbw⟩
  · have HN := Lib.hid (same_len l m hne)
    obtain ⟨n1, h1⟩ : ∃ n, n = l.length := ⟨_, rfl⟩
    obtain ⟨n2, h2⟩ : ∃ n, n = m.length := ⟨_, rfl⟩
    rw [← h1, ← h2]
    have e0 : ((n1 : Int) == (n2 : Int)) = false := by simp; omega
    have e0' : ((n1 : Int) != (n2 : Int)) = true := neq_of e0
    clear h1 h2 hne
    go_enter Tryd.func11, Tryd.ntmps11
    go_wp2
    go_ret
    exact ⟨by rw [HN.out]; rfl, Below.refl _ _⟩
end Go.Proofs.YtiijhlmdgbpkmaaDoor
