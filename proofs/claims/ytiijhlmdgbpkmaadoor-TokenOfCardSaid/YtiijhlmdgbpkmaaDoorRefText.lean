/- The text of any tokens, as the document's answer tells it. Conditions: at most 1000 tokens, whose texts take at most 100000 bytes. -/
import Derived.Test.YtiijhlmdgbpkmaaDoorText
namespace Go.Proofs.YtiijhlmdgbpkmaaDoor
open Go.RowKit
set_option linter.unusedVariables false

theorem joinTail_app (r q : List (List UInt8)) : Lib.joinTail [32] (r ++ q) = Lib.joinTail [32] r ++ Lib.joinTail [32] q := by
  unfold Lib.joinTail; simp
theorem join_snoc_nil (y : List UInt8) : Lib.join ([] ++ [y]) [32] = y := Lib.join_one _ _
theorem join_snoc (xs : List (List UInt8)) (y : List UInt8) (h : xs ≠ []) : Lib.join (xs ++ [y]) [32] = Lib.join xs [32] ++ 32 :: y := by
  match xs, h with
  | x :: r, _ =>
    rw [List.cons_append, Lib.join_cons, Lib.join_cons, joinTail_app]
    simp [Lib.joinTail]
theorem join_le (xs ys : List (List UInt8)) : (Lib.join xs [32]).length ≤ (Lib.join (xs ++ ys) [32]).length := by
  match xs with
  | [] => simp [Lib.join_nil]
  | x :: r =>
    rw [List.cons_append, Lib.join_cons, Lib.join_cons, joinTail_app]
    simp

/-- The text so far, and whether there is none yet. -/
def SoFar (l : List Gt) (k : Nat) (t : ByteArray) (fst : Bool) : Prop := t.data.toList = Gt.txt (l.take k) ∧ fst = (Gt.texts (l.take k)).isEmpty
theorem txt_take_le (l : List Gt) (k : Nat) : (Gt.txt (l.take k)).length ≤ (Gt.txt l).length := by
  have h : Gt.texts l = Gt.texts (l.take k) ++ Gt.texts (l.drop k) := by
    unfold Gt.texts
    rw [← List.map_append, ← List.filter_append, List.take_append_drop]
  unfold Gt.txt
  rw [h, List.map_append]
  exact join_le _ _
theorem sf_le {l : List Gt} {k : Nat} {t : ByteArray} {fst : Bool} (h : SoFar l k t fst) : t.size ≤ (Gt.txt l).length := by
  have h1 : t.data.toList.length = t.size := rfl
  rw [← h1, h.1]; exact txt_take_le l k
theorem sf_no {l : List Gt} {k : Nat} {t : ByteArray} {fst : Bool} (hk : k < l.length) (h : SoFar l k t fst) (h0 : l[k].kind = 0) : SoFar l (k + 1) t fst := by
  unfold SoFar at *
  unfold Gt.txt at *
  rw [Gt.take_snoc hk, Gt.texts_snoc_no h0]
  exact h
theorem app_data (a b : ByteArray) : (a ++ b).data.toList = a.data.toList ++ b.data.toList := by
  rw [ByteArray.data_append, Array.toList_append]
theorem sf_first {l : List Gt} {k : Nat} {t : ByteArray} (hk : k < l.length) (h : SoFar l k t true) (h0 : ¬ l[k].kind = 0) : SoFar l (k + 1) (t ++ l[k].text) false := by
  unfold SoFar at *
  unfold Gt.txt at *
  have he : Gt.texts (l.take k) = [] := by have := h.2.symm; simpa using this
  have h1 := h.1
  rw [he] at h1
  rw [Gt.take_snoc hk, Gt.texts_snoc_yes h0, he]
  refine ⟨?_, by simp⟩
  rw [app_data, h1]
  simp [Lib.join_nil, Lib.join_one]
theorem sf_next {l : List Gt} {k : Nat} {t : ByteArray} (hk : k < l.length) (h : SoFar l k t false) (h0 : ¬ l[k].kind = 0) : SoFar l (k + 1) (t ++ ⟨#[32]⟩ ++ l[k].text) false := by
  unfold SoFar at *
  unfold Gt.txt at *
  have he : Gt.texts (l.take k) ≠ [] := by intro e; rw [e] at h; exact absurd h.2 (by simp)
  rw [Gt.take_snoc hk, Gt.texts_snoc_yes h0]
  refine ⟨?_, by simp⟩
  rw [app_data, app_data, h.1, List.map_append]
  rw [show ([l[k].text].map fun b => b.data.toList) = [l[k].text.data.toList] from rfl, join_snoc _ _ (by simpa using he)]
  simp
theorem sf_end {l : List Gt} {k : Nat} {t : ByteArray} {fst : Bool} (hlt : ¬ k < l.length) (hk : k ≤ l.length) (h : SoFar l k t fst) : t = ⟨(Gt.txt l).toArray⟩ := by
  obtain rfl : k = l.length := by omega
  have h1 := h.1
  rw [List.take_length] at h1
  rw [← h1]

set_option maxHeartbeats 1000000 in
theorem refText_any (A : Option Addr) (c : Nat) (l : List Gt) (w : World) (hr : RT w w.heap.size A l) (hn : l.length ≤ 1000) (hlen : (Gt.txt l).length ≤ 100000) (hc : l.length ≤ c) (htx : ∀ i, (h : i < l.length) → l[i].text.size ≤ 100000) :
    Calls Tryd.prog 10 #[.slice A l.length c] w fun e w' => e = .returned (.string ⟨(Gt.txt l).toArray⟩) ∧ w = w' := by
  have HR := Lib.hid hr
  have HX := Lib.hid htx
  clear hr htx
  go_enter Tryd.func10, Tryd.ntmps10
  go_wp2
  go_loop [3, 4, 5] (fun s f i => ∃ (k : Nat) (t : ByteArray) (fst : Bool), k ≤ l.length ∧ i = .int .i64 k ∧ s = .string t ∧ f = .bool fst ∧ Hid (SoFar l k t fst)) (fun _ _ i => l.length - (intOf i).toNat)
  case atStart => exact ⟨0, ⟨#[]⟩, true, by omega, rfl, rfl, rfl, Lib.hid ⟨by simp [Gt.txt, Gt.texts, Lib.join_nil], by simp [Gt.texts]⟩⟩
  case round =>
    obtain ⟨k, t, fst, hk, rfl, rfl, rfl, hsf⟩ := hrel
    have hts := sf_le hsf.out
    by_cases hlt : k < l.length
    · obtain ⟨b, o, rfl, hB, q0, q1, q2⟩ := HR.out.at_ hlt
      have hyx := HX.out k hlt
      obtain ⟨y, hy⟩ : ∃ y, y = l[k] := ⟨_, rfl⟩
      rw [← hy] at q0 q1 q2 hyx
      have HY := Lib.hid hy
      clear hy q2
      by_cases h0 : y.kind = 0
      · have H0 : Hid (l[k].kind = 0) := Lib.hid (by rw [← HY.out]; exact h0)
        rw [h0] at q0
        go_wp2
        go_round
        case rel => exact ⟨k + 1, t, fst, by omega, by go_num, rfl, rfl, Lib.hid (sf_no hlt hsf.out H0.out)⟩
        case measure => simp [intOf]; omega
      · have H0 : Hid (¬ l[k].kind = 0) := Lib.hid (by rw [← HY.out]; exact h0)
        have e0 : (y.kind == 0) = false := by simpa using h0
        have z1 : ¬ (9223372036854775807 : Int) < (t.size : Int) + (y.text.size : Int) := by omega
        have z2 : ¬ 9223372036854775807 < t.size + y.text.size := by omega
        have z3 : ¬ 9223372036854775807 < t.size + 1 := by omega
        have z4 : ¬ 9223372036854775807 < t.size + 1 + y.text.size := by omega
        clear h0
        cases fst with
        | true =>
          have HS := Lib.hid (sf_first hlt hsf.out H0.out)
          go_wp2
          go_round
          case rel => exact ⟨k + 1, _, false, by omega, by go_num, rfl, rfl, Lib.hid (by rw [HY.out]; exact HS.out)⟩
          case measure => simp [intOf]; omega
        | false =>
          have HS := Lib.hid (sf_next hlt hsf.out H0.out)
          go_wp2
          go_round
          case rel => exact ⟨k + 1, _, false, by omega, by go_num, rfl, rfl, Lib.hid (by rw [HY.out]; exact HS.out)⟩
          case measure => simp [intOf]; omega
    · have HE := Lib.hid (sf_end hlt hk hsf.out)
      go_wp2
      go_ret
      exact ⟨ret_str HE.out, rfl⟩
end Go.Proofs.YtiijhlmdgbpkmaaDoor
