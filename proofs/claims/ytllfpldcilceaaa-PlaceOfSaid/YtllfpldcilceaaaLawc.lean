/- PlaceLines returns true. Conditions: none. -/
import Derived.Test.YtllfpldcilceaaaLaws
namespace Go.Proofs.Ytllfpldcilceaaa
open Go.RowKit

namespace Pl
/-- What the first i - 1 lines are, a byte 10 between two. -/
def Joined (bs : List UInt8) (i : Nat) (acc : List UInt8) : Prop :=
  (i = 1 ∧ acc = []) ∨ ∃ k, k ≤ bs.length ∧ isEnd bs k ∧ (pos bs k).1 + 1 = i ∧ acc = bs.take k
theorem joined_first (bs : List UInt8) (l : List UInt8) (h : lineOf bs 1 = some l) (acc : List UInt8) (ha : Joined bs 1 acc) : Joined bs 2 (acc ++ l) := by
  have hacc : acc = [] := by
    rcases ha with ⟨_, h⟩ | ⟨k, h1, _, h3, _⟩
    · exact h
    · have := pos_bd bs k h1; omega
  obtain ⟨k, h1, h2, h3, h4⟩ := line_end bs 1 (Nat.le_refl _) (pos_bd bs bs.length (Nat.le_refl _)).1
  have h5 := lineOf_hit bs 1 k h1 h2 (by omega)
  rw [h] at h5
  injection h5 with h5
  refine .inr ⟨k, h1, h2, by omega, ?_⟩
  rw [hacc, h5, join_first bs k (first_line bs k h1 h3)]
  rfl
theorem joined_next (bs : List UInt8) (i : Nat) (hi : 1 < i) (hn : i ≤ (pos bs bs.length).1) (l : List UInt8) (h : lineOf bs i = some l) (acc : List UInt8) (ha : Joined bs i acc) : Joined bs (i + 1) (acc ++ [10] ++ l) := by
  rcases ha with ⟨h1, _⟩ | ⟨k, h1, h2, h3, h4⟩
  · omega
  · obtain ⟨k', g1, g2, g3, g4⟩ := line_end bs i (by omega) hn
    have h5 := lineOf_hit bs i k' g1 g2 (by omega)
    rw [h] at h5
    injection h5 with h5
    obtain ⟨e1, e2, e3⟩ := next_line bs k k' h1 g1 h2 g2 (by omega)
    refine .inr ⟨k', g1, g2, by omega, ?_⟩
    rw [h4, h5]
    exact join_step bs k k' e3 g1 e1 e2
theorem joined_all (bs : List UInt8) (acc : List UInt8) (h : Joined bs ((pos bs bs.length).1 + 1) acc) : acc = bs := by
  have hb := pos_bd bs bs.length (Nat.le_refl _)
  rcases h with ⟨h1, _⟩ | ⟨k, h1, h2, h3, h4⟩
  · omega
  · have := in_of_line bs k h1 h2 bs.length (Nat.le_refl _) (by omega)
    rw [h4, List.take_of_length_le (by omega)]
/-- A line has no byte 10, and is no longer than the text. -/
theorem lineOf_clean (bs : List UInt8) (n : Int) (l : List UInt8) (h : lineOf bs n = some l) : l.length ≤ bs.length ∧ ∀ b ∈ l, b ≠ 10 := by
  unfold lineOf at h
  cases e : (spans bs).find? fun x => (x.1 : Int) == n with
  | none => rw [e] at h; simp at h
  | some y =>
    rw [e] at h
    obtain ⟨j, j1, j2, rfl⟩ := mem_spans bs y (List.mem_of_find?_eq_some e)
    simp [span] at h
    subst h
    constructor
    · simp; omega
    · intro b hb
      obtain ⟨q, hq, rfl⟩ := List.mem_iff_getElem.1 hb
      simp at hq
      rw [List.getElem_take, List.getElem_drop]
      exact no_nl bs j j1 (frm bs j + q) (by omega) (by omega)
theorem lineOf_some (bs : List UInt8) (n : Int) (h1 : 1 ≤ n) (h2 : n ≤ (pos bs bs.length).1) : ∃ l, lineOf bs n = some l := by
  obtain ⟨k, g1, g2, g3, g4⟩ := line_end bs n.toNat (by omega) (by omega)
  exact ⟨_, lineOf_hit bs n k g1 g2 (by omega)⟩
end Pl

set_option maxRecDepth 100000 in
set_option maxHeartbeats 2000000 in
theorem law_lines_no (s : ByteArray) (n : Int) (w : World) (h : 1000 < s.size) (hm : s.size ≤ maxLen) :
    Calls Try.prog 5 #[.string s, .int .i64 n] w fun e w' => e = .returned (.bool true) ∧ Below w.heap.size w w' := by
  unfold maxLen at hm
  go_enter Try.func5, Try.ntmps5
  go_wp2_with fail
  refine (awake_any _).mono ?_
  rintro e w3 ⟨rfl, hb3⟩
  go_wp2_with fail
  go_ret
  exact ⟨rfl, hb3⟩

set_option maxRecDepth 100000 in
set_option maxHeartbeats 4000000 in
theorem law_lines (s : ByteArray) (n : Int) (w : World) (hs : s.size ≤ 1000) :
    Calls Try.prog 5 #[.string s, .int .i64 n] w fun e w' => e = .returned (.bool true) ∧ Below w.heap.size w w' := by
  obtain ⟨t, ht⟩ : ∃ t : Nat, (Pl.pos s.data.toList s.size).1 = t := ⟨_, rfl⟩
  have hbs := Pl.pos_bd s.data.toList s.size (Nat.le_refl _)
  have HT := Lib.hid ht
  rw [ht] at hbs
  clear ht
  go_enter Try.func5, Try.ntmps5
  go_wp2_with fail
  refine (lines_any s hs _).mono ?_
  rintro e w1 ⟨rfl, hb1⟩
  rw [HT.out]
  go_wp2_with fail
  go_loopw [6, 7] (fun a i wr => ∃ (k : Nat) (acc : ByteArray), 1 ≤ k ∧ k ≤ t + 1 ∧ i = .int .i64 k ∧ a = .string acc ∧ acc.size ≤ 1001 * k ∧ Pl.Joined s.data.toList k acc.data.toList ∧ Below w.heap.size w wr)
    (fun _ i _ => t + 1 - (intOf i).toNat)
  case atStart => exact ⟨1, ⟨#[]⟩, by omega, by omega, rfl, rfl, by decide, .inl ⟨rfl, rfl⟩, hb1⟩
  case round =>
    obtain ⟨k, acc, hk1, hk, rfl, rfl, hsz, hj, hbw⟩ := hrel
    have HJ := Lib.hid hj
    clear hj
    by_cases hlt : k ≤ t
    · obtain ⟨l, hl⟩ := Pl.lineOf_some s.data.toList k (by omega) (by rw [show s.data.toList.length = s.size from rfl, HT.out]; omega)
      obtain ⟨hl1, hl2⟩ := Pl.lineOf_clean s.data.toList k l hl
      obtain ⟨lb, hlb⟩ : ∃ lb : ByteArray, lb.data.toList = l := ⟨⟨l.toArray⟩, rfl⟩
      have hv : lineV s.data.toList k = .tuple #[.string lb, .bool true] := by
        unfold lineV; rw [hl]; subst hlb; rfl
      have HV := Lib.hid hv
      have HL := Lib.hid hl
      have HLB := Lib.hid hlb
      have hls : lb.size ≤ 1000 := by
        have : lb.size = l.length := by rw [← hlb]; rfl
        rw [this]; exact Nat.le_trans hl1 hs
      have HC := Lib.hid hl2
      clear hv hl hlb hl1 hl2
      go_wp2_with fail
      refine (line_any s hs _ _).mono ?_
      rintro e w2 ⟨rfl, hb2⟩
      rw [HV.out]
      go_wp2_with fail
      go_loop [10] (fun q => ∃ j : Nat, j ≤ lb.size ∧ q = .int .i64 j) (fun q => lb.size - (intOf q).toNat)
      case atStart => exact ⟨0, by omega, rfl⟩
      case round =>
        obtain ⟨j, hj, rfl⟩ := hrel
        by_cases hjl : j < lb.size
        · have hne : ((lb[j].toNat : Int) == 10) = false := by
            have h1 : lb[j] ≠ 10 := by
              refine HC.out _ ?_
              rw [← HLB.out]
              exact List.getElem_mem (l := lb.data.toList) (n := j) hjl
            rw [beq_eq_false_iff_ne]
            intro h2; apply h1
            apply UInt8.toNat_inj.1
            show lb[j].toNat = 10
            omega
          go_wp2_with fail
          go_round
          case rel => exact ⟨j + 1, by omega, by go_num⟩
          case measure => simp [intOf]; omega
        · by_cases h1 : k = 1
          · have h1' : ¬ (1 : Int) < k := by omega
            have HK := Lib.hid h1
            clear h1
            go_wp2_with fail
            go_roundw
            case rel =>
              have h2 : k = 1 := HK.out
              subst h2
              refine ⟨2, acc ++ lb, by omega, by omega, by go_num, rfl, by rw [ByteArray.size_append]; omega, ?_, hbw.trans (hb2.mono hbw.size)⟩
              rw [show (acc ++ lb).data.toList = acc.data.toList ++ lb.data.toList by simp, HLB.out]
              exact Pl.joined_first s.data.toList l HL.out _ HJ.out
            case measure => simp [intOf]; omega
          · have h1' : (1 : Int) < k := by omega
            have HK := Lib.hid h1
            clear h1
            go_wp2_with fail
            go_roundw
            case rel =>
              refine ⟨k + 1, acc ++ ⟨#[10]⟩ ++ lb, by omega, by omega, by go_num, rfl, by rw [ByteArray.size_append, ByteArray.size_append]; show acc.size + 1 + lb.size ≤ _; omega, ?_, hbw.trans (hb2.mono hbw.size)⟩
              rw [show (acc ++ ⟨#[10]⟩ ++ lb).data.toList = acc.data.toList ++ [10] ++ lb.data.toList by simp, HLB.out]
              exact Pl.joined_next s.data.toList k (by omega) (by rw [show s.data.toList.length = s.size from rfl, HT.out]; omega) l HL.out _ HJ.out
            case measure => simp [intOf]; omega
    · obtain rfl : k = t + 1 := by omega
      have hacc := Pl.joined_all s.data.toList acc.data.toList (by rw [show s.data.toList.length = s.size from rfl, HT.out]; exact HJ.out)
      obtain rfl : acc = s := by
        apply ByteArray.ext; apply Array.toList_inj.1; exact hacc
      clear hacc
      by_cases hn : 1 ≤ n ∧ n ≤ t
      · obtain ⟨l, hl⟩ := Pl.lineOf_some acc.data.toList n hn.1 (by rw [show acc.data.toList.length = acc.size from rfl, HT.out]; exact hn.2)
        obtain ⟨lb, hlb⟩ : ∃ lb : ByteArray, lineV acc.data.toList n = .tuple #[.string lb, .bool true] := ⟨⟨l.toArray⟩, by unfold lineV; rw [hl]; rfl⟩
        have HV := Lib.hid hlb
        obtain ⟨hn1, hn2⟩ := hn
        clear hl hlb
        go_wp2_with fail
        refine (line_any acc hs _ _).mono ?_
        rintro e w2 ⟨rfl, hb2⟩
        rw [HV.out]
        go_wp2_with fail
        refine (awake_any _).mono ?_
        rintro e w3 ⟨rfl, hb3⟩
        go_wp2_with fail
        go_ret
        exact ⟨rfl, (hbw.trans (hb2.mono hbw.size)).trans (hb3.mono (Nat.le_trans hbw.size hb2.size))⟩
      · have hl := Pl.lineOf_none acc.data.toList n (by rw [show acc.data.toList.length = acc.size from rfl, HT.out]; omega)
        have hlb : lineV acc.data.toList n = .tuple #[.string ⟨#[]⟩, .bool false] := by unfold lineV; rw [hl]; rfl
        have HV := Lib.hid hlb
        clear hl hlb
        have hcase : n < 1 ∨ (1 ≤ n ∧ (t : Int) < n) := by omega
        clear hn
        rcases hcase with hn | ⟨hn, hn2⟩
        all_goals
          go_wp2_with fail
          refine (line_any acc hs _ _).mono ?_
          rintro e w2 ⟨rfl, hb2⟩
          rw [HV.out]
          go_wp2_with fail
          refine (awake_any _).mono ?_
          rintro e w3 ⟨rfl, hb3⟩
          go_wp2_with fail
          go_ret
          exact ⟨by first | rfl | (show Ending.returned (Value.bool _) = _; congr 2; simp; omega), (hbw.trans (hb2.mono hbw.size)).trans (hb3.mono (Nat.le_trans hbw.size hb2.size))⟩
end Go.Proofs.Ytllfpldcilceaaa
