/- The tables of signs and of words that the program reads: which sign a kind has, how tightly it binds. Conditions: the tables lie in memory.
What the program and the document's answer say of names and numbers. Conditions: the table of words lies in memory.
What the document's answer says of names; what the program and the document's answer say of numbers. Conditions: none.
Whether an expression may be, by the document's answer. Conditions: none. -/
import Derived.Test.YtdehpgdffafebaaDoorZad
import Derived.Test.YtdehpgdffafebaaDoorZac
import Derived.Deep.RegionHeld3
import Derived.Deep.DeepCutAuto
namespace Go.Proofs.YtdehpgdffafebaaDoor
open Go.RowKit
set_option linter.unusedVariables false

structure Sg where
  text : ByteArray
  kind : Int
  bind : Int
  chain : Bool
def Sg.val (x : Sg) : Value := .agg #[.string x.text, .int .i64 x.kind, .int .i64 x.bind, .bool x.chain]
def Sg.cells (x : Sg) : List Value := [.string x.text, .int .i64 x.kind, .int .i64 x.bind, .bool x.chain]
def sgL : List Sg := [⟨⟨#[38, 38]⟩, 11, 1, true⟩, ⟨⟨#[60]⟩, 9, 2, false⟩, ⟨⟨#[61, 61]⟩, 10, 2, false⟩, ⟨⟨#[43]⟩, 6, 3, true⟩, ⟨⟨#[45]⟩, 7, 3, true⟩, ⟨⟨#[42]⟩, 8, 4, true⟩]
def sg0 : Sg := ⟨⟨#[]⟩, 0, 0, false⟩
def sgAt (i : Nat) : Sg := sgL.getD i sg0
def sgVals : Array Value := (sgL.flatMap Sg.cells).toArray
/-- The table of signs lies in memory. -/
def SignsIn (w : World) : Prop := ∃ t fr, w.heap[0]? = some (.cells sgVals t fr)
theorem SignsIn.below {w w' : World} (h : SignsIn w) (hb : Below w.heap.size w w') : SignsIn w' := by
  obtain ⟨t, fr, h0⟩ := h
  exact ⟨t, fr, (hb.block 0 (heap_lt h0)).trans h0⟩

/-- The sign of a kind. -/
def signOf (k : Int) : Option Sg := sgL.find? fun x => decide (x.kind = k)
def isSign (k : Int) : Bool := decide (6 ≤ k) && decide (k ≤ 11)
def bindI (k : Int) : Int := if k = 11 then 1 else if k = 9 ∨ k = 10 then 2 else if k = 6 ∨ k = 7 then 3 else if k = 8 then 4 else 5
theorem signOf_some (k : Int) : (signOf k).isSome = isSign k := by
  unfold signOf sgL isSign
  simp [List.find?]
  by_cases h1 : k = 11; · subst h1; rfl
  by_cases h2 : k = 9; · subst h2; rfl
  by_cases h3 : k = 10; · subst h3; rfl
  by_cases h4 : k = 6; · subst h4; rfl
  by_cases h5 : k = 7; · subst h5; rfl
  by_cases h6 : k = 8; · subst h6; rfl
  have n1 : ¬ (11 = k) := fun e => h1 e.symm
  have n2 : ¬ (9 = k) := fun e => h2 e.symm
  have n3 : ¬ (10 = k) := fun e => h3 e.symm
  have n4 : ¬ (6 = k) := fun e => h4 e.symm
  have n5 : ¬ (7 = k) := fun e => h5 e.symm
  have n6 : ¬ (8 = k) := fun e => h6 e.symm
  simp [n1, n2, n3, n4, n5, n6]
  omega

theorem index78 (k : Nat) (hk : k < 6) (W : World) : (Instr.index 83 (.agg sgVals) (.int .i64 (k : Int))).run Tryd.prog W = .ok (sgAt k).val W := by
  have i0 : ∀ W, (Instr.index 83 (.agg sgVals) (.int .i64 0)).run Tryd.prog W = .ok (sgAt 0).val W := fun _ => by kernel_rfl
  have i1 : ∀ W, (Instr.index 83 (.agg sgVals) (.int .i64 1)).run Tryd.prog W = .ok (sgAt 1).val W := fun _ => by kernel_rfl
  have i2 : ∀ W, (Instr.index 83 (.agg sgVals) (.int .i64 2)).run Tryd.prog W = .ok (sgAt 2).val W := fun _ => by kernel_rfl
  have i3 : ∀ W, (Instr.index 83 (.agg sgVals) (.int .i64 3)).run Tryd.prog W = .ok (sgAt 3).val W := fun _ => by kernel_rfl
  have i4 : ∀ W, (Instr.index 83 (.agg sgVals) (.int .i64 4)).run Tryd.prog W = .ok (sgAt 4).val W := fun _ => by kernel_rfl
  have i5 : ∀ W, (Instr.index 83 (.agg sgVals) (.int .i64 5)).run Tryd.prog W = .ok (sgAt 5).val W := fun _ => by kernel_rfl
  have h : k = 0 ∨ k = 1 ∨ k = 2 ∨ k = 3 ∨ k = 4 ∨ k = 5 := by omega
  rcases h with rfl | rfl | rfl | rfl | rfl | rfl
  · exact i0 W
  · exact i1 W
  · exact i2 W
  · exact i3 W
  · exact i4 W
  · exact i5 W

theorem set4 {w : World} {g : Nat} {x0 x1 x2 x3 : Value} {t : TypeId} (h : w.heap[g]? = some (.cells #[x0, x1, x2, x3] t (0, 0))) (a b c d : Value) :
    ((((w.setCell ⟨g, 0, none⟩ a).setCell ⟨g, 1, none⟩ b).setCell ⟨g, 2, none⟩ c).setCell ⟨g, 3, none⟩ d).heap[g]? = some (.cells #[a, b, c, d] t (0, 0)) := by
  have h1 : (w.setCell ⟨g, 0, none⟩ a).heap[g]? = some (.cells #[a, x1, x2, x3] t (0, 0)) := heap_setCell_same w g 0 _ t a h
  have h2 : ((w.setCell ⟨g, 0, none⟩ a).setCell ⟨g, 1, none⟩ b).heap[g]? = some (.cells #[a, b, x2, x3] t (0, 0)) := heap_setCell_same _ g 1 _ t b h1
  have h3 : (((w.setCell ⟨g, 0, none⟩ a).setCell ⟨g, 1, none⟩ b).setCell ⟨g, 2, none⟩ c).heap[g]? = some (.cells #[a, b, c, x3] t (0, 0)) := heap_setCell_same _ g 2 _ t c h2
  exact heap_setCell_same _ g 3 _ t d h3
theorem cells4 {w : World} {g : Nat} {a b c d : Value} {t : TypeId} (h : w.heap[g]? = some (.cells #[a, b, c, d] t (0, 0))) :
    w.cell? ⟨g, 0, none⟩ = some a ∧ w.cell? ⟨g, 1, none⟩ = some b ∧ w.cell? ⟨g, 2, none⟩ = some c ∧ w.cell? ⟨g, 3, none⟩ = some d :=
  ⟨cell_of_row w _ 0 _ _ (0, 0) h, cell_of_row w _ 1 _ _ (0, 0) h, cell_of_row w _ 2 _ _ (0, 0) h, cell_of_row w _ 3 _ _ (0, 0) h⟩

set_option maxRecDepth 100000 in
set_option maxHeartbeats 1000000 in
theorem signOf_any (k : Int) (w : World) (hS : SignsIn w) : Calls Tryd.prog 38 #[.int .i64 k] w fun x w' => x = .returned (.tuple #[((signOf k).getD sg0).val, .bool (signOf k).isSome]) ∧ Below w.heap.size w w' := by
  obtain ⟨tt, fr, hg1⟩ := hS.below ((Below.refl _ w).alloc (Nat.le_refl _) (.cells #[.string ⟨#[]⟩, .int .i64 0, .int .i64 0, .bool false] 70))
  go_enter Tryd.func38, Tryd.ntmps38
  go_wp2_with (refine wpList_load_row rfl 83 _ rfl 0 rfl tt _ fr _ hg1 Tryd.underlying83 rfl (by kernel_rfl) ?_)
  go_loopw [7] (fun i wr => ∃ k' : Nat, k' ≤ 6 ∧ i = .int .i64 k' ∧ wr.heap[w.heap.size]? = some (.cells #[.string ⟨#[]⟩, .int .i64 0, .int .i64 0, .bool false] 70 (0, 0)) ∧ Below w.heap.size w wr ∧ Hid ((sgL.drop k').find? (fun x => decide (x.kind = k)) = signOf k)) (fun i _ => 6 - (intOf i).toNat)
  case atStart => exact ⟨0, by omega, rfl, heap_new w _, (Below.refl _ _).alloc (Nat.le_refl _) _, Lib.hid rfl⟩
  case round =>
    obtain ⟨k', hk', rfl, hres, hbw, hf⟩ := hrel
    have hsz := hbw.size
    have hlt0 := heap_lt hres
    have r0 : wr.cell? ⟨w.heap.size, 0, none⟩ = some (.string ⟨#[]⟩) := cell_of_row wr _ 0 _ _ (0, 0) hres
    have r1 : wr.cell? ⟨w.heap.size, 1, none⟩ = some (.int .i64 0) := cell_of_row wr _ 1 _ _ (0, 0) hres
    have r2 : wr.cell? ⟨w.heap.size, 2, none⟩ = some (.int .i64 0) := cell_of_row wr _ 2 _ _ (0, 0) hres
    have r3 : wr.cell? ⟨w.heap.size, 3, none⟩ = some (.bool false) := cell_of_row wr _ 3 _ _ (0, 0) hres
    have hfr : ∀ o, wr.frozen? ⟨w.heap.size, o, none⟩ = false := frozen_of hres
    by_cases hlt : k' < 6
    · have hix := index78 k' hlt
      have hd : sgL.drop k' = sgAt k' :: sgL.drop (k' + 1) := by
        have h : k' = 0 ∨ k' = 1 ∨ k' = 2 ∨ k' = 3 ∨ k' = 4 ∨ k' = 5 := by omega
        rcases h with rfl | rfl | rfl | rfl | rfl | rfl <;> rfl
      obtain ⟨y, hy⟩ : ∃ y, y = sgAt k' := ⟨_, rfl⟩
      rw [← hy] at hix hd
      obtain ⟨yt, yk, yb, yc⟩ := y
      replace hix : ∀ W, (Instr.index 83 (.agg sgVals) (.int .i64 (k' : Int))).run Tryd.prog W = .ok (.agg #[.string yt, .int .i64 yk, .int .i64 yb, .bool yc]) W := hix
      by_cases he : yk = k
      · have HF : Hid (signOf k = some ⟨yt, k, yb, yc⟩) := Lib.hid (by rw [← hf.out, hd]; simp [List.find?, he])
        subst he
        clear hd hy
        go_wp2_with fail
        have hw4 := set4 hres (.string yt) (.int .i64 yk) (.int .i64 yb) (.bool yc)
        have hw5 := (Below.heap_alloc _ (.cells #[.string yt, .int .i64 yk, .int .i64 yb, .bool yc] 70) _ (heap_lt hw4)).trans hw4
        obtain ⟨z0, z1, z2, z3⟩ := cells4 hw5
        refine bodyPost_ret (v := .tuple #[.agg #[.string yt, .int .i64 yk, .int .i64 yb, .bool yc], .bool true]) (by simp [results, Tryd.results38, go_sem, z0, z1, z2, z3]) rfl ⟨by rw [HF.out]; rfl, ?_⟩
        exact ((((hbw.setCell (Nat.le_refl _) _).setCell (Nat.le_refl _) _).setCell (Nat.le_refl _) _).setCell (Nat.le_refl _) _).alloc (by simp; omega) _
      · have HF : Hid ((sgL.drop (k' + 1)).find? (fun x => decide (x.kind = k)) = signOf k) := Lib.hid (by rw [← hf.out, hd]; simp [List.find?, he])
        have hne : (yk == k) = false := by simpa using he
        clear hd hy he
        go_wp2_with fail
        go_roundw
        case rel => exact ⟨k' + 1, by omega, by go_num, (Below.heap_alloc _ _ _ (by omega)).trans hres, hbw.alloc hsz _, HF⟩
        case measure => simp [intOf]; omega
    · have HF : Hid (signOf k = none) := Lib.hid (by rw [← hf.out, List.drop_eq_nil_of_le (by show 6 ≤ k'; omega)]; rfl)
      go_wp2_with fail
      refine bodyPost_ret (v := .tuple #[.agg #[.string ⟨#[]⟩, .int .i64 0, .int .i64 0, .bool false], .bool false]) (by simp [results, Tryd.results38, go_sem, r0, r1, r2, r3]) rfl ⟨by rw [HF.out]; rfl, ?_⟩
      exact (((hbw.setCell (Nat.le_refl _) _).setCell (Nat.le_refl _) _).setCell (Nat.le_refl _) _).setCell (Nat.le_refl _) _
end Go.Proofs.YtdehpgdffafebaaDoor
namespace Go.Proofs.YtdehpgdffafebaaDoor
open Go.RowKit

theorem okB_no {b : UInt8} (h1 : Wd.isLetter (b.toNat : Int) = false) (h2 : Wd.isDigit (b.toNat : Int) = false) : Wd.okB b = false := by
  unfold Wd.okB; rw [h1, h2]; rfl
theorem okB_l {b : UInt8} (h1 : Wd.isLetter (b.toNat : Int) = true) : Wd.okB b = true := by
  unfold Wd.okB; rw [h1]; rfl
theorem okB_d {b : UInt8} (h2 : Wd.isDigit (b.toNat : Int) = true) : Wd.okB b = true := by
  unfold Wd.okB; rw [h2]; simp

set_option maxHeartbeats 400000 in
theorem name_any (s : ByteArray) (w : World) (hW : WordsIn w) : Calls Tryd.prog 54 #[.string s] w fun e w' => e = .returned (.bool (Wd.nameB s)) ∧ Below w.heap.size w w' := by
  by_cases hlen : s.size < 1 ∨ 20 < s.size
  · have HN := Lib.hid (Wd.name_len s hlen)
    rcases hlen with h | h
    · go_enter Tryd.func54, Tryd.ntmps54
      go_wp2
      go_ret
      exact ⟨by rw [HN.out]; rfl, Below.refl _ _⟩
    · go_enter Tryd.func54, Tryd.ntmps54
      go_wp2
      go_ret
      exact ⟨by rw [HN.out]; rfl, Below.refl _ _⟩
  · have h1 : 1 ≤ s.size := by omega
    have h2 : s.size ≤ 20 := by omega
    clear hlen
    by_cases hf : Wd.isLetter (s[0].toNat : Int) = true
    · have HO := Lib.hid (Wd.name_ok s h1 h2 hf)
      have HF := Lib.hid hf
      go_enter Tryd.func54, Tryd.ntmps54
      go_wp2_with fail
      refine (letter_any _ _).mono ?_
      rintro e w1 ⟨rfl, rfl⟩
      rw [HF.out]
      go_wp2_with fail
      go_loop [3] (fun i => ∃ k : Nat, k ≤ s.size ∧ 1 ≤ k ∧ i = .int .i64 k ∧ Hid (∀ j, (h : j < s.size) → j < k → Wd.okB s[j] = true)) (fun i => s.size - (intOf i).toNat)
      case atStart =>
        refine ⟨1, h1, by omega, rfl, fun j hj hj1 => ?_⟩
        obtain rfl : j = 0 := by omega
        exact okB_l HF.out
      case round =>
        obtain ⟨k, hk, hk1, rfl, hr⟩ := hrel
        by_cases hlt : k < s.size
        · by_cases hl : Wd.isLetter (s[k].toNat : Int) = true
          · have HL := Lib.hid hl
            clear hl
            go_wp2_with fail
            refine (letter_any _ _).mono ?_
            rintro e w1 ⟨rfl, rfl⟩
            rw [HL.out]
            go_wp2
            go_round
            case rel =>
              refine ⟨k + 1, by omega, by omega, by go_num, fun j hj hj1 => ?_⟩
              by_cases e : j = k
              · subst e; exact okB_l HL.out
              · exact hr.out j hj (by omega)
            case measure => simp [intOf]; omega
          · have hl0 : Wd.isLetter (s[k].toNat : Int) = false := by simpa using hl
            have HL := Lib.hid hl0
            clear hl hl0
            by_cases hd : Wd.isDigit (s[k].toNat : Int) = true
            · have HD := Lib.hid hd
              clear hd
              go_wp2_with fail
              refine (letter_any _ _).mono ?_
              rintro e w1 ⟨rfl, rfl⟩
              rw [HL.out]
              go_wp2_with fail
              refine (digit_any _ _).mono ?_
              rintro e w1 ⟨rfl, rfl⟩
              rw [HD.out]
              go_wp2
              go_round
              case rel =>
                refine ⟨k + 1, by omega, by omega, by go_num, fun j hj hj1 => ?_⟩
                by_cases e : j = k
                · subst e; exact okB_d HD.out
                · exact hr.out j hj (by omega)
              case measure => simp [intOf]; omega
            · have hd0 : Wd.isDigit (s[k].toNat : Int) = false := by simpa using hd
              have HD := Lib.hid hd0
              clear hd hd0
              have HN := Lib.hid (Wd.name_at s k hlt (okB_no HL.out HD.out))
              go_wp2_with fail
              refine (letter_any _ _).mono ?_
              rintro e w1 ⟨rfl, rfl⟩
              rw [HL.out]
              go_wp2_with fail
              refine (digit_any _ _).mono ?_
              rintro e w1 ⟨rfl, rfl⟩
              rw [HD.out]
              go_wp2
              go_ret
              exact ⟨by rw [HN.out]; rfl, Below.refl _ _⟩
        · have HA := Lib.hid (HO.out (fun j hj => hr.out j hj (by omega)))
          go_wp2_with fail
          refine (find_any s _ hW).mono ?_
          rintro e w1 ⟨rfl, hb1⟩
          go_wp2
          go_ret
          exact ⟨by rw [HA.out]; exact ret_b (by simp), hb1⟩
    · have hf0 : Wd.isLetter (s[0].toNat : Int) = false := by simpa using hf
      have HF := Lib.hid hf0
      clear hf hf0
      have HN := Lib.hid (Wd.name_first s h1 HF.out)
      go_enter Tryd.func54, Tryd.ntmps54
      go_wp2_with fail
      refine (letter_any _ _).mono ?_
      rintro e w1 ⟨rfl, rfl⟩
      rw [HF.out]
      go_wp2
      go_ret
      exact ⟨by rw [HN.out]; rfl, Below.refl _ _⟩

end Go.Proofs.YtdehpgdffafebaaDoor
namespace Go.Proofs.YtdehpgdffafebaaDoor
open Go.RowKit

theorem find_cast (s : ByteArray) : ∃ x : Int, x = (Wd.find s : Int) := ⟨_, rfl⟩

set_option maxHeartbeats 400000 in
theorem refName_any (s : ByteArray) (w : World) : Calls Tryd.prog 34 #[.string s] w fun e w' => e = .returned (.bool (Wd.nameB s)) ∧ Below w.heap.size w w' := by
  by_cases hlen : s.size < 1 ∨ 20 < s.size
  · have HN := Lib.hid (Wd.name_len s hlen)
    rcases hlen with h | h
    · go_enter Tryd.func34, Tryd.ntmps34
      go_wp2
      go_ret
      exact ⟨by rw [HN.out]; rfl, Below.refl _ _⟩
    · go_enter Tryd.func34, Tryd.ntmps34
      go_wp2
      go_ret
      exact ⟨by rw [HN.out]; rfl, Below.refl _ _⟩
  · have h1 : 1 ≤ s.size := by omega
    have h2 : s.size ≤ 20 := by omega
    clear hlen
    by_cases hf : Wd.isLetter (s[0].toNat : Int) = true
    · have HO := Lib.hid (Wd.name_ok s h1 h2 hf)
      have HF := Lib.hid hf
      clear hf
      obtain ⟨x, hx⟩ := find_cast s
      have HX := Lib.hid hx
      have hx0 : 0 ≤ x := by omega
      clear hx
      by_cases hz : x = 0
      · subst hz
        go_enter Tryd.func34, Tryd.ntmps34
        go_wp2_with fail
        refine (refLetter_any _ _).mono ?_
        rintro e w1 ⟨rfl, rfl⟩
        rw [HF.out]
        go_wp2_with fail
        refine (refFind_any s _).mono ?_
        rintro e w1 ⟨rfl, hb1⟩
        rw [← HX.out]
        go_wp2_with fail
        go_loop [3] (fun i => ∃ k : Nat, k ≤ s.size ∧ i = .int .i64 k ∧ Hid (∀ j, (h : j < s.size) → j < k → Wd.okB s[j] = true)) (fun i => s.size - (intOf i).toNat)
        case atStart => exact ⟨0, by omega, rfl, fun j hj hj1 => by omega⟩
        case round =>
          obtain ⟨k, hk, rfl, hr⟩ := hrel
          by_cases hlt : k < s.size
          · by_cases hl : Wd.isLetter (s[k].toNat : Int) = true
            · have HL := Lib.hid hl
              clear hl
              go_wp2_with fail
              refine (refLetter_any _ _).mono ?_
              rintro e w2 ⟨rfl, rfl⟩
              rw [HL.out]
              go_wp2
              go_round
              case rel =>
                refine ⟨k + 1, by omega, by go_num, fun j hj hj1 => ?_⟩
                by_cases e : j = k
                · subst e; exact okB_l HL.out
                · exact hr.out j hj (by omega)
              case measure => simp [intOf]; omega
            · have hl0 : Wd.isLetter (s[k].toNat : Int) = false := by simpa using hl
              have HL := Lib.hid hl0
              clear hl hl0
              by_cases hd : Wd.isDigit (s[k].toNat : Int) = true
              · have HD := Lib.hid hd
                clear hd
                go_wp2_with fail
                refine (refLetter_any _ _).mono ?_
                rintro e w2 ⟨rfl, rfl⟩
                rw [HL.out]
                go_wp2_with fail
                refine (refDigit_any _ _).mono ?_
                rintro e w2 ⟨rfl, rfl⟩
                rw [HD.out]
                go_wp2
                go_round
                case rel =>
                  refine ⟨k + 1, by omega, by go_num, fun j hj hj1 => ?_⟩
                  by_cases e : j = k
                  · subst e; exact okB_d HD.out
                  · exact hr.out j hj (by omega)
                case measure => simp [intOf]; omega
              · have hd0 : Wd.isDigit (s[k].toNat : Int) = false := by simpa using hd
                have HD := Lib.hid hd0
                clear hd hd0
                have HN := Lib.hid (Wd.name_at s k hlt (okB_no HL.out HD.out))
                go_wp2_with fail
                refine (refLetter_any _ _).mono ?_
                rintro e w2 ⟨rfl, rfl⟩
                rw [HL.out]
                go_wp2_with fail
                refine (refDigit_any _ _).mono ?_
                rintro e w2 ⟨rfl, rfl⟩
                rw [HD.out]
                go_wp2
                go_ret
                exact ⟨by rw [HN.out]; rfl, hb1⟩
          · have HA := Lib.hid (HO.out (fun j hj => hr.out j hj (by omega)))
            go_wp2
            go_ret
            refine ⟨?_, hb1⟩
            have h0 : Wd.find s = 0 := by have := HX.out; omega
            rw [HA.out, h0]; rfl
      · have hxp : 0 < x := by omega
        have HN := Lib.hid (Wd.name_word s (by have := HX.out; omega))
        go_enter Tryd.func34, Tryd.ntmps34
        go_wp2_with fail
        refine (refLetter_any _ _).mono ?_
        rintro e w1 ⟨rfl, rfl⟩
        rw [HF.out]
        go_wp2_with fail
        refine (refFind_any s _).mono ?_
        rintro e w1 ⟨rfl, hb1⟩
        rw [← HX.out]
        go_wp2
        go_ret
        exact ⟨by rw [HN.out]; rfl, hb1⟩
    · have hf0 : Wd.isLetter (s[0].toNat : Int) = false := by simpa using hf
      have HF := Lib.hid hf0
      clear hf hf0
      have HN := Lib.hid (Wd.name_first s h1 HF.out)
      go_enter Tryd.func34, Tryd.ntmps34
      go_wp2_with fail
      refine (refLetter_any _ _).mono ?_
      rintro e w1 ⟨rfl, rfl⟩
      rw [HF.out]
      go_wp2
      go_ret
      exact ⟨by rw [HN.out]; rfl, Below.refl _ _⟩

end Go.Proofs.YtdehpgdffafebaaDoor
namespace Go.Proofs.YtdehpgdffafebaaDoor
open Go.RowKit
set_option linter.unusedVariables false

/-- The box of an expression lies behind what was there, which stays. -/
def BoxE (w : World) (k n : Int) (s : ByteArray) (A : Option Addr) (L c : Nat) (wx : World) : Prop :=
  wx.heap[w.heap.size]? = some (.cells #[.int .i64 k, .int .i64 n, .string s, .slice A L c] 24 (0, 0)) ∧ Below w.heap.size w wx
theorem BoxE.step {w : World} {k n : Int} {s : ByteArray} {A : Option Addr} {L c : Nat} {wx wy : World} (h : BoxE w k n s A L c wx) (hb : Below wx.heap.size wx wy) : BoxE w k n s A L c wy :=
  ⟨(hb.block _ (heap_lt h.1)).trans h.1, h.2.trans (hb.mono h.2.size)⟩
theorem BoxE.cells {w : World} {k n : Int} {s : ByteArray} {A : Option Addr} {L c : Nat} {wx : World} (h : BoxE w k n s A L c wx) :
    wx.cell? ⟨w.heap.size, 0, none⟩ = some (.int .i64 k) ∧ wx.cell? ⟨w.heap.size, 1, none⟩ = some (.int .i64 n) ∧ wx.cell? ⟨w.heap.size, 2, none⟩ = some (.string s) ∧ wx.cell? ⟨w.heap.size, 3, none⟩ = some (.slice A L c) :=
  ⟨cell_of_row wx _ 0 _ _ (0, 0) h.1, cell_of_row wx _ 1 _ _ (0, 0) h.1, cell_of_row wx _ 2 _ _ (0, 0) h.1, cell_of_row wx _ 3 _ _ (0, 0) h.1⟩
theorem BoxE.new {w : World} {k n : Int} {s : ByteArray} {A : Option Addr} {L c : Nat} : BoxE w k n s A L c (w.alloc (.cells #[.int .i64 k, .int .i64 n, .string s, .slice A L c] 24)) :=
  ⟨heap_new w _, (Below.refl _ _).alloc (Nat.le_refl _) _⟩

/-- What the document's answer asks of an expression's own parts. -/
def headB (k n : Int) (s : ByteArray) (L : Nat) : Bool := E.isKind k && (decide ((L : Int) = E.kidsN k) && E.selfR k n s)

theorem form_head (k n : Int) (s : ByteArray) (l : List E) : E.form (.mk k n s l) = (headB k n s l.length && E.forms k l) := by
  rw [E.form, headB]; simp only [Bool.and_assoc]
theorem kid_ways (k kk : Int) : ((k == 13) = false ∧ (k == 14) = false ∧ E.kidOk k kk = true) ∨
    ((k == 13) = true ∧ (k == 14) = false ∧ (kk != 2) = false ∧ E.kidOk k kk = true) ∨
    ((k == 13) = true ∧ (k == 14) = false ∧ (kk != 2) = true ∧ (kk != 3) = false ∧ E.kidOk k kk = true) ∨
    ((k == 13) = true ∧ (k == 14) = false ∧ (kk != 2) = true ∧ (kk != 3) = true ∧ E.kidOk k kk = false) ∨
    ((k == 13) = false ∧ (k == 14) = true ∧ (kk != 2) = false ∧ E.kidOk k kk = true) ∨
    ((k == 13) = false ∧ (k == 14) = true ∧ (kk != 2) = true ∧ (kk != 3) = false ∧ E.kidOk k kk = true) ∨
    ((k == 13) = false ∧ (k == 14) = true ∧ (kk != 2) = true ∧ (kk != 3) = true ∧ (kk != 4) = false ∧ E.kidOk k kk = true) ∨
    ((k == 13) = false ∧ (k == 14) = true ∧ (kk != 2) = true ∧ (kk != 3) = true ∧ (kk != 4) = true ∧ E.kidOk k kk = false) := by
  unfold E.kidOk
  by_cases h1 : k = 13
  · subst h1
    by_cases h2 : kk = 2
    · subst h2; simp
    · by_cases h3 : kk = 3
      · subst h3; simp
      · simp [h2, h3]
  · by_cases h1' : k = 14
    · subst h1'
      by_cases h2 : kk = 2
      · subst h2; simp
      · by_cases h3 : kk = 3
        · subst h3; simp
        · by_cases h4 : kk = 4
          · subst h4; simp
          · simp [h2, h3, h4]
    · simp [h1, h1']
theorem nil_list : (ByteArray.mk #[]).toList = [] := by rw [ByteArray.toList_eq]
theorem str_nil {s : ByteArray} : (s.toList == []) = decide (s = ⟨#[]⟩) := by
  rw [Bool.eq_iff_iff, decide_eq_true_eq]
  constructor
  · intro h; exact str_yes (a := s) (b := ⟨#[]⟩) (by rw [nil_list]; exact h)
  · rintro rfl; rw [nil_list]; rfl

set_option maxRecDepth 100000 in
set_option maxHeartbeats 2000000 in
theorem form_any : ∀ (m : Nat) (e : E) (v : Value) (w : World), E.count e ≤ m → InV w.heap.size w e v → Calls Tryd.prog 19 #[v] w fun x w' => x = .returned (.bool (E.form e)) ∧ Below w.heap.size w w' := by
  intro m
  induction m with
  | zero => intro e v w h; have := E.count_pos e; omega
  | succ m ih =>
    intro e v w hm hv
    obtain ⟨k, n, s, l, A, c, rfl, rfl, hn, hlc, hcm, hk⟩ := hv.open
    have hl1 : l.length ≤ 9223372036854775807 := by unfold maxLen at hcm; omega
    have HK : Hid (KidsIn w.heap.size w A l) := Lib.hid hk
    have HI := Lib.hid ih
    have HM := Lib.hid hm
    obtain ⟨L, hL⟩ : ∃ L, L = l.length := ⟨_, rfl⟩
    rw [← hL] at hlc hl1 ⊢
    have HL := Lib.hid hL
    clear hL hk hv hn hm ih hcm
    have hs0 := @str_nil s
    go_enter Tryd.func19, Tryd.ntmps19
    go_upto_region 1 with fail
    go_cut [62] (fun b wx => b = .bool (!headB k n s L) ∧ BoxE w k n s A L c wx)
    case first =>
      have HX : Hid (BoxE w k n s A L c (w.alloc (.cells #[.int .i64 k, .int .i64 n, .string s, .slice A L c] 24))) := Lib.hid BoxE.new
      haveI : Nonempty (InC (BoxE w k n s A L c)) := ⟨⟨_, HX.out⟩⟩
      have q0 : ∀ n' : InC (BoxE w k n s A L c), n'.w.cell? ⟨w.heap.size, 0, none⟩ = some (.int .i64 k) := fun n => n.ok.cells.1
      have q1 : ∀ n' : InC (BoxE w k n s A L c), n'.w.cell? ⟨w.heap.size, 1, none⟩ = some (.int .i64 n) := fun n => n.ok.cells.2.1
      have q2 : ∀ n' : InC (BoxE w k n s A L c), n'.w.cell? ⟨w.heap.size, 2, none⟩ = some (.string s) := fun n => n.ok.cells.2.2.1
      have q3 : ∀ n' : InC (BoxE w k n s A L c), n'.w.cell? ⟨w.heap.size, 3, none⟩ = some (.slice A L c) := fun n => n.ok.cells.2.2.2
      have hst : Hid (∀ W W', BoxE w k n s A L c W → Below W.heap.size W W' → BoxE w k n s A L c W') := Lib.hid (fun W W' h hb => h.step hb)
      by_cases h1 : k < 1
      · have HE : Hid (headB k n s L = false) := Lib.hid (by unfold headB E.isKind; rw [decide_eq_false (by omega : ¬ 1 ≤ k)]; rfl)
        refine region_class (by kernel_rfl) (by kernel_rfl) (HX.out.step (drew_below _)) ?_
        repeat (go_big_quiet_step ((first | (go_at_call 33; exact cls_same _ (refKids_any _ _)) | (go_at_call 34; exact cls_call hst.out _ (refName_any _ _)))))
        refine wpQuiet_nil ?_
        intro _ hw'
        obtain ⟨⟨wq, hq⟩, hw''⟩ := hw'
        subst hw''
        go_wp2_with fail
        go_meet
        exact ⟨by rw [HE.out]; rfl, hq⟩
      · have d1 : decide (k < 1) = false := by simpa using h1
        by_cases h2 : 14 < k
        · have HE : Hid (headB k n s L = false) := Lib.hid (by unfold headB E.isKind; rw [decide_eq_false (by omega : ¬ k ≤ 14)]; simp)
          refine region_class (by kernel_rfl) (by kernel_rfl) (HX.out.step (drew_below _)) ?_
          repeat (go_big_quiet_step ((first | (go_at_call 33; exact cls_same _ (refKids_any _ _)) | (go_at_call 34; exact cls_call hst.out _ (refName_any _ _)))))
          refine wpQuiet_nil ?_
          intro _ hw'
          obtain ⟨⟨wq, hq⟩, hw''⟩ := hw'
          subst hw''
          go_wp2_with fail
          go_meet
          exact ⟨by rw [HE.out]; rfl, hq⟩
        · have d2 : decide (14 < k) = false := by simpa using h2
          have hkd : E.isKind k = true := by unfold E.isKind; simp; omega
          have h1' : 1 ≤ k := by omega
          have h2' : k ≤ 14 := by omega
          by_cases h3 : (L : Int) = E.kidsN k
          · have e3 : ((L : Int) != E.kidsN k) = false := by simp [h3]
            have HH : Hid (headB k n s L = E.selfR k n s) := Lib.hid (by unfold headB; rw [hkd]; simp [h3])
            clear hkd h3 h1 h2
            by_cases k1 : k = 1
            · subst k1
              by_cases s0 : s = ⟨#[]⟩
              · subst s0
                have t1 : ((ByteArray.mk #[]).toList != []) = false := by rw [ByteArray.toList_eq]; rfl
                by_cases n0 : n < 0
                · have HE : Hid (headB 1 n ⟨#[]⟩ L = false) := Lib.hid (by rw [HH.out]; unfold E.selfR; simp; omega)
                  refine region_class (by kernel_rfl) (by kernel_rfl) (HX.out.step (drew_below _)) ?_
                  repeat (go_big_quiet_step ((first | (go_at_call 33; exact cls_same _ (refKids_any _ _)) | (go_at_call 34; exact cls_call hst.out _ (refName_any _ _)))))
                  refine wpQuiet_nil ?_
                  intro _ hw'
                  obtain ⟨⟨wq, hq⟩, hw''⟩ := hw'
                  subst hw''
                  go_wp2_with fail
                  go_meet
                  exact ⟨by rw [HE.out]; rfl, hq⟩
                · have dn : decide (n < 0) = false := by simpa using n0
                  by_cases n9 : 999999999 < n
                  · have HE : Hid (headB 1 n ⟨#[]⟩ L = false) := Lib.hid (by rw [HH.out]; unfold E.selfR; simp; omega)
                    refine region_class (by kernel_rfl) (by kernel_rfl) (HX.out.step (drew_below _)) ?_
                    repeat (go_big_quiet_step ((first | (go_at_call 33; exact cls_same _ (refKids_any _ _)) | (go_at_call 34; exact cls_call hst.out _ (refName_any _ _)))))
                    refine wpQuiet_nil ?_
                    intro _ hw'
                    obtain ⟨⟨wq, hq⟩, hw''⟩ := hw'
                    subst hw''
                    go_wp2_with fail
                    go_meet
                    exact ⟨by rw [HE.out]; rfl, hq⟩
                  · have dm : decide (999999999 < n) = false := by simpa using n9
                    have HE : Hid (headB 1 n ⟨#[]⟩ L = true) := Lib.hid (by rw [HH.out]; unfold E.selfR; simp; omega)
                    clear n0 n9
                    refine region_class (by kernel_rfl) (by kernel_rfl) (HX.out.step (drew_below _)) ?_
                    repeat (go_big_quiet_step ((first | (go_at_call 33; exact cls_same _ (refKids_any _ _)) | (go_at_call 34; exact cls_call hst.out _ (refName_any _ _)))))
                    refine wpQuiet_nil ?_
                    intro _ hw'
                    obtain ⟨⟨wq, hq⟩, hw''⟩ := hw'
                    subst hw''
                    go_wp2_with fail
                    go_meet
                    exact ⟨by rw [HE.out]; rfl, hq⟩
              · have t0 : (s.toList == []) = false := by rw [str_nil]; simpa using s0
                have t1 : (s.toList != []) = true := by unfold bne; rw [t0]; rfl
                have HE : Hid (headB 1 n s L = false) := Lib.hid (by rw [HH.out]; unfold E.selfR; simp [s0])
                clear s0 hs0
                refine region_class (by kernel_rfl) (by kernel_rfl) (HX.out.step (drew_below _)) ?_
                repeat (go_big_quiet_step ((first | (go_at_call 33; exact cls_same _ (refKids_any _ _)) | (go_at_call 34; exact cls_call hst.out _ (refName_any _ _)))))
                refine wpQuiet_nil ?_
                intro _ hw'
                obtain ⟨⟨wq, hq⟩, hw''⟩ := hw'
                subst hw''
                go_wp2_with fail
                go_meet
                exact ⟨by rw [HE.out]; rfl, hq⟩
            · have ek1 : (k != 1) = true := by simpa using k1
              by_cases n0 : n = 0
              · subst n0
                by_cases k2 : k = 2
                · have ek2 : (k != 2) = false := by simp [k2]
                  have ek2' : (k == 2) = true := by simp [k2]
                  cases hnm : Wd.nameB s with
                  | false =>
                    have HE : Hid (headB k 0 s L = false) := Lib.hid (by rw [HH.out]; unfold E.selfR; simp [hnm, k2])
                    clear k1 k2
                    refine region_class (by kernel_rfl) (by kernel_rfl) (HX.out.step (drew_below _)) ?_
                    repeat (go_big_quiet_step ((first | (go_at_call 33; exact cls_same _ (refKids_any _ _)) | (go_at_call 34; exact cls_call hst.out _ (refName_any _ _)))))
                    refine wpQuiet_nil ?_
                    intro _ hw'
                    obtain ⟨⟨wq, hq⟩, hw''⟩ := hw'
                    subst hw''
                    go_wp2_with fail
                    go_meet
                    exact ⟨by rw [HE.out]; simp, hq⟩
                    all_goals (go_wp2_with fail; go_meet; exact ⟨by rw [HE.out]; rfl, by go_split_ands; assumption⟩)
                  | true =>
                    have HE : Hid (headB k 0 s L = true) := Lib.hid (by rw [HH.out]; unfold E.selfR; simp [hnm, k2])
                    clear k1 k2
                    refine region_class (by kernel_rfl) (by kernel_rfl) (HX.out.step (drew_below _)) ?_
                    repeat (go_big_quiet_step ((first | (go_at_call 33; exact cls_same _ (refKids_any _ _)) | (go_at_call 34; exact cls_call hst.out _ (refName_any _ _)))))
                    refine wpQuiet_nil ?_
                    intro _ hw'
                    obtain ⟨⟨wq, hq⟩, hw''⟩ := hw'
                    subst hw''
                    go_wp2_with fail
                    go_meet
                    exact ⟨by rw [HE.out]; simp, hq⟩
                    all_goals (go_wp2_with fail; go_meet; exact ⟨by rw [HE.out]; rfl, by go_split_ands; assumption⟩)
                · have ek2 : (k != 2) = true := by simpa using k2
                  have ek2' : (k == 2) = false := by simpa using k2
                  by_cases s0 : s = ⟨#[]⟩
                  · subst s0
                    have t1 : ((ByteArray.mk #[]).toList != []) = false := by rw [ByteArray.toList_eq]; rfl
                    have HE : Hid (headB k 0 ⟨#[]⟩ L = true) := Lib.hid (by rw [HH.out]; unfold E.selfR; simp [k1, k2])
                    clear k1 k2
                    refine region_class (by kernel_rfl) (by kernel_rfl) (HX.out.step (drew_below _)) ?_
                    repeat (go_big_quiet_step ((first | (go_at_call 33; exact cls_same _ (refKids_any _ _)) | (go_at_call 34; exact cls_call hst.out _ (refName_any _ _)))))
                    refine wpQuiet_nil ?_
                    intro _ hw'
                    obtain ⟨⟨wq, hq⟩, hw''⟩ := hw'
                    subst hw''
                    go_wp2_with fail
                    go_meet
                    exact ⟨by rw [HE.out]; rfl, hq⟩
                  · have t0 : (s.toList == []) = false := by rw [str_nil]; simpa using s0
                    have t1 : (s.toList != []) = true := by unfold bne; rw [t0]; rfl
                    have HE : Hid (headB k 0 s L = false) := Lib.hid (by rw [HH.out]; unfold E.selfR; simp [k1, k2, s0])
                    clear k1 k2 s0 hs0
                    refine region_class (by kernel_rfl) (by kernel_rfl) (HX.out.step (drew_below _)) ?_
                    repeat (go_big_quiet_step ((first | (go_at_call 33; exact cls_same _ (refKids_any _ _)) | (go_at_call 34; exact cls_call hst.out _ (refName_any _ _)))))
                    refine wpQuiet_nil ?_
                    intro _ hw'
                    obtain ⟨⟨wq, hq⟩, hw''⟩ := hw'
                    subst hw''
                    go_wp2_with fail
                    go_meet
                    exact ⟨by rw [HE.out]; rfl, hq⟩
              · have en0 : (n != 0) = true := by simpa using n0
                have HE : Hid (headB k n s L = false) := Lib.hid (by rw [HH.out]; unfold E.selfR; by_cases k2 : k = 2 <;> simp [k1, k2, n0])
                clear k1 n0
                refine region_class (by kernel_rfl) (by kernel_rfl) (HX.out.step (drew_below _)) ?_
                repeat (go_big_quiet_step ((first | (go_at_call 33; exact cls_same _ (refKids_any _ _)) | (go_at_call 34; exact cls_call hst.out _ (refName_any _ _)))))
                refine wpQuiet_nil ?_
                intro _ hw'
                obtain ⟨⟨wq, hq⟩, hw''⟩ := hw'
                subst hw''
                go_wp2_with fail
                go_meet
                exact ⟨by rw [HE.out]; rfl, hq⟩
          · have e3 : ((L : Int) != E.kidsN k) = true := by simpa using h3
            have HE : Hid (headB k n s L = false) := Lib.hid (by unfold headB; simp [h3])
            clear hkd h3 h1 h2
            refine region_class (by kernel_rfl) (by kernel_rfl) (HX.out.step (drew_below _)) ?_
            repeat (go_big_quiet_step ((first | (go_at_call 33; exact cls_same _ (refKids_any _ _)) | (go_at_call 34; exact cls_call hst.out _ (refName_any _ _)))))
            refine wpQuiet_nil ?_
            intro _ hw'
            obtain ⟨⟨wq, hq⟩, hw''⟩ := hw'
            subst hw''
            go_wp2_with fail
            go_meet
            exact ⟨by rw [HE.out]; rfl, hq⟩
    case rest =>
      obtain ⟨rfl, hbc⟩ := hcut
      obtain ⟨W1, hW1⟩ : ∃ W1, W1 = wc := ⟨_, rfl⟩
      subst hW1
      have HB := Lib.hid hbc
      clear hbc hs0
      cases hh : headB k n s L with
      | false =>
        have HE : Hid (E.form (.mk k n s l) = false) := Lib.hid (by rw [form_head, ← HL.out, hh]; rfl)
        go_wp2_with fail
        go_ret
        exact ⟨by rw [HE.out]; rfl, HB.out.2⟩
      | true =>
        have HE : Hid (E.form (.mk k n s l) = E.forms k l) := Lib.hid (by rw [form_head, ← HL.out, hh]; rfl)
        go_wp2_with fail
        go_loopw [3] (fun i wr => ∃ k' : Nat, k' ≤ L ∧ i = .int .i64 k' ∧ Hid (BoxE w k n s A L c wr) ∧ Hid (E.forms k (l.drop k') = E.forms k l)) (fun i _ => L - (intOf i).toNat)
        case atStart => exact ⟨0, by omega, rfl, HB, Lib.hid (by rw [List.drop_zero])⟩
        case round =>
          obtain ⟨k', hk', rfl, hbox, hz⟩ := hrel
          have hbw := hbox.out.2
          have hsz := hbw.size
          have hbl := heap_lt hbox.out.1
          obtain ⟨c0, c1, c2, c3⟩ := hbox.out.cells
          by_cases hlt : k' < L
          · have hlt' : k' < l.length := by rw [← HL.out]; exact hlt
            obtain ⟨b, o, kk, kn, ks, kq, kA, kc, rfl, hbB, he, q0, q1, q2, q3, hvv⟩ := (HK.out.below hbw).at_ hlt'
            have HV := Lib.hid (hvv.more hsz)
            have HC : Hid (E.count (.mk kk kn ks kq) ≤ m) := Lib.hid (by
              have h1 := E.count_lt (k := k) (n := n) (s := s) hlt'
              have h2 := HM.out
              rw [he] at h1; omega)
            have HZ : Hid (E.forms k (l.drop k') = (E.kidOk k kk && (E.form (.mk kk kn ks kq) && E.forms k (l.drop (k' + 1))))) := Lib.hid (by rw [E.forms_at hlt', he]; rfl)
            clear he hvv
            go_wp2_with fail
            refine (HI.out _ _ _ HC.out HV.out).mono ?_
            rintro e w1 ⟨rfl, hb1⟩
            have HB1 := Lib.hid (hbox.out.step hb1)
            obtain ⟨c0', c1', c2', c3'⟩ := HB1.out.cells
            have hb1' := HB1.out.2
            cases hf : E.form (.mk kk kn ks kq) with
            | false =>
              have HN : Hid (E.form (.mk k n s l) = false) := Lib.hid (by rw [HE.out, ← hz.out, HZ.out, hf]; simp)
              go_wp2_with fail
              go_ret
              exact ⟨by rw [HN.out]; rfl, hb1'⟩
            | true =>
              rcases kid_ways k kk with ⟨e13, e14, ho⟩ | ⟨e13, e14, f2, ho⟩ | ⟨e13, e14, f2, f3, ho⟩ | ⟨e13, e14, f2, f3, ho⟩ | ⟨e13, e14, f2, ho⟩ | ⟨e13, e14, f2, f3, ho⟩ | ⟨e13, e14, f2, f3, f4, ho⟩ | ⟨e13, e14, f2, f3, f4, ho⟩
              · have HN : Hid (E.forms k (l.drop (k' + 1)) = E.forms k l) := Lib.hid (by rw [← hz.out, HZ.out, hf, ho]; simp)
                clear ho hf
                go_wp2_with fail
                go_roundw
                case rel => exact ⟨_, _, _, _, _, _, _, _, _, _, _, _, _, _, _, _, _, _, _, _, _, _, _, _, _, _, _, _, _, _, _, _, _, _, _, _, _, _, _, _, _, _, _, _, _, _, _, _, _, _, _, _, _, ⟨k' + 1, by omega, rfl, HB1, HN⟩, by go_num⟩
                case measure => simp [intOf]; omega
              · have HN : Hid (E.forms k (l.drop (k' + 1)) = E.forms k l) := Lib.hid (by rw [← hz.out, HZ.out, hf, ho]; simp)
                clear ho hf
                go_wp2_with fail
                go_roundw
                case rel => exact ⟨_, _, _, _, _, _, _, _, _, _, _, _, _, _, _, _, _, _, _, _, _, _, _, _, _, _, _, _, _, _, _, _, _, _, _, _, _, _, _, _, _, _, _, _, _, _, _, _, _, _, _, _, _, ⟨k' + 1, by omega, rfl, HB1, HN⟩, by go_num⟩
                case measure => simp [intOf]; omega
              · have HN : Hid (E.forms k (l.drop (k' + 1)) = E.forms k l) := Lib.hid (by rw [← hz.out, HZ.out, hf, ho]; simp)
                clear ho hf
                go_wp2_with fail
                go_roundw
                case rel => exact ⟨_, _, _, _, _, _, _, _, _, _, _, _, _, _, _, _, _, _, _, _, _, _, _, _, _, _, _, _, _, _, _, _, _, _, _, _, _, _, _, _, _, _, _, _, _, _, _, _, _, _, _, _, _, ⟨k' + 1, by omega, rfl, HB1, HN⟩, by go_num⟩
                case measure => simp [intOf]; omega
              · have HN : Hid (E.form (.mk k n s l) = false) := Lib.hid (by rw [HE.out, ← hz.out, HZ.out, hf, ho]; simp)
                clear ho hf
                go_wp2_with fail
                go_ret
                exact ⟨by rw [HN.out]; rfl, hb1'⟩
              · have HN : Hid (E.forms k (l.drop (k' + 1)) = E.forms k l) := Lib.hid (by rw [← hz.out, HZ.out, hf, ho]; simp)
                clear ho hf
                go_wp2_with fail
                go_roundw
                case rel => exact ⟨_, _, _, _, _, _, _, _, _, _, _, _, _, _, _, _, _, _, _, _, _, _, _, _, _, _, _, _, _, _, _, _, _, _, _, _, _, _, _, _, _, _, _, _, _, _, _, _, _, _, _, _, _, ⟨k' + 1, by omega, rfl, HB1, HN⟩, by go_num⟩
                case measure => simp [intOf]; omega
              · have HN : Hid (E.forms k (l.drop (k' + 1)) = E.forms k l) := Lib.hid (by rw [← hz.out, HZ.out, hf, ho]; simp)
                clear ho hf
                go_wp2_with fail
                go_roundw
                case rel => exact ⟨_, _, _, _, _, _, _, _, _, _, _, _, _, _, _, _, _, _, _, _, _, _, _, _, _, _, _, _, _, _, _, _, _, _, _, _, _, _, _, _, _, _, _, _, _, _, _, _, _, _, _, _, _, ⟨k' + 1, by omega, rfl, HB1, HN⟩, by go_num⟩
                case measure => simp [intOf]; omega
              · have HN : Hid (E.forms k (l.drop (k' + 1)) = E.forms k l) := Lib.hid (by rw [← hz.out, HZ.out, hf, ho]; simp)
                clear ho hf
                go_wp2_with fail
                go_roundw
                case rel => exact ⟨_, _, _, _, _, _, _, _, _, _, _, _, _, _, _, _, _, _, _, _, _, _, _, _, _, _, _, _, _, _, _, _, _, _, _, _, _, _, _, _, _, _, _, _, _, _, _, _, _, _, _, _, _, ⟨k' + 1, by omega, rfl, HB1, HN⟩, by go_num⟩
                case measure => simp [intOf]; omega
              · have HN : Hid (E.form (.mk k n s l) = false) := Lib.hid (by rw [HE.out, ← hz.out, HZ.out, hf, ho]; simp)
                clear ho hf
                go_wp2_with fail
                go_ret
                exact ⟨by rw [HN.out]; rfl, hb1'⟩
          · have HN : Hid (E.form (.mk k n s l) = true) := Lib.hid (by rw [HE.out, ← hz.out, E.forms_end (by rw [← HL.out]; exact hlt)])
            go_wp2_with fail
            go_ret
            exact ⟨by rw [HN.out]; rfl, hbw⟩
end Go.Proofs.YtdehpgdffafebaaDoor
