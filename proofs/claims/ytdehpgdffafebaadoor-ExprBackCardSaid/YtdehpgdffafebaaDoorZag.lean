/- What the program tells of a kind: how many Kids it has, which Kids it may have, which word it is, how tightly it binds; and whether an expression's number and name are those of its kind. Conditions: the tables lie in memory.
How tightly a sign binds, by the document's answer. Conditions: none.
Plain facts on the text of an expression. No function is walked here. Conditions: none.
The text of an expression as one text, by its kind. No function is walked here. Conditions: none.
The function that goes through an expression's Kids: what it hands to each loop's body, in which order, and that it stops where the body says so. Conditions: none. -/
import Derived.Test.YtdehpgdffafebaaDoorZae
import Derived.Test.YtdehpgdffafebaaDoorZaf
import Derived.Test.YtdehpgdffafebaaDoorZad
import Derived.OwnWalk
import Derived.Lib.Join
import Derived.RangeFuncNested
import Derived.RangeFuncBound
import Derived.RangeFuncCalls
import Derived.RangeFuncLeaves
import Derived.Shelf.Abstract
import Derived.Shelf.RegionOpen
import Derived.WalkKit
import Derived.OwnWalkIn
import Derived.TacticsInMore
import Derived.LoopNIn
import Derived.LoopIn
namespace Go.Proofs.YtdehpgdffafebaaDoor
open Go.RowKit
open Go.Lib (decDigits itoa)
set_option linter.unusedVariables false

set_option maxHeartbeats 2000000 in
theorem kidsOf_any (k : Int) (w : World) : Calls Tryd.prog 30 #[.int .i64 k] w fun x w' => x = .returned (.tuple #[.int .i64 (E.kidsN k), .bool (E.isKind k)]) ∧ w' = w := by
  by_cases h1 : k = 1
  · subst h1
    go_enter Tryd.func30, Tryd.ntmps30
    go_wp2
    exact bodyPost_ret (v := .tuple #[.int .i64 (E.kidsN 1), .bool (E.isKind 1)]) (by simp [results, Tryd.results30, go_sem, E.kidsN, E.isKind]) rfl ⟨rfl, rfl⟩
  by_cases h2 : k = 2
  · subst h2
    go_enter Tryd.func30, Tryd.ntmps30
    go_wp2
    exact bodyPost_ret (v := .tuple #[.int .i64 (E.kidsN 2), .bool (E.isKind 2)]) (by simp [results, Tryd.results30, go_sem, E.kidsN, E.isKind]) rfl ⟨rfl, rfl⟩
  by_cases h3 : k = 3
  · subst h3
    go_enter Tryd.func30, Tryd.ntmps30
    go_wp2
    exact bodyPost_ret (v := .tuple #[.int .i64 (E.kidsN 3), .bool (E.isKind 3)]) (by simp [results, Tryd.results30, go_sem, E.kidsN, E.isKind]) rfl ⟨rfl, rfl⟩
  by_cases h4 : k = 4
  · subst h4
    go_enter Tryd.func30, Tryd.ntmps30
    go_wp2
    exact bodyPost_ret (v := .tuple #[.int .i64 (E.kidsN 4), .bool (E.isKind 4)]) (by simp [results, Tryd.results30, go_sem, E.kidsN, E.isKind]) rfl ⟨rfl, rfl⟩
  by_cases h5 : k = 5
  · subst h5
    go_enter Tryd.func30, Tryd.ntmps30
    go_wp2
    exact bodyPost_ret (v := .tuple #[.int .i64 (E.kidsN 5), .bool (E.isKind 5)]) (by simp [results, Tryd.results30, go_sem, E.kidsN, E.isKind]) rfl ⟨rfl, rfl⟩
  by_cases h6 : k = 6
  · subst h6
    go_enter Tryd.func30, Tryd.ntmps30
    go_wp2
    exact bodyPost_ret (v := .tuple #[.int .i64 (E.kidsN 6), .bool (E.isKind 6)]) (by simp [results, Tryd.results30, go_sem, E.kidsN, E.isKind]) rfl ⟨rfl, rfl⟩
  by_cases h7 : k = 7
  · subst h7
    go_enter Tryd.func30, Tryd.ntmps30
    go_wp2
    exact bodyPost_ret (v := .tuple #[.int .i64 (E.kidsN 7), .bool (E.isKind 7)]) (by simp [results, Tryd.results30, go_sem, E.kidsN, E.isKind]) rfl ⟨rfl, rfl⟩
  by_cases h8 : k = 8
  · subst h8
    go_enter Tryd.func30, Tryd.ntmps30
    go_wp2
    exact bodyPost_ret (v := .tuple #[.int .i64 (E.kidsN 8), .bool (E.isKind 8)]) (by simp [results, Tryd.results30, go_sem, E.kidsN, E.isKind]) rfl ⟨rfl, rfl⟩
  by_cases h9 : k = 9
  · subst h9
    go_enter Tryd.func30, Tryd.ntmps30
    go_wp2
    exact bodyPost_ret (v := .tuple #[.int .i64 (E.kidsN 9), .bool (E.isKind 9)]) (by simp [results, Tryd.results30, go_sem, E.kidsN, E.isKind]) rfl ⟨rfl, rfl⟩
  by_cases h10 : k = 10
  · subst h10
    go_enter Tryd.func30, Tryd.ntmps30
    go_wp2
    exact bodyPost_ret (v := .tuple #[.int .i64 (E.kidsN 10), .bool (E.isKind 10)]) (by simp [results, Tryd.results30, go_sem, E.kidsN, E.isKind]) rfl ⟨rfl, rfl⟩
  by_cases h11 : k = 11
  · subst h11
    go_enter Tryd.func30, Tryd.ntmps30
    go_wp2
    exact bodyPost_ret (v := .tuple #[.int .i64 (E.kidsN 11), .bool (E.isKind 11)]) (by simp [results, Tryd.results30, go_sem, E.kidsN, E.isKind]) rfl ⟨rfl, rfl⟩
  by_cases h12 : k = 12
  · subst h12
    go_enter Tryd.func30, Tryd.ntmps30
    go_wp2
    exact bodyPost_ret (v := .tuple #[.int .i64 (E.kidsN 12), .bool (E.isKind 12)]) (by simp [results, Tryd.results30, go_sem, E.kidsN, E.isKind]) rfl ⟨rfl, rfl⟩
  by_cases h13 : k = 13
  · subst h13
    go_enter Tryd.func30, Tryd.ntmps30
    go_wp2
    exact bodyPost_ret (v := .tuple #[.int .i64 (E.kidsN 13), .bool (E.isKind 13)]) (by simp [results, Tryd.results30, go_sem, E.kidsN, E.isKind]) rfl ⟨rfl, rfl⟩
  by_cases h14 : k = 14
  · subst h14
    go_enter Tryd.func30, Tryd.ntmps30
    go_wp2
    exact bodyPost_ret (v := .tuple #[.int .i64 (E.kidsN 14), .bool (E.isKind 14)]) (by simp [results, Tryd.results30, go_sem, E.kidsN, E.isKind]) rfl ⟨rfl, rfl⟩
  have HE : Hid (E.kidsN k = 0 ∧ E.isKind k = false) := Lib.hid (by
    constructor
    · unfold E.kidsN; rw [if_neg (by omega), if_neg (by omega)]
    · unfold E.isKind; simp; omega)
  have e1 : (k == 1) = false := by simpa using h1
  have e2 : (k == 2) = false := by simpa using h2
  have e3 : (k == 3) = false := by simpa using h3
  have e4 : (k == 4) = false := by simpa using h4
  have e5 : (k == 5) = false := by simpa using h5
  have e6 : (k == 6) = false := by simpa using h6
  have e7 : (k == 7) = false := by simpa using h7
  have e8 : (k == 8) = false := by simpa using h8
  have e9 : (k == 9) = false := by simpa using h9
  have e10 : (k == 10) = false := by simpa using h10
  have e11 : (k == 11) = false := by simpa using h11
  have e12 : (k == 12) = false := by simpa using h12
  have e13 : (k == 13) = false := by simpa using h13
  have e14 : (k == 14) = false := by simpa using h14
  clear h1 h2 h3 h4 h5 h6 h7 h8 h9 h10 h11 h12 h13 h14
  go_enter Tryd.func30, Tryd.ntmps30
  go_wp2
  exact bodyPost_ret (v := .tuple #[.int .i64 0, .bool false]) (by simp [results, Tryd.results30, go_sem]) rfl ⟨by rw [HE.out.1, HE.out.2], rfl⟩

theorem kid_eqs (k kk : Int) : ((k == 13) = false ∧ (k == 14) = false ∧ E.kidOk k kk = true) ∨
    ((k == 13) = true ∧ (k == 14) = false ∧ (kk == 2) = true ∧ E.kidOk k kk = true) ∨
    ((k == 13) = true ∧ (k == 14) = false ∧ (kk == 2) = false ∧ (kk == 3) = true ∧ E.kidOk k kk = true) ∨
    ((k == 13) = true ∧ (k == 14) = false ∧ (kk == 2) = false ∧ (kk == 3) = false ∧ E.kidOk k kk = false) ∨
    ((k == 13) = false ∧ (k == 14) = true ∧ (kk == 2) = true ∧ E.kidOk k kk = true) ∨
    ((k == 13) = false ∧ (k == 14) = true ∧ (kk == 2) = false ∧ (kk == 3) = true ∧ E.kidOk k kk = true) ∨
    ((k == 13) = false ∧ (k == 14) = true ∧ (kk == 2) = false ∧ (kk == 3) = false ∧ (kk == 4) = true ∧ E.kidOk k kk = true) ∨
    ((k == 13) = false ∧ (k == 14) = true ∧ (kk == 2) = false ∧ (kk == 3) = false ∧ (kk == 4) = false ∧ E.kidOk k kk = false) := by
  have h := kid_ways k kk
  simpa [bne] using h

set_option maxHeartbeats 2000000 in
theorem mayHold_any (k kk : Int) (w : World) : Calls Tryd.prog 32 #[.int .i64 k, .int .i64 kk] w fun x w' => x = .returned (.bool (E.kidOk k kk)) ∧ w' = w := by
  rcases kid_eqs k kk with ⟨e13, e14, ho⟩ | ⟨e13, e14, f2, ho⟩ | ⟨e13, e14, f2, f3, ho⟩ | ⟨e13, e14, f2, f3, ho⟩ | ⟨e13, e14, f2, ho⟩ | ⟨e13, e14, f2, f3, ho⟩ | ⟨e13, e14, f2, f3, f4, ho⟩ | ⟨e13, e14, f2, f3, f4, ho⟩
  all_goals
    have HO := Lib.hid ho
    clear ho
    go_enter Tryd.func32, Tryd.ntmps32
    go_wp2
    go_ret
    exact ⟨by rw [HO.out]; rfl, rfl⟩

/-- The words that are expressions. -/
def plVals : Array Value := #[.string ⟨#[116, 104, 105, 115]⟩, .int .i64 3, .string ⟨#[110, 117, 108, 108]⟩, .int .i64 4, .string ⟨#[105, 110, 112, 117, 116]⟩, .int .i64 5]
def PlainsIn (w : World) : Prop := ∃ t fr, w.heap[1]? = some (.cells plVals t fr)
theorem PlainsIn.below {w w' : World} (h : PlainsIn w) (hb : Below w.heap.size w w') : PlainsIn w' := by
  obtain ⟨t, fr, h0⟩ := h
  exact ⟨t, fr, (hb.block 1 (heap_lt h0)).trans h0⟩
/-- All tables lie in memory. -/
structure Laid (w : World) : Prop where
  words : WordsIn w
  pow : PowIn w
  signs : SignsIn w
  plains : PlainsIn w
theorem Laid.below {w w' : World} (h : Laid w) (hb : Below w.heap.size w w') : Laid w' := ⟨h.words.below hb, h.pow.below hb, h.signs.below hb, h.plains.below hb⟩

def plW (i : Nat) : ByteArray := if i = 0 then ⟨#[116, 104, 105, 115]⟩ else if i = 1 then ⟨#[110, 117, 108, 108]⟩ else ⟨#[105, 110, 112, 117, 116]⟩
/-- The word that an expression of a kind is. -/
def plT (k : Int) : ByteArray := if k = 3 then ⟨#[116, 104, 105, 115]⟩ else if k = 4 then ⟨#[110, 117, 108, 108]⟩ else if k = 5 then ⟨#[105, 110, 112, 117, 116]⟩ else ⟨#[]⟩
theorem index90 (i : Nat) (hi : i < 3) (W : World) : (Instr.index 95 (.agg plVals) (.int .i64 (i : Int))).run Tryd.prog W = .ok (.agg #[.string (plW i), .int .i64 (i + 3)]) W := by
  have i0 : ∀ W, (Instr.index 95 (.agg plVals) (.int .i64 0)).run Tryd.prog W = .ok (.agg #[.string (plW 0), .int .i64 3]) W := fun _ => by kernel_rfl
  have i1 : ∀ W, (Instr.index 95 (.agg plVals) (.int .i64 1)).run Tryd.prog W = .ok (.agg #[.string (plW 1), .int .i64 4]) W := fun _ => by kernel_rfl
  have i2 : ∀ W, (Instr.index 95 (.agg plVals) (.int .i64 2)).run Tryd.prog W = .ok (.agg #[.string (plW 2), .int .i64 5]) W := fun _ => by kernel_rfl
  have h : i = 0 ∨ i = 1 ∨ i = 2 := by omega
  rcases h with rfl | rfl | rfl
  · exact i0 W
  · exact i1 W
  · exact i2 W

set_option maxHeartbeats 1000000 in
theorem plainText_any (k : Int) (w : World) (hP : PlainsIn w) : Calls Tryd.prog 40 #[.int .i64 k] w fun x w' => x = .returned (.string (plT k)) ∧ Below w.heap.size w w' := by
  obtain ⟨tt, fr, hg1⟩ := hP
  go_enter Tryd.func40, Tryd.ntmps40
  go_wp2_with (refine wpList_load_row rfl 95 _ rfl 1 rfl tt _ fr _ hg1 Tryd.underlying95 rfl (by kernel_rfl) ?_)
  go_loopw [6] (fun i wr => ∃ k' : Nat, k' ≤ 3 ∧ i = .int .i64 k' ∧ Below w.heap.size w wr ∧ Hid (∀ j : Nat, j < k' → ¬ ((j : Int) + 3 = k))) (fun i _ => 3 - (intOf i).toNat)
  case atStart => exact ⟨0, by omega, rfl, Below.refl _ _, Lib.hid (fun j h => by omega)⟩
  case round =>
    obtain ⟨k', hk', rfl, hbw, hf⟩ := hrel
    have hsz := hbw.size
    by_cases hlt : k' < 3
    · have hix := index90 k' hlt
      by_cases he : (k' : Int) + 3 = k
      · have HT : Hid (plT k = plW k') := Lib.hid (by
          have h : k' = 0 ∨ k' = 1 ∨ k' = 2 := by omega
          subst he
          rcases h with rfl | rfl | rfl <;> rfl)
        have heq : ((k' : Int) + 3 == k) = true := by simpa using he
        clear he
        go_wp2_with fail
        go_ret
        exact ⟨by rw [HT.out]; rfl, hbw.alloc hsz _⟩
      · have heq : ((k' : Int) + 3 == k) = false := by simpa using he
        have HN : Hid (∀ j : Nat, j < k' + 1 → ¬ ((j : Int) + 3 = k)) := Lib.hid (fun j hj => by
          by_cases h : j < k'
          · exact hf.out j h
          · have : j = k' := by omega
            subst this; exact he)
        clear he
        go_wp2_with fail
        go_roundw
        case rel => exact ⟨k' + 1, by omega, by go_num, hbw.alloc hsz _, HN⟩
        case measure => simp [intOf]; omega
    · have HT : Hid (plT k = ⟨#[]⟩) := Lib.hid (by
        have h0 := hf.out 0 (by omega)
        have h1 := hf.out 1 (by omega)
        have h2 := hf.out 2 (by omega)
        unfold plT
        rw [if_neg (by omega), if_neg (by omega), if_neg (by omega)])
      go_wp2_with fail
      go_ret
      exact ⟨by rw [HT.out]; rfl, hbw⟩

/-! ### How tightly a kind binds -/
def chainB (k : Int) : Bool := decide (k = 11) || (decide (k = 6) || (decide (k = 7) || decide (k = 8)))
def sgT (k : Int) : ByteArray := if k = 11 then ⟨#[38, 38]⟩ else if k = 9 then ⟨#[60]⟩ else if k = 10 then ⟨#[61, 61]⟩ else if k = 6 then ⟨#[43]⟩ else if k = 7 then ⟨#[45]⟩ else ⟨#[42]⟩
theorem signOf_ways (k : Int) : (isSign k = true ∧ signOf k = some ⟨sgT k, k, bindI k, chainB k⟩ ∧ 1 ≤ bindI k ∧ bindI k ≤ 4) ∨ (isSign k = false ∧ signOf k = none ∧ bindI k = 5) := by
  by_cases h1 : k = 11; · subst h1; exact .inl ⟨rfl, rfl, by decide, by decide⟩
  by_cases h2 : k = 9; · subst h2; exact .inl ⟨rfl, rfl, by decide, by decide⟩
  by_cases h3 : k = 10; · subst h3; exact .inl ⟨rfl, rfl, by decide, by decide⟩
  by_cases h4 : k = 6; · subst h4; exact .inl ⟨rfl, rfl, by decide, by decide⟩
  by_cases h5 : k = 7; · subst h5; exact .inl ⟨rfl, rfl, by decide, by decide⟩
  by_cases h6 : k = 8; · subst h6; exact .inl ⟨rfl, rfl, by decide, by decide⟩
  refine .inr ⟨by unfold isSign; simp; omega, ?_, by unfold bindI; rw [if_neg h1, if_neg (by omega), if_neg (by omega), if_neg h6]⟩
  have := signOf_some k
  have hs : isSign k = false := by unfold isSign; simp; omega
  rw [hs] at this
  simpa using this
theorem sg_val (a : ByteArray) (b c : Int) (d : Bool) : Sg.val ⟨a, b, c, d⟩ = .agg #[.string a, .int .i64 b, .int .i64 c, .bool d] := rfl

set_option maxHeartbeats 1000000 in
theorem bindOf_any (k : Int) (w : World) (hS : SignsIn w) : Calls Tryd.prog 55 #[.int .i64 k] w fun x w' => x = .returned (.int .i64 (bindI k)) ∧ Below w.heap.size w w' := by
  have HS := Lib.hid (signOf_any k w hS)
  rcases signOf_ways k with ⟨h1, h2, h3, h4⟩ | ⟨h1, h2, h3⟩
  · have HB := Lib.hid (rfl : bindI k = bindI k)
    rw [h2] at HS
    have HS' : Hid (Calls Tryd.prog 38 #[.int .i64 k] w fun x w' => x = .returned (.tuple #[.agg #[.string (sgT k), .int .i64 k, .int .i64 (bindI k), .bool (chainB k)], .bool true]) ∧ Below w.heap.size w w') := HS
    clear h1 h2 h3 h4 HS HB
    go_enter Tryd.func55, Tryd.ntmps55
    go_wp2_with fail
    refine HS'.out.mono ?_
    rintro e w1 ⟨rfl, hb1⟩
    go_wp2_with fail
    go_ret
    exact ⟨rfl, hb1.alloc hb1.size _⟩
  · rw [h2] at HS
    have HS' : Hid (Calls Tryd.prog 38 #[.int .i64 k] w fun x w' => x = .returned (.tuple #[.agg #[.string ⟨#[]⟩, .int .i64 0, .int .i64 0, .bool false], .bool false]) ∧ Below w.heap.size w w') := HS
    have HB := Lib.hid h3
    clear h1 h2 h3 HS
    go_enter Tryd.func55, Tryd.ntmps55
    go_wp2_with fail
    refine HS'.out.mono ?_
    rintro e w1 ⟨rfl, hb1⟩
    go_wp2_with fail
    go_ret
    exact ⟨by rw [HB.out]; rfl, hb1.alloc hb1.size _⟩

/-- How tightly the Kid at a place has to be bound. -/
def leastI (k : Int) (i : Nat) : Int := if isSign k = true ∧ ¬ (chainB k = true ∧ i = 0) then bindI k + 1 else bindI k

set_option maxHeartbeats 1000000 in
theorem least_any (k : Int) (i : Nat) (w : World) (hS : SignsIn w) : Calls Tryd.prog 36 #[.int .i64 k, .int .i64 (i : Int)] w fun x w' => x = .returned (.int .i64 (leastI k i)) ∧ Below w.heap.size w w' := by
  have HS := Lib.hid (signOf_any k w hS)
  have HBO : Hid (∀ W, Below w.heap.size w W → Calls Tryd.prog 55 #[.int .i64 k] W fun x w' => x = .returned (.int .i64 (bindI k)) ∧ Below W.heap.size W w') := Lib.hid (fun W hb => bindOf_any k W (hS.below hb))
  rcases signOf_ways k with ⟨h1, h2, h3, h4⟩ | ⟨h1, h2, h3⟩
  · rw [h2] at HS
    have HS' : Hid (Calls Tryd.prog 38 #[.int .i64 k] w fun x w' => x = .returned (.tuple #[.agg #[.string (sgT k), .int .i64 k, .int .i64 (bindI k), .bool (chainB k)], .bool true]) ∧ Below w.heap.size w w') := HS
    clear HS h2
    obtain ⟨b, hb⟩ : ∃ b, b = bindI k := ⟨_, rfl⟩
    rw [← hb] at HS' HBO h3 h4
    cases hc : chainB k with
    | true =>
      rw [hc] at HS'
      by_cases hi : i = 0
      · have HL : Hid (leastI k i = b) := Lib.hid (by unfold leastI; rw [if_neg (by simp [hc, hi]), hb])
        subst hi
        clear h1 hc hb
        go_enter Tryd.func36, Tryd.ntmps36
        go_wp2_with fail
        refine HS'.out.mono ?_
        rintro e w1 ⟨rfl, hb1⟩
        go_wp2_with fail
        refine (HBO.out _ (hb1.alloc hb1.size _)).mono ?_
        rintro e w2 ⟨rfl, hb2⟩
        go_wp2_with fail
        go_ret
        exact ⟨by rw [HL.out]; rfl, (hb1.alloc hb1.size _).trans (hb2.mono (by simp; have := hb1.size; omega))⟩
      · have HL : Hid (leastI k i = b + 1) := Lib.hid (by unfold leastI; rw [if_pos ⟨h1, by simp [hi]⟩, hb])
        have hi0 : ((i : Int) == 0) = false := by simpa using hi
        clear h1 hc hb hi
        go_enter Tryd.func36, Tryd.ntmps36
        go_wp2_with fail
        refine HS'.out.mono ?_
        rintro e w1 ⟨rfl, hb1⟩
        go_wp2_with fail
        go_ret
        exact ⟨by rw [HL.out]; rfl, hb1.alloc hb1.size _⟩
    | false =>
      rw [hc] at HS'
      have HL : Hid (leastI k i = b + 1) := Lib.hid (by unfold leastI; rw [if_pos ⟨h1, by simp [hc]⟩, hb])
      clear h1 hc hb
      go_enter Tryd.func36, Tryd.ntmps36
      go_wp2_with fail
      refine HS'.out.mono ?_
      rintro e w1 ⟨rfl, hb1⟩
      go_wp2_with fail
      go_ret
      exact ⟨by rw [HL.out]; rfl, hb1.alloc hb1.size _⟩
  · rw [h2] at HS
    have HS' : Hid (Calls Tryd.prog 38 #[.int .i64 k] w fun x w' => x = .returned (.tuple #[.agg #[.string ⟨#[]⟩, .int .i64 0, .int .i64 0, .bool false], .bool false]) ∧ Below w.heap.size w w') := HS
    have HL : Hid (leastI k i = bindI k) := Lib.hid (by unfold leastI; rw [if_neg (by simp [h1])])
    clear h1 h2 h3 HS
    go_enter Tryd.func36, Tryd.ntmps36
    go_wp2_with fail
    refine HS'.out.mono ?_
    rintro e w1 ⟨rfl, hb1⟩
    go_wp2_with fail
    refine (HBO.out _ (hb1.alloc hb1.size _)).mono ?_
    rintro e w2 ⟨rfl, hb2⟩
    go_wp2_with fail
    go_ret
    exact ⟨by rw [HL.out]; rfl, (hb1.alloc hb1.size _).trans (hb2.mono (by simp; have := hb1.size; omega))⟩

/-! ### The number and the name of a kind -/
set_option maxHeartbeats 2000000 in
theorem selfRight_any (k n : Int) (s : ByteArray) (A : Option Addr) (L c : Nat) (w : World) (hn : -9223372036854775808 ≤ n ∧ n ≤ 9223372036854775807) (hL : Laid w) :
    Calls Tryd.prog 31 #[.agg #[.int .i64 k, .int .i64 n, .string s, .slice A L c]] w fun x w' => x = .returned (.bool (E.selfR k n s)) ∧ Below w.heap.size w w' := by
  have HX := Lib.hid (BoxE.new (w := w) (k := k) (n := n) (s := s) (A := A) (L := L) (c := c))
  obtain ⟨W0, hW0⟩ : ∃ W0, W0 = w.alloc (.cells #[.int .i64 k, .int .i64 n, .string s, .slice A L c] 24) := ⟨_, rfl⟩
  have HL := Lib.hid (hL.below (w' := W0) (by rw [hW0]; exact (Below.refl _ _).alloc (Nat.le_refl _) _))
  rw [← hW0] at HX
  obtain ⟨z0, z1, z2, z3⟩ := HX.out.cells
  have hb0 := HX.out.2
  by_cases h1 : k = 1
  · subst h1
    have HN := Lib.hid (number_itoa n)
    go_enter Tryd.func31, Tryd.ntmps31
    go_wp2_with fail
    rw [← hW0]
    refine (digits_any n hn.1 hn.2 W0 HL.out.pow).mono ?_
    rintro e w1 ⟨rfl, hb1⟩
    go_wp2_with fail
    refine (number_any _ w1).mono ?_
    rintro e w2 ⟨rfl, rfl⟩
    obtain ⟨x, b, hv, hb⟩ := numV_form (ByteArray.mk (itoa n).toArray)
    rw [hv]
    obtain ⟨z0', z1', z2', z3'⟩ := (HX.out.step hb1).cells
    have hbe := hb0.trans (hb1.mono hb0.size)
    cases b with
    | false =>
      have HE : Hid (E.selfR 1 n s = false) := Lib.hid (by
        rw [HN.out] at hb
        unfold E.selfR
        rw [if_pos rfl, ← hb]; rfl)
      clear hb hv
      go_wp2_with fail
      go_ret
      exact ⟨by rw [HE.out]; rfl, hbe⟩
    | true =>
      rw [HN.out] at hb
      by_cases hs : s = ⟨#[]⟩
      · have HE : Hid (E.selfR 1 n s = true) := Lib.hid (by
          unfold E.selfR
          rw [if_pos rfl, ← hb]; simp [hs])
        subst hs
        have t1 : ((ByteArray.mk #[]).toList == []) = true := by rw [nil_list]; rfl
        clear hb hv
        go_wp2_with fail
        go_ret
        exact ⟨by rw [HE.out]; rfl, hbe⟩
      · have HE : Hid (E.selfR 1 n s = false) := Lib.hid (by
          unfold E.selfR
          rw [if_pos rfl]; simp [hs])
        have t0 : (s.toList == []) = false := by rw [str_nil]; simpa using hs
        clear hb hv hs
        go_wp2_with fail
        go_ret
        exact ⟨by rw [HE.out]; rfl, hbe⟩
  · have e1 : (k == 1) = false := by simpa using h1
    by_cases hn0 : n = 0
    · subst hn0
      by_cases h2 : k = 2
      · subst h2
        go_enter Tryd.func31, Tryd.ntmps31
        go_wp2_with fail
        rw [← hW0]
        refine (name_any s W0 HL.out.words).mono ?_
        rintro e w1 ⟨rfl, hb1⟩
        go_wp2_with fail
        go_ret
        exact ⟨rfl, hb0.trans (hb1.mono hb0.size)⟩
      · have e2 : (k == 2) = false := by simpa using h2
        by_cases hs : s = ⟨#[]⟩
        · have HE : Hid (E.selfR k 0 s = true) := Lib.hid (by unfold E.selfR; rw [if_neg h1, if_neg h2]; simp [hs])
          subst hs
          have t1 : ((ByteArray.mk #[]).toList == []) = true := by rw [nil_list]; rfl
          clear h1 h2
          go_enter Tryd.func31, Tryd.ntmps31
          go_wp2_with fail
          rw [← hW0]
          go_ret
          exact ⟨by rw [HE.out]; rfl, hb0⟩
        · have HE : Hid (E.selfR k 0 s = false) := Lib.hid (by unfold E.selfR; rw [if_neg h1, if_neg h2]; simp [hs])
          have t0 : (s.toList == []) = false := by rw [str_nil]; simpa using hs
          clear h1 h2 hs
          go_enter Tryd.func31, Tryd.ntmps31
          go_wp2_with fail
          rw [← hW0]
          go_ret
          exact ⟨by rw [HE.out]; rfl, hb0⟩
    · have HE : Hid (E.selfR k n s = false) := Lib.hid (by unfold E.selfR; rw [if_neg h1]; split <;> simp [hn0])
      have en : (n == 0) = false := by simpa using hn0
      clear hn0 h1
      by_cases h2 : k = 2
      · subst h2
        go_enter Tryd.func31, Tryd.ntmps31
        go_wp2_with fail
        rw [← hW0]
        go_ret
        exact ⟨by rw [HE.out]; rfl, hb0⟩
      · have e2 : (k == 2) = false := by simpa using h2
        clear h2
        go_enter Tryd.func31, Tryd.ntmps31
        go_wp2_with fail
        rw [← hW0]
        go_ret
        exact ⟨by rw [HE.out]; rfl, hb0⟩
end Go.Proofs.YtdehpgdffafebaaDoor
namespace Go.Proofs.YtdehpgdffafebaaDoor
open Go.RowKit
set_option linter.unusedVariables false

set_option maxHeartbeats 2000000 in
theorem level_any (k n : Int) (s : ByteArray) (A : Option Addr) (L c : Nat) (w : World) : Calls Tryd.prog 41 #[.agg #[.int .i64 k, .int .i64 n, .string s, .slice A L c]] w fun x w' => x = .returned (.int .i64 (bindI k - 1)) ∧ Below w.heap.size w w' := by
  by_cases h6 : k = 6
  · subst h6
    go_enter Tryd.func41, Tryd.ntmps41
    go_wp2_with fail
    go_ret
    exact ⟨rfl, ((Below.refl _ w).alloc (Nat.le_refl _) _).alloc (by simp) _⟩
  by_cases h7 : k = 7
  · subst h7
    go_enter Tryd.func41, Tryd.ntmps41
    go_wp2_with fail
    go_ret
    exact ⟨rfl, ((Below.refl _ w).alloc (Nat.le_refl _) _).alloc (by simp) _⟩
  by_cases h8 : k = 8
  · subst h8
    go_enter Tryd.func41, Tryd.ntmps41
    go_wp2_with fail
    go_ret
    exact ⟨rfl, ((Below.refl _ w).alloc (Nat.le_refl _) _).alloc (by simp) _⟩
  by_cases h9 : k = 9
  · subst h9
    go_enter Tryd.func41, Tryd.ntmps41
    go_wp2_with fail
    go_ret
    exact ⟨rfl, ((Below.refl _ w).alloc (Nat.le_refl _) _).alloc (by simp) _⟩
  by_cases h10 : k = 10
  · subst h10
    go_enter Tryd.func41, Tryd.ntmps41
    go_wp2_with fail
    go_ret
    exact ⟨rfl, ((Below.refl _ w).alloc (Nat.le_refl _) _).alloc (by simp) _⟩
  by_cases h11 : k = 11
  · subst h11
    go_enter Tryd.func41, Tryd.ntmps41
    go_wp2_with fail
    go_ret
    exact ⟨rfl, ((Below.refl _ w).alloc (Nat.le_refl _) _).alloc (by simp) _⟩
  have HE : Hid (bindI k - 1 = 4) := Lib.hid (by
    unfold bindI
    rw [if_neg h11, if_neg (by omega), if_neg (by omega), if_neg h8]; rfl)
  by_cases hg : 6 ≤ k
  · have e1 : decide (k ≤ 11) = false := by simp; omega
    have e0 : decide (6 ≤ k) = true := by simpa using hg
    clear h6 h7 h8 h9 h10 h11
    go_enter Tryd.func41, Tryd.ntmps41
    go_wp2_with fail
    go_ret
    exact ⟨by rw [HE.out]; rfl, ((Below.refl _ w).alloc (Nat.le_refl _) _).alloc (by simp) _⟩
  · have e0 : decide (6 ≤ k) = false := by simpa using hg
    clear h6 h7 h8 h9 h10 h11
    go_enter Tryd.func41, Tryd.ntmps41
    go_wp2_with fail
    go_ret
    exact ⟨by rw [HE.out]; rfl, ((Below.refl _ w).alloc (Nat.le_refl _) _).alloc (by simp) _⟩
end Go.Proofs.YtdehpgdffafebaaDoor
namespace Go.Proofs.YtdehpgdffafebaaDoor
open Go.Lib (decDigits itoa)
set_option linter.unusedSimpArgs false
set_option linter.unusedVariables false

/-- A text, in brackets where it has to be bound tighter. -/
def kt (t : List UInt8) (b q : Int) : List UInt8 := if b < q then 40 :: (t ++ [41]) else t
/-- The text of an expression of a kind, out of those of its Kids. -/
def txk (k n : Int) (s : ByteArray) (ts : List (List UInt8)) : List UInt8 :=
  if k = 1 then itoa n else if k = 2 then s.data.toList else if k = 12 then 33 :: ts.getD 0 []
  else if k = 13 then [110, 105, 108, 40] ++ (ts.getD 0 [] ++ [41])
  else if k = 14 then [115, 97, 109, 101, 40] ++ (ts.getD 0 [] ++ ([44, 32] ++ (ts.getD 1 [] ++ [41])))
  else if isSign k = true then Lib.join ts (32 :: ((sgT k).data.toList ++ [32])) else (plT k).data.toList
mutual
/-- The text of an expression. -/
def tx : E → List UInt8
  | .mk k n s l => txk k n s (txs k 0 l)
/-- The texts of Kids, from a place on. -/
def txs (k : Int) : Nat → List E → List (List UInt8)
  | _, [] => []
  | i, e :: r => kt (tx e) (bindI e.kind) (leastI k i) :: txs k (i + 1) r
end
theorem kt_len (t : List UInt8) (b q : Int) : (kt t b q).length ≤ t.length + 2 := by
  unfold kt; split <;> simp
theorem txs_len (k : Int) : ∀ (i : Nat) (l : List E), (txs k i l).length = l.length
  | _, [] => by rw [txs]; rfl
  | i, e :: r => by rw [txs, List.length_cons, List.length_cons, txs_len k (i + 1) r]
/-- How many bytes lists hold. -/
def sumL : List (List UInt8) → Nat
  | [] => 0
  | t :: r => t.length + sumL r
theorem getD_sum (ts : List (List UInt8)) (i : Nat) : (ts.getD i []).length ≤ sumL ts := by
  induction ts generalizing i with
  | nil => simp [sumL]
  | cons t r ih =>
    cases i with
    | zero => simp [sumL]
    | succ i => have := ih i; simp [sumL] at this ⊢; omega
theorem two_sum (ts : List (List UInt8)) : (ts.getD 0 []).length + (ts.getD 1 []).length ≤ sumL ts := by
  match ts with
  | [] => simp [sumL]
  | [a] => simp [sumL]
  | a :: b :: r => simp [sumL]
theorem join_sum (ts : List (List UInt8)) (sep : List UInt8) : (Lib.join ts sep).length ≤ sumL ts + ts.length * sep.length := by
  match ts with
  | [] => simp [Lib.join_nil, sumL]
  | t :: r =>
    rw [Lib.join_cons]
    have : ∀ r : List (List UInt8), (Lib.joinTail sep r).length ≤ sumL r + r.length * sep.length := by
      intro r
      induction r with
      | nil => simp [Lib.joinTail, sumL]
      | cons a q ih =>
        simp only [Lib.joinTail] at ih ⊢
        simp only [List.flatMap_cons, List.map_cons, List.flatten_cons, List.length_append, sumL, List.length_cons, Nat.add_mul, Nat.one_mul] at ih ⊢
        omega
    have h := this r
    simp only [List.length_append, sumL, List.length_cons, Nat.add_mul, Nat.one_mul]
    omega
theorem name_size {s : ByteArray} (h : Wd.nameB s = true) : s.size ≤ 20 := by
  unfold Wd.nameB at h
  simp at h
  exact h.1.1.1.2
theorem itoa_len {n : Int} (h0 : 0 ≤ n) (h1 : n ≤ 999999999) : (itoa n).length ≤ 9 := by
  have h := number_itoa n
  rw [decide_eq_true ⟨h0, h1⟩] at h
  have hs : (ByteArray.mk (itoa n).toArray).size = (itoa n).length := by show (itoa n).toArray.size = _; simp
  rcases Nat.lt_or_ge 9 (itoa n).length with g | g
  · exfalso
    have := Wd.num_len (ByteArray.mk (itoa n).toArray) (.inr (by omega))
    rw [this] at h
    cases h
  · exact g
mutual
theorem tx_len : ∀ e : E, E.form e = true → (tx e).length + 2 ≤ 48 * E.count e
  | .mk k n s l, h => by
    rw [form_head] at h
    simp only [Bool.and_eq_true] at h
    have hs := txs_sum k 0 l h.2
    have hl := txs_len k 0 l
    have hh := h.1
    unfold headB at hh
    simp only [Bool.and_eq_true, decide_eq_true_eq] at hh
    have hself := hh.2.2
    rw [tx, E.count]
    unfold txk
    split
    · rename_i h1
      subst h1
      unfold E.selfR at hself
      simp at hself
      have := itoa_len hself.1.1 hself.1.2
      omega
    · split
      · rename_i h1 h2
        subst h2
        unfold E.selfR at hself
        simp at hself
        have := name_size hself.2
        have : s.data.toList.length = s.size := rfl
        omega
      · split
        · have := getD_sum (txs k 0 l) 0
          simp only [List.length_cons]; omega
        · split
          · have := getD_sum (txs k 0 l) 0
            simp only [List.length_append, List.length_cons, List.length_nil]; omega
          · split
            · have := two_sum (txs k 0 l)
              simp only [List.length_append, List.length_cons, List.length_nil]; omega
            · split
              · rename_i h1 h2 h3 h4 h5 h6
                have h7 := join_sum (txs k 0 l) (32 :: ((sgT k).data.toList ++ [32]))
                have h8 : (sgT k).data.toList.length ≤ 2 := by unfold sgT; repeat' split
                                                               all_goals simp
                have h9 : l.length ≤ 2 := by
                  have h12 := hh.2.1
                  unfold E.kidsN at h12
                  split at h12
                  · omega
                  · split at h12 <;> omega
                have h10 : (32 :: ((sgT k).data.toList ++ [32])).length ≤ 4 := by simp only [List.length_cons, List.length_append, List.length_nil]; omega
                have h11 : (txs k 0 l).length * (32 :: ((sgT k).data.toList ++ [32])).length ≤ 2 * 4 := Nat.mul_le_mul (by omega) h10
                omega
              · have : (plT k).data.toList.length ≤ 5 := by unfold plT; repeat' split
                                                            all_goals simp
                omega
theorem txs_sum (k : Int) : ∀ (i : Nat) (l : List E), E.forms k l = true → sumL (txs k i l) ≤ 48 * E.counts l
  | _, [], _ => by rw [txs, sumL]; omega
  | i, e :: r, h => by
    rw [E.forms] at h
    simp only [Bool.and_eq_true] at h
    have h1 := tx_len e h.2.1
    have h2 := txs_sum k (i + 1) r h.2.2
    have h3 := kt_len (tx e) (bindI e.kind) (leastI k i)
    rw [txs, sumL, E.counts]; omega
end
end Go.Proofs.YtdehpgdffafebaaDoor
namespace Go.Proofs.YtdehpgdffafebaaDoor
open Go.RowKit
open Go.Lib (decDigits itoa)
set_option linter.unusedSimpArgs false
set_option linter.unusedVariables false

def txB (e : E) : ByteArray := ⟨(tx e).toArray⟩
def ktB (e : E) (q : Int) : ByteArray := ⟨(kt (tx e) (bindI e.kind) q).toArray⟩
theorem ba_ext {a b : ByteArray} (h : a.data.toList = b.data.toList) : a = b := by
  cases a; cases b
  simp at h
  subst h
  rfl
theorem ba_app (a b : ByteArray) : (a ++ b).data.toList = a.data.toList ++ b.data.toList := by simp [ByteArray.data_append]
theorem ktB_size (e : E) (q : Int) (h : E.form e = true) : (ktB e q).size ≤ 48 * E.count e := by
  have h1 := tx_len e h
  have h2 := kt_len (tx e) (bindI e.kind) q
  have : (ktB e q).size = (kt (tx e) (bindI e.kind) q).length := by show (kt (tx e) (bindI e.kind) q).toArray.size = _; simp
  omega
theorem txB_size (e : E) (h : E.form e = true) : (txB e).size ≤ 48 * E.count e := by
  have h1 := tx_len e h
  have : (txB e).size = (tx e).length := by show (tx e).toArray.size = _; simp
  omega
theorem ktB_yes {e : E} {q : Int} (h : bindI e.kind < q) : ktB e q = ⟨#[40]⟩ ++ txB e ++ ⟨#[41]⟩ := by
  apply ba_ext
  rw [ba_app, ba_app]
  simp [ktB, txB, kt, h]
theorem ktB_no {e : E} {q : Int} (h : ¬ bindI e.kind < q) : ktB e q = txB e := by
  apply ba_ext
  simp [ktB, txB, kt, h]
theorem txB_1 (n : Int) (s : ByteArray) (l : List E) : txB (.mk 1 n s l) = ⟨(itoa n).toArray⟩ := by unfold txB; rw [tx]; rfl
theorem txB_2 (n : Int) (s : ByteArray) (l : List E) : txB (.mk 2 n s l) = s := by
  unfold txB; rw [tx]
  apply ba_ext
  simp [txk]
theorem txB_3 (n : Int) (s : ByteArray) (l : List E) : txB (.mk 3 n s l) = ⟨#[116, 104, 105, 115]⟩ := by unfold txB; rw [tx]; rfl
theorem txB_4 (n : Int) (s : ByteArray) (l : List E) : txB (.mk 4 n s l) = ⟨#[110, 117, 108, 108]⟩ := by unfold txB; rw [tx]; rfl
theorem txB_5 (n : Int) (s : ByteArray) (l : List E) : txB (.mk 5 n s l) = ⟨#[105, 110, 112, 117, 116]⟩ := by unfold txB; rw [tx]; rfl
theorem txB_12 (n : Int) (s : ByteArray) (x : E) : txB (.mk 12 n s [x]) = ⟨#[33]⟩ ++ ktB x 5 := by
  apply ba_ext
  rw [ba_app]
  unfold txB; rw [tx, txs, txs]
  have : leastI 12 0 = 5 := rfl
  simp [txk, ktB, this]
theorem txB_13 (n : Int) (s : ByteArray) (x : E) : txB (.mk 13 n s [x]) = ⟨#[110, 105, 108, 40]⟩ ++ ktB x 5 ++ ⟨#[41]⟩ := by
  apply ba_ext
  rw [ba_app, ba_app]
  unfold txB; rw [tx, txs, txs]
  have : leastI 13 0 = 5 := rfl
  simp [txk, ktB, this]
theorem txB_14 (n : Int) (s : ByteArray) (x y : E) : txB (.mk 14 n s [x, y]) = ⟨#[115, 97, 109, 101, 40]⟩ ++ ktB x 5 ++ ⟨#[44, 32]⟩ ++ ktB y 5 ++ ⟨#[41]⟩ := by
  apply ba_ext
  rw [ba_app, ba_app, ba_app, ba_app]
  unfold txB; rw [tx, txs, txs, txs]
  have : leastI 14 0 = 5 := rfl
  have : leastI 14 (0 + 1) = 5 := rfl
  simp_all [txk, ktB]
theorem txB_sign (k n : Int) (s : ByteArray) (x y : E) (h : isSign k = true) : txB (.mk k n s [x, y]) = ktB x (leastI k 0) ++ ⟨#[32]⟩ ++ sgT k ++ ⟨#[32]⟩ ++ ktB y (leastI k 1) := by
  apply ba_ext
  rw [ba_app, ba_app, ba_app, ba_app]
  unfold txB; rw [tx, txs, txs, txs]
  have hk : 6 ≤ k ∧ k ≤ 11 := by simpa [isSign] using h
  unfold txk
  rw [if_neg (by omega), if_neg (by omega), if_neg (by omega), if_neg (by omega), if_neg (by omega), if_pos h]
  simp [Lib.join_cons, Lib.joinTail, ktB]

/-- Two boxes that lie behind what was there. -/
structure Duo (w : World) (ca : Array Value) (ta : TypeId) (cb : Array Value) (tb : TypeId) (W : World) : Prop where
  b0 : W.heap[w.heap.size]? = some (.cells ca ta (0, 0))
  b1 : W.heap[w.heap.size + 1]? = some (.cells cb tb (0, 0))
  below : Below w.heap.size w W
theorem Duo.step {w : World} {ta tb : TypeId} {ca cb : Array Value} {W W' : World} (h : Duo w ca ta cb tb W) (hb : Below W.heap.size W W') : Duo w ca ta cb tb W' :=
  ⟨(hb.block _ (heap_lt h.b0)).trans h.b0, (hb.block _ (heap_lt h.b1)).trans h.b1, h.below.trans (hb.mono h.below.size)⟩
theorem Duo.new (w : World) (ta tb : TypeId) (ca cb : Array Value) : Duo w ca ta cb tb ((w.alloc (.cells ca ta)).alloc (.cells cb tb)) := by
  have h0 := heap_new w (.cells ca ta)
  have h1 := heap_new (w.alloc (.cells ca ta)) (.cells cb tb)
  simp only [World.size_alloc] at h1
  refine ⟨?_, h1, ?_⟩
  · exact (Below.heap_alloc _ _ _ (by simp only [World.size_alloc]; omega)).trans h0
  · exact ((Below.refl _ w).alloc (Nat.le_refl _) _).alloc (by simp only [World.size_alloc]; omega) _
end Go.Proofs.YtdehpgdffafebaaDoor
namespace Go.Proofs.YtdehpgdffafebaaDoor
open Go.RowKit Go.Shelf
attribute [local go_sem] Oper.semAt_some
set_option linter.unusedVariables false

/-- A Kid, by its place and the value that reads as it. -/
abbrev Kd (B : Nat) (W : World) (l : List E) := { x : Nat × Value // ∃ e, l[x.1]? = some e ∧ InV B W e x.2 }
abbrev encK {B : Nat} {W : World} {l : List E} (x : Kd B W l) : Array Value := #[.int .i64 x.1.1, x.1.2]

set_option maxRecDepth 100000 in
theorem kids_in (F : Fence) (n : Nat) (h23 : F.fn 23) (hro : F.round = none) (e0 e1 e2 e3 : Value) (w : World) :
    CallsIn F n Tryd.prog 23 #[.agg #[e0, e1, e2, e3]] w fun x w' => x = .returned (.func (.func 43) #[] #[.pointer (some ⟨w.heap.size, 0, none⟩)]) ∧ w' = w.alloc (.cells #[e0, e1, e2, e3] 24) := by
  refine callsIn_of_wp Tryd.func23 rfl h23 ?_ hro
  simp only [Tryd.ntmps23, List.size_toArray, List.length_cons, List.length_nil, Nat.reduceAdd, Nat.reduceSub, Array.replicate_succ, Array.replicate_zero, List.push_toArray, List.append_toArray, List.nil_append, List.cons_append]
  gi_wp2
  go_ret
  exact ⟨rfl, rfl⟩

set_option maxRecDepth 100000 in
set_option maxHeartbeats 2000000 in
theorem kids1_in (F : Fence) (n : Nat) (h41 : F.fn 43) (hro : F.round = none) (hn : 1 ≤ n) (l0 Bt : Nat) (k q : Int) (s : ByteArray) (A : Option Addr) (c : Nat) (B n0 : Nat) (hB0 : B ≤ n0) (l : List E) (L : Nat) (hL : L = l.length) (W0 : World) (hn0 : n0 ≤ W0.heap.size) (hl : L ≤ 9223372036854775807) (hlc : L ≤ c)
    (hk : KidsIn B W0 A l) (J Jx : List (Kd B W0 l) → World → Prop)
    (hJ : ∀ pre W o, n0 ≤ W.heap.size → J pre W → J pre (W.alloc o))
    (hY : ∀ pre x W, J pre W → pre.length < L → YieldAt F (n - 1) Tryd.prog l0 (encK x) W fun e W' =>
      (e = .returned (.bool true) ∧ J (pre ++ [x]) W' ∧ Below n0 W W') ∨ (e = .returned (.bool false) ∧ Jx (pre ++ [x]) W'))
    (W : World) (hbW : Below n0 W0 W) (hbox : W.heap[Bt]? = some (.cells #[.int .i64 k, .int .i64 q, .string s,   .slice A L c] 24 (0, 0))) (h0 : J [] W) :
    CallsIn F n Tryd.prog 43 #[.func (.yield l0) #[] #[], .pointer (some ⟨Bt, 0, none⟩)] W fun e W' => (∃ v, e = .returned v) ∧
      ((∃ xs, xs.map (fun x => x.1.1) = List.range L ∧ J xs W') ∨ (∃ pre, True ∧ Jx pre W')) := by
  have HK := Lib.hid hk
  have HL := Lib.hid hL
  clear hL hk
  refine callsIn_of_wp Tryd.func43 rfl h41 ?_ hro
  simp only [Tryd.ntmps43, List.size_toArray, List.length_cons, List.length_nil, Nat.reduceAdd, Nat.reduceSub, Array.replicate_succ, Array.replicate_zero, List.push_toArray, List.append_toArray, List.nil_append, List.cons_append]
  have c3 : W.cell? ⟨Bt, 3, none⟩ = some (.slice A L c) := cell_of_row W Bt 3 _ _ (0, 0) hbox
  gi_wp2
  gi_loopw [8] (fun i wr => ∃ (k' : Nat) (pre : List (Kd B W0 l)), k' ≤ L ∧ i = .int .i64 k' ∧ Hid (pre.map (fun x => x.1.1) = List.range k') ∧ J pre wr ∧ Below n0 W0 wr)
    (fun i _ => L - (intOf i).toNat)
  case atStart => exact ⟨0, [], Nat.zero_le _, rfl, Lib.hid rfl, h0, hbW⟩
  case round =>
    obtain ⟨k', pre, hk', rfl, hpre, hJp, hbr⟩ := hrel
    have hsz := hbr.size
    by_cases hlt : k' < L
    · have hlt' : k' < l.length := by rw [← HL.out]; exact hlt
      have hplen : pre.length < L := by have := congrArg List.length hpre.out; rw [List.length_map, List.length_range] at this; omega
      obtain ⟨b, o, kk, kn, ks, kq, kA, kc, rfl, hbB, he, q0, q1, q2, q3, hvv⟩ := HK.out.at_ hlt'
      have q0 := (hbr.cell (p := ⟨b, o + k' * 4, none⟩) (by show b < n0; omega)).trans q0
      have q1 := (hbr.cell (p := ⟨b, o + k' * 4 + 1, none⟩) (by show b < n0; omega)).trans q1
      have q2 := (hbr.cell (p := ⟨b, o + k' * 4 + 2, none⟩) (by show b < n0; omega)).trans q2
      have q3 := (hbr.cell (p := ⟨b, o + k' * 4 + 3, none⟩) (by show b < n0; omega)).trans q3
      obtain ⟨x, hx⟩ : ∃ x : Kd B W0 l, x.1 = (k', .agg #[.int .i64 kk, .int .i64 kn, .string ks, .slice kA kq.length kc]) := ⟨⟨(k', _), _, by rw [List.getElem?_eq_getElem hlt', he], hvv⟩, rfl⟩
      have hJp' := hJ pre wr (.cells #[.int .i64 kk, .int .i64 kn, .string ks, .slice kA kq.length kc] 24) (by omega) hJp
      obtain ⟨fn, tmps, assign, body, hy, hR⟩ := hY pre x _ hJp' hplen
      dsimp only [encK] at hy
      rw [hx] at hy
      dsimp only at hy
      have HX := Lib.hid hx
      clear hx he hvv
      gi_wp2
      refine hR.mono ?_
      rintro e W3 (⟨rfl, hJ3, hk3⟩ | ⟨rfl, hJx3⟩)
      · have HK3 := Lib.hid hk3
        clear hk3
        gi_wp2
        go_roundw
        case rel =>
          refine ⟨k' + 1, pre ++ [x], by omega, by go_num, Lib.hid (by rw [List.map_append, hpre.out, List.range_succ]; simp [HX.out]), hJ3, (hbr.alloc (by omega) _).trans HK3.out⟩
        case measure => simp [intOf]; omega
      · gi_wp2
        refine bodyPost_ret (results_none rfl _ _ _) rfl ?_
        exact ⟨⟨_, rfl⟩, .inr ⟨pre ++ [x], trivial, hJx3⟩⟩
    · obtain rfl : k' = L := by omega
      gi_wp2
      go_end0
      exact ⟨⟨_, rfl⟩, .inl ⟨pre, hpre.out, hJp⟩⟩

theorem kids_stops (F : Fence) (n : Nat) (h41 : F.fn 43) (hro : F.round = none) (hn : 1 ≤ n) (Bt : Nat) (k q : Int) (s : ByteArray) (A : Option Addr) (c : Nat) (B n0 : Nat) (hB0 : B ≤ n0) (l : List E) (L : Nat) (hL : L = l.length) (W0 : World) (hn0 : n0 ≤ W0.heap.size) (hl : L ≤ 9223372036854775807) (hlc : L ≤ c)
    (hk : KidsIn B W0 A l) (w : World) (hw : Below n0 W0 w) (hbox : w.heap[Bt]? = some (.cells #[.int .i64 k, .int .i64 q, .string s, .slice A L c] 24 (0, 0))) :
    SeqStopsK F n Tryd.prog 43 #[.pointer (some ⟨Bt, 0, none⟩)] (fun x : Kd B W0 l => encK x) (Below n0) (fun ys => ys.map (fun x => x.1.1) = List.range L) (fun _ => True) L w := fun l0 J Jx W hW hJ _ hY h0 =>
  kids1_in F n h41 hro hn l0 Bt k q s A c B n0 hB0 l L hL W0 hn0 hl hlc hk J Jx (fun pre W1 o _ hj => hJ pre W1 _ none hj (World.grownBy_alloc W1 o none) (fun r e => by cases e)) hY W
    (hw.trans (hW.mono (Nat.le_trans hn0 hw.size))) ((hW.block Bt (heap_lt hbox)).trans hbox) h0
end Go.Proofs.YtdehpgdffafebaaDoor
