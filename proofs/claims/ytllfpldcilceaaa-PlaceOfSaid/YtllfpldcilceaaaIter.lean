/- The iterator over the lines of a text: what it hands to each loop's body, and that it stops where the body says so. Conditions: the text is at most 1000 bytes. -/
import Derived.RangeFuncNested
import Derived.RangeFuncBound
import Derived.RangeFuncCalls
import Derived.RangeFuncLeaves
import Derived.Shelf.Abstract
import Derived.Shelf.RegionOpen
import Derived.WalkKit
import Derived.OwnWalkIn
import Derived.TacticsInMore
import Derived.LoopNIn
import Derived.LoopIn
import Derived.Test.YtllfpldcilceaaaChecked
import Derived.Test.YtllfpldcilceaaaMath
import Derived.Test.YtllfpldcilceaaaRef
namespace Go.Proofs.Ytllfpldcilceaaa
open Go.RowKit Go.Shelf
attribute [local go_sem] Oper.semAt_some

/-- A line, by where it ends. -/
abbrev Ln (bs : List UInt8) := { k : Nat // k ≤ bs.length ∧ Pl.isEnd bs k }
abbrev sp (bs : List UInt8) (x : Ln bs) : Nat × Nat × Nat := Pl.span bs x.1
abbrev encL (bs : List UInt8) (x : Ln bs) : Array Value := #[.int .i64 (Pl.pos bs x.1).1, .agg #[.int .i64 (Pl.frm bs x.1), .int .i64 x.1]]
/-- What a round keeps: the block of the text. -/
def KpB (B : Nat) (W W' : World) : Prop := W'.heap[B]? = W.heap[B]?

set_option maxRecDepth 100000 in
set_option maxHeartbeats 2000000 in
theorem iter1_in (F : Fence) (n : Nat) (h14 : F.fn 14) (hro : F.round = none) (hn : 1 ≤ n) (l B : Nat) (s : ByteArray) (hs : s.size ≤ 1000) (J Jx : List (Ln s.data.toList) → World → Prop)
    (hY : ∀ pre x W, J pre W → pre.length < s.size + 1 → YieldAt F (n - 1) Try.prog l (encL s.data.toList x) W fun e W' =>
      (e = .returned (.bool true) ∧ J (pre ++ [x]) W' ∧ KpB B W W') ∨ (e = .returned (.bool false) ∧ Jx (pre ++ [x]) W'))
    (W : World) (hB : Boxed W B 9 (.string s)) (h0 : J [] W) :
    CallsIn F n Try.prog 14 #[.func (.yield l) #[] #[], .pointer (some ⟨B, 0, none⟩)] W fun e W' => (∃ v, e = .returned v) ∧
      ((∃ xs, xs.map (sp s.data.toList) = Pl.spans s.data.toList ∧ J xs W') ∨
       (∃ pre, (∃ k, k ≤ s.size ∧ pre.map (sp s.data.toList) = Pl.spansTo s.data.toList k ++ [Pl.span s.data.toList k]) ∧ Jx pre W')) := by
  refine callsIn_of_wp Try.func14 rfl h14 ?_ hro
  simp only [Try.ntmps14, List.size_toArray, List.length_cons, List.length_nil, Nat.reduceAdd, Nat.reduceSub, Array.replicate_succ, Array.replicate_zero, List.push_toArray, List.append_toArray, List.nil_append, List.cons_append]
  gi_wp2
  gi_loopw [3, 4, 5] (fun nn fr i wr => ∃ (k : Nat) (pre : List (Ln s.data.toList)), k ≤ s.size ∧ i = .int .i64 k ∧ nn = .int .i64 (Pl.pos s.data.toList k).1 ∧ fr = .int .i64 (Pl.frm s.data.toList k) ∧ pre.map (sp s.data.toList) = Pl.spansTo s.data.toList k ∧ J pre wr ∧ Boxed wr B 9 (.string s))
    (fun _ _ i _ => s.size - (intOf i).toNat)
  case atStart => exact ⟨0, [], Nat.zero_le _, rfl, rfl, rfl, rfl, h0, hB⟩
  case round =>
    obtain ⟨k, pre, hk, rfl, rfl, rfl, hpre, hJ, hBx⟩ := hrel
    have HPRE := Lib.hid hpre
    have hplen : pre.length ≤ k := by have := congrArg List.length hpre; rw [List.length_map] at this; rw [this]; exact Pl.spansTo_len _ _
    clear hpre
    have hlen : s.data.toList.length = s.size := rfl
    have hb := Pl.pos_bd s.data.toList k hk
    have hf := Pl.frm_le s.data.toList k hk
    have hc := hBx.cell
    by_cases hlt : k < s.size
    · by_cases h10 : s.data.toList[k]'hlt = 10
      · have ht : ((s[k].toNat : Int) != 10) = false := by have h3 : s[k] = 10 := h10; rw [h3]; rfl
        obtain ⟨x, hx⟩ : ∃ x : Ln s.data.toList, x.1 = k := ⟨⟨k, hk, .inr (by rw [List.getElem?_eq_getElem hlt, h10])⟩, rfl⟩
        subst hx
        have H10 := Lib.hid h10
        obtain ⟨fn, tmps, assign, body, hy, hR⟩ := hY pre x wr hJ (by omega)
        dsimp only [encL] at hy
        have HPS := Lib.hid (Pl.pos_succ s.data.toList x.1 hlt)
        have HFS := Lib.hid (Pl.frm_nl s.data.toList x.1 hlt h10)
        have HSS := Lib.hid (Pl.spansTo_nl s.data.toList x.1 hlt h10)
        clear h10
        gi_wp2
        refine hR.mono ?_
        rintro e W3 (⟨rfl, hJ3, hk3⟩ | ⟨rfl, hJx3⟩)
        · have HK3 := Lib.hid hk3
          clear hk3
          gi_wp2
          go_roundw
          case rel =>
            refine ⟨x.1 + 1, pre ++ [x], by omega, by go_num, ?_, ?_, ?_, hJ3, HK3.out.trans hBx⟩
            · rw [HPS.out, if_pos H10.out]; go_num
            · rw [HFS.out]; go_num
            · rw [HSS.out, List.map_append, HPRE.out]; rfl
          case measure => simp [intOf]; omega
        · gi_wp2
          refine bodyPost_ret (results_none rfl _ _ _) rfl ?_
          exact ⟨⟨_, rfl⟩, .inr ⟨pre ++ [x], ⟨x.1, hk, by rw [List.map_append, HPRE.out]; rfl⟩, hJx3⟩⟩
      · have ht : ((s[k].toNat : Int) != 10) = true := by
          rw [bne_iff_ne]; intro e; apply h10
          have h2 : s[k] = 10 := by apply UInt8.toNat_inj.1; show s[k].toNat = 10; omega
          exact h2
        have H10 := Lib.hid h10
        have HPS := Lib.hid (Pl.pos_succ s.data.toList k hlt)
        have HFS := Lib.hid (Pl.frm_no s.data.toList k hlt h10)
        have HSS := Lib.hid (Pl.spansTo_no s.data.toList k hlt h10)
        clear h10
        gi_wp2
        go_roundw
        case rel =>
          refine ⟨k + 1, pre, by omega, by go_num, ?_, ?_, ?_, hJ, hBx⟩
          · rw [HPS.out, if_neg H10.out]
          · rw [HFS.out]
          · rw [HSS.out, HPRE.out]
        case measure => simp [intOf]; omega
    · obtain rfl : k = s.size := by omega
      obtain ⟨x, hx⟩ : ∃ x : Ln s.data.toList, x.1 = s.size := ⟨⟨s.size, hk, .inl rfl⟩, rfl⟩
      obtain ⟨fn, tmps, assign, body, hy, hR⟩ := hY pre x wr hJ (by omega)
      dsimp only [encL] at hy
      rw [hx] at hy
      have HX := Lib.hid hx
      clear hx
      gi_wp2
      refine hR.mono ?_
      rintro e W3 (⟨rfl, hJ3, hk3⟩ | ⟨rfl, hJx3⟩)
      · have HK3 := Lib.hid hk3
        clear hk3
        gi_wp2
        go_end0
        exact ⟨⟨_, rfl⟩, .inl ⟨pre ++ [x], by rw [List.map_append, HPRE.out]; simp only [List.map_cons, List.map_nil, sp, HX.out]; rfl, hJ3⟩⟩
      · gi_wp2
        go_end0
        exact ⟨⟨_, rfl⟩, .inr ⟨pre ++ [x], ⟨s.size, Nat.le_refl _, by rw [List.map_append, HPRE.out]; simp only [List.map_cons, List.map_nil, sp, HX.out]⟩, hJx3⟩⟩
end Go.Proofs.Ytllfpldcilceaaa
