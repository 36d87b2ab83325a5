/- The program's functions, told by plain functions. Conditions: none.
The program's functions, told by plain functions. Conditions: none.
The program's functions, told by plain functions. Conditions: none.
The program's functions, told by plain functions. Conditions: none.
The program's functions, told by plain functions. Conditions: none.
The program's functions, told by plain functions. Conditions: none.
The program's functions, told by plain functions. Conditions: none.
The program's functions, told by plain functions. Conditions: none.
The program's functions, told by plain functions. Conditions: none.
The program's functions, told by plain functions. Conditions: none. -/
import Derived.Test.YtjghgpmkepfdhaaGreatDoorZae
import Derived.Test.YtjghgpmkepfdhaaGreatDoorChecked
import Derived.Test.YtjghgpmkepfdhaaGreatDoorZag
import Derived.Test.YtjghgpmkepfdhaaGreatDoorZaf
import Derived.Test.YtjghgpmkepfdhaaGreatDoorZay
import Derived.Test.YtjghgpmkepfdhaaGreatDoorZah
import Derived.Test.YtjghgpmkepfdhaaGreatDoorZax
namespace Go.Proofs.YtjghgpmkepfdhaaGreatDoor
open Go.RowKit
set_option linter.unusedVariables false
set_option linter.unusedSimpArgs false
set_option maxRecDepth 100000
set_option maxHeartbeats 4000000
theorem PtXPas.en48 : ∀ vs w, (callFunc 48 vs).run Tryz.prog w = .ok (.enter 48 vs) w := fun vs w => run_enter Tryz.func48 (by kernel_rfl) rfl vs w
theorem PtXPas.en52 : ∀ vs w, (callFunc 52 vs).run Tryz.prog w = .ok (.enter 52 vs) w := fun vs w => run_enter Tryz.func52 (by kernel_rfl) rfl vs w
theorem PtXPas.en54 : ∀ vs w, (callFunc 54 vs).run Tryz.prog w = .ok (.enter 54 vs) w := fun vs w => run_enter Tryz.func54 (by kernel_rfl) rfl vs w
theorem classRight10 (c : Pn.Cl) (hf : ∀ m ∈ c.methods, Pn.fitSs m.body = true) : PCalls Tryz.prog 28 [(.ag (Pn.cCl c))] (.sc (.bool (Pn.classG Wd.nameB rtT roO c))) := by
  refine pcalls_fine fun hfa => ?_
  have hR1 := hfa 0 _ rfl
  have hF2 : Fine (.ls none (List.map Pn.encStr c.params)) := hR1.at 1 rfl
  have hF2l := hF2.lenm
  have hF3 : Fine (.ls none (List.map Pn.encOw c.above)) := hR1.at 3 rfl
  have hF3l := hF3.lenm
  have hF4 : Fine (.ls none (List.map Pn.encVr c.fields)) := hR1.at 4 rfl
  have hF4l := hF4.lenm
  have hF5 : Fine (.ls none (List.map Pn.encMe c.methods)) := hR1.at 5 rfl
  have hF5l := hF5.lenm
  refine pcalls_rf mixed Tryz.func28 rfl ?_
  refine Wp.sr [] ?_
  refine Wp.sr [.n (lenm Pn.encStr c.params)] ?_
  refine Wp.sr [.c (name_p c.name), .c (allSt 48 [] [] PtXPas.en48 c.params (fun s => Wd.nameB s) (fun x _ => name_p x)), .c (aboveRight10 c.super c.above ((c.params.length : Nat) : Int)), .c (allVr 52 [(.sc (.int .i64 ((c.params.length : Nat) : Int)))] [] PtXPas.en52 c.fields (fun v => Pn.varG Wd.nameB rtT ((c.params.length : Nat) : Int) v) (fun x _ => varRight10 x ((c.params.length : Nat) : Int))), .c (allMe 54 [(.sc (.int .i64 ((c.params.length : Nat) : Int)))] [] PtXPas.en54 c.methods (fun m => Pn.methG Wd.nameB rtT ((c.params.length : Nat) : Int) m) (fun x hx => methodRight10 x ((c.params.length : Nat) : Int) (hf x hx)))] ?_
  refine Wp.ret ?_
  refine fin_r (.sc (.bool ((((((Wd.nameB c.name) && (decide ((((c.params.length : Nat) : Int) : Int) ≤ 3))) && (c.params.all (fun s => Wd.nameB s))) && (Pn.aboveG Wd.nameB roO ((c.params.length : Nat) : Int) c.super c.above)) && (c.fields.all (fun v => Pn.varG Wd.nameB rtT ((c.params.length : Nat) : Int) v))) && (c.methods.all (fun m => Pn.methG Wd.nameB rtT ((c.params.length : Nat) : Int) m))))) ?_
  unfold Pn.classG
  first
    | rfl
    | (simp only [Bool.false_xor]; done)
    | (simp only [Bool.false_xor, Bool.not_true, Bool.not_false]; done)
    | (simp [Bool.false_xor]; done)
end Go.Proofs.YtjghgpmkepfdhaaGreatDoor
namespace Go.Proofs.YtjghgpmkepfdhaaGreatDoor
open Go.RowKit
set_option linter.unusedVariables false
set_option linter.unusedSimpArgs false
set_option maxRecDepth 100000
set_option maxHeartbeats 4000000
set_option maxRecDepth 100000 in
set_option maxHeartbeats 4000000 in
theorem tellVarsY (Y : Ys) (h : Nat) (l : List Pn.Vr) (ha : Pn.At Y h (Pn.tyV l)) (hl : h = 0 ∨ Y.ans (h - 1) = true) : YCalls Tryz.prog 44 [(.ls none (List.map Pn.encVr l)), (.fn (.yield Y.l) [] [])] Y (h) (.sc (.bool (ran Y.ans h l.length).2)) (ran Y.ans h l.length).1 := by
  refine ycalls_fine fun hfa => ?_
  have hF1 := hfa 0 _ rfl
  have hF1l := hF1.lenm
  refine ycalls_wp mixed Tryz.func44 rfl ⟨mk 19 [(0, (.ls none (List.map Pn.encVr l))), (1, (.fn (.yield Y.l) [] []))], [], ⟨h, some Y⟩⟩ (by rw [Tryz.ntmps44]; kernel_rfl) ?_
  refine Wp.sr [] ?_
  refine Wp.seq ?_
  refine Wp.sr [.n (lenm Pn.encVr l)] ?_
  refine Wp.block ?_
  refine Wp.lp (α := (Nat)) (fun | j => ⟨mk 19 [(0, (.ls none (List.map Pn.encVr l))), (1, (.fn (.yield Y.l) [] [])), (7, (.ls none (List.map Pn.encVr l))), (8, (.sc (.int .i64 ((l.length : Nat) : Int)))), (9, (.sc (.int .i64 ((j : Nat) : Int))))], [], ⟨h + (j), some Y⟩⟩) (fun | j => j ≤ l.length ∧ ran Y.ans h j = (h + j, true)) (fun | j => l.length - j) 0 ?_ ?_
  · exact ⟨Nat.zero_le _, rfl⟩
  rintro j hv2
  obtain ⟨hlj, htj⟩ := hv2
  refine Wp.sr [] ?_
  refine Wp.seq ?_
  refine Wp.cd (decide ((((j : Nat) : Int) : Int) < ((l.length : Nat) : Int))) (fun h3 => ?_) (fun h3 => ?_)
  · have h3 := of_decide_eq_true h3
    refine Wp.skip ?_
    refine Wp.seq ?_
    refine Wp.block ?_
    obtain ⟨x6, hx5⟩ : ∃ z0, (l)[j]? = some z0 := ⟨_, List.getElem?_eq_getElem (by omega)⟩
    refine Wp.sr [.i (map_get Pn.encVr hx5)] ?_
    refine Wp.srY [3] [.yy (Y := Y) (h := h + (j)) (row := [(.ag [(.sc (.int .i64 x6.type.kind)), (.sc (.string x6.type.cls)), (.sc (.int .i64 x6.type.n)), (.sc (.int .i64 x6.type.o0.kind)), (.sc (.int .i64 x6.type.o0.n)), (.sc (.int .i64 x6.type.o1.kind)), (.sc (.int .i64 x6.type.o1.n)), (.sc (.int .i64 x6.type.o2.kind)), (.sc (.int .i64 x6.type.o2.n)), (.sc (.int .i64 x6.type.o3.kind)), (.sc (.int .i64 x6.type.o3.n))])]) (ran_live hl htj) (ha j _ (by rw [Pn.tyV, List.getElem?_map, hx5]; rfl))] ?_
    refine Wp.cd (!(Y.ans (h + (j)))) (fun h8 => ?_) (fun h8 => ?_)
    · have h8 : ¬ ((Y.ans (h + (j))) = true) := by simpa using h8
      refine Wp.sr [] ?_
      refine Wp.ret ?_
      refine ⟨rfl, ?_⟩
      refine ⟨rfl, ?_⟩
      refine ⟨rfl, ?_⟩
      refine ⟨.inl rfl, ?_, ?_⟩
      · refine .rf (.sc (.bool false)) ?_
        rw [ran_stop htj (by simpa using h8) (by omega)]
        all_goals first | rfl | (simp [h8]; done) | omega
      · have hh : (ran Y.ans h l.length).1 = h + (j + 1) := by
          rw [ran_stop htj (by simpa using h8) (by omega)]
          all_goals first | rfl | (simp [h8]; done) | omega
        exact y_end hh (by kernel_rfl)
    · have h8 : ((Y.ans (h + (j))) = true) := by simpa using h8
      refine Wp.skip ?_
      refine Wp.rg [.z (int_add (x := ((j : Nat) : Int)) (y := 1) (z := (((j + 1) : Nat) : Int)) (by omega) (by omega) (by omega))] ?_
      refine ⟨(j + 1), .rf, ?_, ?_⟩
      · exact ⟨Pn.len_lt hx5, (ran_next htj h8)⟩
      · simp only; omega
  · have h3 := of_decide_eq_false h3
    refine Wp.exit ?_
    refine ⟨rfl, ?_⟩
    refine ⟨rfl, ?_⟩
    refine Wp.sr [] ?_
    refine Wp.ret ?_
    refine ⟨.inl rfl, ?_, ?_⟩
    · refine .rf (.sc (.bool true)) ?_
      have e : l.length = j := by omega
      rw [e, htj]
    · have hh : (ran Y.ans h l.length).1 = h + (j) := by
        have e : l.length = j := by omega
        rw [e, htj]
      exact y_end hh (by kernel_rfl)

set_option maxRecDepth 100000 in
set_option maxHeartbeats 4000000 in
theorem tellStmtsY_step (Y : Ys) (h : Nat) (l : List Pn.Sm) (ha : Pn.At Y h (Pn.tyL l)) (hl : h = 0 ∨ Y.ans (h - 1) = true) (IH : ∀ x ∈ l, ∀ k, (k = x.body ∨ k = x.els) → ∀ q, Pn.At Y q (Pn.tyL k) → (q = 0 ∨ Y.ans (q - 1) = true) → YCalls Tryz.prog 45 [(.ls none (List.map Pn.encS k)), (.fn (.yield Y.l) [] [])] Y (q) (.sc (.bool (ran Y.ans (q) (Pn.tyL k).length).2)) (ran Y.ans (q) (Pn.tyL k).length).1) : YCalls Tryz.prog 45 [(.ls none (List.map Pn.encS l)), (.fn (.yield Y.l) [] [])] Y (h) (.sc (.bool (ran Y.ans (h) (Pn.tyL l).length).2)) (ran Y.ans (h) (Pn.tyL l).length).1 := by
  refine ycalls_fine fun hfa => ?_
  have hF1 := hfa 0 _ rfl
  have hF1l := hF1.lenm
  refine ycalls_wp mixed Tryz.func45 rfl ⟨mk 33 [(0, (.ls none (List.map Pn.encS l))), (1, (.fn (.yield Y.l) [] []))], [], ⟨h, some Y⟩⟩ (by rw [Tryz.ntmps45]; kernel_rfl) ?_
  refine Wp.sr [] ?_
  refine Wp.seq ?_
  refine Wp.sr [.n (lenm Pn.encS l)] ?_
  refine Wp.block ?_
  refine Wp.lp (α := (Nat)) (fun | j => ⟨mk 33 [(0, (.ls none (List.map Pn.encS l))), (1, (.fn (.yield Y.l) [] [])), (7, (.ls none (List.map Pn.encS l))), (8, (.sc (.int .i64 ((l.length : Nat) : Int)))), (9, (.sc (.int .i64 ((j : Nat) : Int))))], [], ⟨h + ((Pn.tyL (l.take j)).length), some Y⟩⟩) (fun | j => j ≤ l.length ∧ ran Y.ans h ((Pn.tyL (l.take j)).length) = (h + ((Pn.tyL (l.take j)).length), true)) (fun | j => l.length - j) 0 ?_ ?_
  · exact ⟨Nat.zero_le _, by rw [List.take_zero, Pn.tyL]; rfl⟩
  rintro j hv2
  obtain ⟨hlj, htj⟩ := hv2
  refine Wp.sr [] ?_
  refine Wp.seq ?_
  refine Wp.cd (decide ((((j : Nat) : Int) : Int) < ((l.length : Nat) : Int))) (fun h3 => ?_) (fun h3 => ?_)
  · have h3 := of_decide_eq_true h3
    refine Wp.skip ?_
    refine Wp.seq ?_
    refine Wp.block ?_
    obtain ⟨x6, hx5⟩ : ∃ z0, (l)[j]? = some z0 := ⟨_, List.getElem?_eq_getElem (by omega)⟩
    have hR8 : Fine (.ag (Pn.cS x6)) := hF1.row hx5 (Pn.encS_eq x6)
    have hF9 : Fine (.ls none (List.map Pn.encX x6.e.kids)) := hR8.at 18 rfl
    have hF9l := hF9.lenm
    have hF10 : Fine (.ls none (List.map Pn.encX x6.args)) := hR8.at 19 rfl
    have hF10l := hF10.lenm
    have hF11 : Fine (.ls none (List.map Pn.encS x6.body)) := hR8.at 20 rfl
    have hF11l := hF11.lenm
    have hF12 : Fine (.ls none (List.map Pn.encS x6.els)) := hR8.at 21 rfl
    have hF12l := hF12.lenm
    have x6_e := Pn.ty_split Pn.tyL_app (fun _ _ => by rw [Pn.tyL]) hx5
    have x6_a : Pn.At Y (h + (Pn.tyL (l.take j)).length) (x6.type :: (Pn.tyL x6.body ++ Pn.tyL x6.els)) := by rw [← Pn.tyS_eq]; exact ((ha.eq rfl x6_e).right rfl).left
    have x6_n : (Pn.tyS x6).length = 1 + (Pn.tyL x6.body).length + (Pn.tyL x6.els).length := by rw [Pn.tyS_eq]; simp; omega
    have x6_l := congrArg List.length x6_e
    simp only [List.length_append] at x6_l
    have x6_m := Pn.len_lt hx5
    refine Wp.sr [.i (Pn.map_to hx5 (Pn.encS_eq x6))] ?_
    by_cases h13 : (Y.ans (h + ((Pn.tyL (l.take j)).length))) = true
    · skip
      by_cases h14 : (ran Y.ans (h + ((Pn.tyL (l.take j)).length + 1)) ((Pn.tyL x6.body).length)).2 = true
      · skip
        by_cases h15 : (ran Y.ans (h + ((Pn.tyL (l.take j)).length + 1 + (Pn.tyL x6.body).length)) ((Pn.tyL x6.els).length)).2 = true
        · skip
          refine Wp.srY [3, 9, 16] [.yy (Y := Y) (h := h + ((Pn.tyL (l.take j)).length)) (row := [(.ag [(.sc (.int .i64 x6.type.kind)), (.sc (.string x6.type.cls)), (.sc (.int .i64 x6.type.n)), (.sc (.int .i64 x6.type.o0.kind)), (.sc (.int .i64 x6.type.o0.n)), (.sc (.int .i64 x6.type.o1.kind)), (.sc (.int .i64 x6.type.o1.n)), (.sc (.int .i64 x6.type.o2.kind)), (.sc (.int .i64 x6.type.o2.n)), (.sc (.int .i64 x6.type.o3.kind)), (.sc (.int .i64 x6.type.o3.n))])]) (ran_live hl htj) x6_a.head, .g (show (!(Y.ans (h + ((Pn.tyL (l.take j)).length)))) = false from (by rw [h13]; rfl)), .yc (F := 45) (args := [(.ls none (List.map Pn.encS x6.body)), (.fn (.yield Y.l) [] [])]) (Y := Y) (h := h + ((Pn.tyL (l.take j)).length + 1)) (r := (.sc (.bool (ran Y.ans (h + ((Pn.tyL (l.take j)).length + 1)) ((Pn.tyL x6.body).length)).2))) (h' := h + ((Pn.tyL (l.take j)).length + 1 + (Pn.tyL x6.body).length)) (YCalls.to (IH x6 (List.mem_of_getElem? hx5) x6.body (.inl rfl) (h + ((Pn.tyL (l.take j)).length + 1)) (x6_a.tail rfl).left (.inr h13)) h14 (by omega)), .g (show (!(ran Y.ans (h + ((Pn.tyL (l.take j)).length + 1)) ((Pn.tyL x6.body).length)).2) = false from (by rw [h14]; rfl)), .yc (F := 45) (args := [(.ls none (List.map Pn.encS x6.els)), (.fn (.yield Y.l) [] [])]) (Y := Y) (h := h + ((Pn.tyL (l.take j)).length + 1 + (Pn.tyL x6.body).length)) (r := (.sc (.bool (ran Y.ans (h + ((Pn.tyL (l.take j)).length + 1 + (Pn.tyL x6.body).length)) ((Pn.tyL x6.els).length)).2))) (h' := h + ((Pn.tyL (l.take j)).length + 1 + (Pn.tyL x6.body).length + (Pn.tyL x6.els).length)) (YCalls.to (IH x6 (List.mem_of_getElem? hx5) x6.els (.inr rfl) (h + ((Pn.tyL (l.take j)).length + 1 + (Pn.tyL x6.body).length)) ((x6_a.tail rfl).right (by omega)) (Pn.ran_live2 (.inr h13) h14 (by omega))) h15 (by omega))] ?_
          refine Wp.cf (B := (!(ran Y.ans (h + ((Pn.tyL (l.take j)).length + 1 + (Pn.tyL x6.body).length)) ((Pn.tyL x6.els).length)).2)) (by rw [h15]; rfl) ?_
          refine Wp.skip ?_
          refine Wp.rg [.z (int_add (x := ((j : Nat) : Int)) (y := 1) (z := (((j + 1) : Nat) : Int)) (by omega) (by omega) (by omega))] ?_
          refine ⟨(j + 1), ⟨by kernel_rfl, by kernel_rfl, yy_end (show h + ((Pn.tyL (l.take j)).length + 1 + (Pn.tyL x6.body).length + (Pn.tyL x6.els).length) = h + ((Pn.tyL (l.take (j + 1))).length) by rw [Pn.ty_next (by rw [Pn.tyL]) Pn.tyL_app (fun _ _ => by rw [Pn.tyL]) hx5, x6_n]; omega) (by kernel_rfl)⟩, ?_, ?_⟩
          · exact ⟨Pn.len_lt hx5, by rw [show (Pn.tyL (l.take (j + 1))).length = (Pn.tyL (l.take j)).length + 1 + (Pn.tyL x6.body).length + (Pn.tyL x6.els).length by rw [Pn.ty_next (by rw [Pn.tyL]) Pn.tyL_app (fun _ _ => by rw [Pn.tyL]) hx5, x6_n]; omega]; exact (Pn.ran_app2 (Pn.ran_app2 (ran_next htj h13) h14) h15)⟩
          · simp only; omega
        · skip
          refine Wp.srY [3, 9, 16] [.yy (Y := Y) (h := h + ((Pn.tyL (l.take j)).length)) (row := [(.ag [(.sc (.int .i64 x6.type.kind)), (.sc (.string x6.type.cls)), (.sc (.int .i64 x6.type.n)), (.sc (.int .i64 x6.type.o0.kind)), (.sc (.int .i64 x6.type.o0.n)), (.sc (.int .i64 x6.type.o1.kind)), (.sc (.int .i64 x6.type.o1.n)), (.sc (.int .i64 x6.type.o2.kind)), (.sc (.int .i64 x6.type.o2.n)), (.sc (.int .i64 x6.type.o3.kind)), (.sc (.int .i64 x6.type.o3.n))])]) (ran_live hl htj) x6_a.head, .g (show (!(Y.ans (h + ((Pn.tyL (l.take j)).length)))) = false from (by rw [h13]; rfl)), .yc (F := 45) (args := [(.ls none (List.map Pn.encS x6.body)), (.fn (.yield Y.l) [] [])]) (Y := Y) (h := h + ((Pn.tyL (l.take j)).length + 1)) (r := (.sc (.bool (ran Y.ans (h + ((Pn.tyL (l.take j)).length + 1)) ((Pn.tyL x6.body).length)).2))) (h' := h + ((Pn.tyL (l.take j)).length + 1 + (Pn.tyL x6.body).length)) (YCalls.to (IH x6 (List.mem_of_getElem? hx5) x6.body (.inl rfl) (h + ((Pn.tyL (l.take j)).length + 1)) (x6_a.tail rfl).left (.inr h13)) h14 (by omega)), .g (show (!(ran Y.ans (h + ((Pn.tyL (l.take j)).length + 1)) ((Pn.tyL x6.body).length)).2) = false from (by rw [h14]; rfl)), .yc (F := 45) (args := [(.ls none (List.map Pn.encS x6.els)), (.fn (.yield Y.l) [] [])]) (Y := Y) (h := h + ((Pn.tyL (l.take j)).length + 1 + (Pn.tyL x6.body).length)) (r := (.sc (.bool (ran Y.ans (h + ((Pn.tyL (l.take j)).length + 1 + (Pn.tyL x6.body).length)) ((Pn.tyL x6.els).length)).2))) (h' := (ran Y.ans (h + ((Pn.tyL (l.take j)).length + 1 + (Pn.tyL x6.body).length)) ((Pn.tyL x6.els).length)).1) (IH x6 (List.mem_of_getElem? hx5) x6.els (.inr rfl) (h + ((Pn.tyL (l.take j)).length + 1 + (Pn.tyL x6.body).length)) ((x6_a.tail rfl).right (by omega)) (Pn.ran_live2 (.inr h13) h14 (by omega)))] ?_
          refine Wp.ct (B := (!(ran Y.ans (h + ((Pn.tyL (l.take j)).length + 1 + (Pn.tyL x6.body).length)) ((Pn.tyL x6.els).length)).2)) (by rw [(eq_false_of_ne_true h15)]; rfl) ?_
          refine Wp.sr [] ?_
          refine Wp.ret ?_
          refine ⟨rfl, ?_⟩
          refine ⟨rfl, ?_⟩
          refine ⟨rfl, ?_⟩
          refine ⟨.inl rfl, ?_, ?_⟩
          · refine .rf (.sc (.bool false)) ?_
            rw [Pn.ran_fail (Pn.ran_app2 (ran_next htj h13) h14) (by simpa using h15) (by omega)]
            all_goals first | rfl | (simp [h15]; done) | omega
          · have hh : (ran Y.ans (h) (Pn.tyL l).length).1 = (ran Y.ans (h + ((Pn.tyL (l.take j)).length + 1 + (Pn.tyL x6.body).length)) ((Pn.tyL x6.els).length)).1 := by
              rw [Pn.ran_fail (Pn.ran_app2 (ran_next htj h13) h14) (by simpa using h15) (by omega)]
              all_goals first | rfl | (simp [h15]; done) | omega
            exact y_end hh (by kernel_rfl)
      · skip
        refine Wp.srY [3, 9] [.yy (Y := Y) (h := h + ((Pn.tyL (l.take j)).length)) (row := [(.ag [(.sc (.int .i64 x6.type.kind)), (.sc (.string x6.type.cls)), (.sc (.int .i64 x6.type.n)), (.sc (.int .i64 x6.type.o0.kind)), (.sc (.int .i64 x6.type.o0.n)), (.sc (.int .i64 x6.type.o1.kind)), (.sc (.int .i64 x6.type.o1.n)), (.sc (.int .i64 x6.type.o2.kind)), (.sc (.int .i64 x6.type.o2.n)), (.sc (.int .i64 x6.type.o3.kind)), (.sc (.int .i64 x6.type.o3.n))])]) (ran_live hl htj) x6_a.head, .g (show (!(Y.ans (h + ((Pn.tyL (l.take j)).length)))) = false from (by rw [h13]; rfl)), .yc (F := 45) (args := [(.ls none (List.map Pn.encS x6.body)), (.fn (.yield Y.l) [] [])]) (Y := Y) (h := h + ((Pn.tyL (l.take j)).length + 1)) (r := (.sc (.bool (ran Y.ans (h + ((Pn.tyL (l.take j)).length + 1)) ((Pn.tyL x6.body).length)).2))) (h' := (ran Y.ans (h + ((Pn.tyL (l.take j)).length + 1)) ((Pn.tyL x6.body).length)).1) (IH x6 (List.mem_of_getElem? hx5) x6.body (.inl rfl) (h + ((Pn.tyL (l.take j)).length + 1)) (x6_a.tail rfl).left (.inr h13)), .g (show (!(ran Y.ans (h + ((Pn.tyL (l.take j)).length + 1)) ((Pn.tyL x6.body).length)).2) = true from (by rw [(eq_false_of_ne_true h14)]; rfl))] ?_
        refine Wp.ct (B := true) rfl ?_
        refine Wp.sr [] ?_
        refine Wp.ret ?_
        refine ⟨rfl, ?_⟩
        refine ⟨rfl, ?_⟩
        refine ⟨rfl, ?_⟩
        refine ⟨.inl rfl, ?_, ?_⟩
        · refine .rf (.sc (.bool false)) ?_
          rw [Pn.ran_fail (ran_next htj h13) (by simpa using h14) (by omega)]
          all_goals first | rfl | (simp [h14]; done) | omega
        · have hh : (ran Y.ans (h) (Pn.tyL l).length).1 = (ran Y.ans (h + ((Pn.tyL (l.take j)).length + 1)) ((Pn.tyL x6.body).length)).1 := by
            rw [Pn.ran_fail (ran_next htj h13) (by simpa using h14) (by omega)]
            all_goals first | rfl | (simp [h14]; done) | omega
          exact y_end hh (by kernel_rfl)
    · skip
      refine Wp.srY [3] [.yy (Y := Y) (h := h + ((Pn.tyL (l.take j)).length)) (row := [(.ag [(.sc (.int .i64 x6.type.kind)), (.sc (.string x6.type.cls)), (.sc (.int .i64 x6.type.n)), (.sc (.int .i64 x6.type.o0.kind)), (.sc (.int .i64 x6.type.o0.n)), (.sc (.int .i64 x6.type.o1.kind)), (.sc (.int .i64 x6.type.o1.n)), (.sc (.int .i64 x6.type.o2.kind)), (.sc (.int .i64 x6.type.o2.n)), (.sc (.int .i64 x6.type.o3.kind)), (.sc (.int .i64 x6.type.o3.n))])]) (ran_live hl htj) x6_a.head, .g (show (!(Y.ans (h + ((Pn.tyL (l.take j)).length)))) = true from (by rw [(eq_false_of_ne_true h13)]; rfl)), .g gT] ?_
      refine Wp.ct (B := true) rfl ?_
      refine Wp.sr [] ?_
      refine Wp.ret ?_
      refine ⟨rfl, ?_⟩
      refine ⟨rfl, ?_⟩
      refine ⟨rfl, ?_⟩
      refine ⟨.inl rfl, ?_, ?_⟩
      · refine .rf (.sc (.bool false)) ?_
        rw [ran_stop htj (by simpa using h13) (by omega)]
        all_goals first | rfl | (simp [h13]; done) | omega
      · have hh : (ran Y.ans (h) (Pn.tyL l).length).1 = h + ((Pn.tyL (l.take j)).length + 1) := by
          rw [ran_stop htj (by simpa using h13) (by omega)]
          all_goals first | rfl | (simp [h13]; done) | omega
        exact y_end hh (by kernel_rfl)
  · have h3 := of_decide_eq_false h3
    refine Wp.exit ?_
    refine ⟨rfl, ?_⟩
    refine ⟨rfl, ?_⟩
    refine Wp.sr [] ?_
    refine Wp.ret ?_
    refine ⟨.inl rfl, ?_, ?_⟩
    · refine .rf (.sc (.bool true)) ?_
      have e : l.take j = l := List.take_of_length_le (by omega)
      rw [e] at htj
      rw [htj]
      all_goals first | rfl | rw [e]
    · have hh : (ran Y.ans (h) (Pn.tyL l).length).1 = h + ((Pn.tyL (l.take j)).length) := by
        have e : l.take j = l := List.take_of_length_le (by omega)
        rw [e] at htj
        rw [htj]
        all_goals first | rfl | rw [e]
      exact y_end hh (by kernel_rfl)

theorem tellStmtsY (Y : Ys) (l : List Pn.Sm) (h : Nat) (ha : Pn.At Y h (Pn.tyL l)) (hl : h = 0 ∨ Y.ans (h - 1) = true) : YCalls Tryz.prog 45 [(.ls none (List.map Pn.encS l)), (.fn (.yield Y.l) [] [])] Y (h) (.sc (.bool (ran Y.ans (h) (Pn.tyL l).length).2)) (ran Y.ans (h) (Pn.tyL l).length).1 := by
  have key : ∀ n (l : List Pn.Sm), Pn.cntSs l ≤ n → ∀ h, Pn.At Y h (Pn.tyL l) → (h = 0 ∨ Y.ans (h - 1) = true) → YCalls Tryz.prog 45 [(.ls none (List.map Pn.encS l)), (.fn (.yield Y.l) [] [])] Y (h) (.sc (.bool (ran Y.ans (h) (Pn.tyL l).length).2)) (ran Y.ans (h) (Pn.tyL l).length).1 := by
    intro n
    induction n with
    | zero =>
      intro l hn h ha hl
      refine tellStmtsY_step Y h l ha hl fun x hx => ?_
      have h1 := Pn.cntS_in hx
      rw [Pn.cntS_eq] at h1
      omega
    | succ n ih =>
      intro l hn h ha hl
      refine tellStmtsY_step Y h l ha hl fun x hx k hk q hq hq2 => ih k ?_ q hq hq2
      have h1 := Pn.cntS_in hx
      rw [Pn.cntS_eq] at h1
      rcases hk with rfl | rfl <;> omega
  exact key _ l (Nat.le_refl _) h ha hl
end Go.Proofs.YtjghgpmkepfdhaaGreatDoor
namespace Go.Proofs.YtjghgpmkepfdhaaGreatDoor
open Go.RowKit
set_option linter.unusedVariables false
set_option linter.unusedSimpArgs false
set_option maxRecDepth 100000
set_option maxHeartbeats 4000000
set_option maxRecDepth 100000 in
set_option maxHeartbeats 4000000 in
theorem typesY (Y : Ys) (p : List Pn.Cl) (ha : Pn.At Y 0 (Pn.tyP p)) : YCalls Tryz.prog 43 [(.fn (.yield Y.l) [] []), (.pr [(.ls none (List.map Pn.encCl p))])] Y (0) (.tp []) (ran Y.ans 0 (Pn.tyP p).length).1 := by
  refine ycalls_fine fun hfa => ?_
  have hR1 := hfa 1 _ rfl
  have hF2 : Fine (.ls none (List.map Pn.encCl p)) := hR1.atp 0 rfl
  have hF2l := hF2.lenm
  refine ycalls_wp mixed Tryz.func43 rfl ⟨mk 53 [(0, (.fn (.yield Y.l) [] [])), (1, (.pr [(.ls none (List.map Pn.encCl p))]))], [], ⟨0, some Y⟩⟩ (by rw [Tryz.ntmps43]; kernel_rfl) ?_
  refine Wp.sr [.n (lenm Pn.encCl p)] ?_
  refine Wp.block ?_
  refine Wp.lp (α := (Nat)) (fun | j => ⟨mk 53 [(0, (.fn (.yield Y.l) [] [])), (1, (.pr [(.ls none (List.map Pn.encCl p))])), (7, (.ls none (List.map Pn.encCl p))), (8, (.sc (.int .i64 ((p.length : Nat) : Int)))), (9, (.sc (.int .i64 ((j : Nat) : Int))))], [], ⟨0 + ((Pn.tyP (p.take j)).length), some Y⟩⟩) (fun | j => j ≤ p.length ∧ ran Y.ans 0 ((Pn.tyP (p.take j)).length) = (0 + ((Pn.tyP (p.take j)).length), true)) (fun | j => p.length - j) 0 ?_ ?_
  · exact ⟨Nat.zero_le _, by rw [List.take_zero, Pn.tyP]; rfl⟩
  rintro j hv3
  obtain ⟨hlj, htj⟩ := hv3
  refine Wp.sr [] ?_
  refine Wp.seq ?_
  refine Wp.cd (decide ((((j : Nat) : Int) : Int) < ((p.length : Nat) : Int))) (fun h4 => ?_) (fun h4 => ?_)
  · have h4 := of_decide_eq_true h4
    refine Wp.skip ?_
    refine Wp.seq ?_
    refine Wp.block ?_
    obtain ⟨x7, hx6⟩ : ∃ z0, (p)[j]? = some z0 := ⟨_, List.getElem?_eq_getElem (by omega)⟩
    have hR9 : Fine (.ag (Pn.cCl x7)) := hF2.row hx6 rfl
    have hF10 : Fine (.ls none (List.map Pn.encStr x7.params)) := hR9.at 1 rfl
    have hF10l := hF10.lenm
    have hF11 : Fine (.ls none (List.map Pn.encOw x7.above)) := hR9.at 3 rfl
    have hF11l := hF11.lenm
    have hF12 : Fine (.ls none (List.map Pn.encVr x7.fields)) := hR9.at 4 rfl
    have hF12l := hF12.lenm
    have hF13 : Fine (.ls none (List.map Pn.encMe x7.methods)) := hR9.at 5 rfl
    have hF13l := hF13.lenm
    have x7_e := Pn.ty_split Pn.tyP_app (fun _ _ => by rw [Pn.tyP]) hx6
    have x7_a : Pn.At Y (0 + ((Pn.tyP (p.take j)).length)) (Pn.tyV x7.fields ++ Pn.tyMs x7.methods) := ((ha.eq rfl x7_e).right (by omega)).left
    have x7_n : (Pn.tyC x7).length = x7.fields.length + (Pn.tyMs x7.methods).length := by unfold Pn.tyC Pn.tyV; simp
    have x7_l := congrArg List.length x7_e
    simp only [List.length_append] at x7_l
    have x7_m := Pn.len_lt hx6
    refine Wp.sr [.i (map_get Pn.encCl hx6)] ?_
    refine Wp.seq ?_
    by_cases h14 : (ran Y.ans (0 + ((Pn.tyP (p.take j)).length)) (x7.fields.length)).2 = true
    · skip
      refine Wp.srY [3] [.yc (F := 44) (args := [(.ls none (List.map Pn.encVr x7.fields)), (.fn (.yield Y.l) [] [])]) (Y := Y) (h := 0 + ((Pn.tyP (p.take j)).length)) (r := (.sc (.bool (ran Y.ans (0 + ((Pn.tyP (p.take j)).length)) (x7.fields.length)).2))) (h' := 0 + ((Pn.tyP (p.take j)).length + x7.fields.length)) (YCalls.to (tellVarsY Y (0 + ((Pn.tyP (p.take j)).length)) x7.fields x7_a.left (ran_live (.inl rfl) htj)) h14 (by omega))] ?_
      refine Wp.cf (B := (!(ran Y.ans (0 + ((Pn.tyP (p.take j)).length)) (x7.fields.length)).2)) (by rw [h14]; rfl) ?_
      refine Wp.skip ?_
      refine Wp.sr [.n (lenm Pn.encMe x7.methods)] ?_
      refine Wp.block ?_
      refine Wp.lp (α := (Nat)) (fun | k => ⟨mk 53 [(0, (.fn (.yield Y.l) [] [])), (1, (.pr [(.ls none (List.map Pn.encCl p))])), (4, (.pr (Pn.cCl x7))), (7, (.ls none (List.map Pn.encCl p))), (8, (.sc (.int .i64 ((p.length : Nat) : Int)))), (9, (.sc (.int .i64 ((j : Nat) : Int)))), (10, (.sc (.bool (decide ((((j : Nat) : Int) : Int) < ((p.length : Nat) : Int)))))), (17, (.sc (.bool (!(ran Y.ans (0 + ((Pn.tyP (p.take j)).length)) (x7.fields.length)).2)))), (19, (.ls none (List.map Pn.encMe x7.methods))), (20, (.sc (.int .i64 ((x7.methods.length : Nat) : Int)))), (21, (.sc (.int .i64 ((k : Nat) : Int))))], [], ⟨0 + ((Pn.tyP (p.take j)).length + x7.fields.length + (Pn.tyMs (x7.methods.take k)).length), some Y⟩⟩) (fun | k => k ≤ x7.methods.length ∧ ran Y.ans 0 ((Pn.tyP (p.take j)).length + x7.fields.length + (Pn.tyMs (x7.methods.take k)).length) = (0 + ((Pn.tyP (p.take j)).length + x7.fields.length + (Pn.tyMs (x7.methods.take k)).length), true)) (fun | k => x7.methods.length - k) 0 ?_ ?_
      · refine ⟨Nat.zero_le _, ?_⟩
        rw [List.take_zero, Pn.tyMs]
        exact (Pn.ran_app2 htj h14)
      rintro k hv15
      obtain ⟨hlk, htk⟩ := hv15
      refine Wp.sr [] ?_
      refine Wp.seq ?_
      refine Wp.cd (decide ((((k : Nat) : Int) : Int) < ((x7.methods.length : Nat) : Int))) (fun h16 => ?_) (fun h16 => ?_)
      · have h16 := of_decide_eq_true h16
        refine Wp.skip ?_
        refine Wp.seq ?_
        refine Wp.block ?_
        obtain ⟨x19, hx18⟩ : ∃ z0, (x7.methods)[k]? = some z0 := ⟨_, List.getElem?_eq_getElem (by omega)⟩
        have hR21 : Fine (.ag (Pn.cMe x19)) := hF13.row hx18 rfl
        have hF22 : Fine (.ls none (List.map Pn.encVr x19.params)) := hR21.at 13 rfl
        have hF22l := hF22.lenm
        have hF23 : Fine (.ls none (List.map Pn.encVr x19.locals)) := hR21.at 14 rfl
        have hF23l := hF23.lenm
        have hF24 : Fine (.ls none (List.map Pn.encS x19.body)) := hR21.at 15 rfl
        have hF24l := hF24.lenm
        have x19_e := Pn.ty_split Pn.tyMs_app (fun _ _ => by rw [Pn.tyMs]) hx18
        have x19_a : Pn.At Y (0 + ((Pn.tyP (p.take j)).length + x7.fields.length + (Pn.tyMs (x7.methods.take k)).length)) (x19.ret :: (Pn.tyV x19.params ++ (Pn.tyV x19.locals ++ Pn.tyL x19.body))) := (((x7_a.right (k := 0 + ((Pn.tyP (p.take j)).length + x7.fields.length)) (by have := Pn.tyV_len x7.fields; omega)).eq rfl x19_e).right (by omega)).left
        have x19_n : (Pn.tyM x19).length = 1 + x19.params.length + x19.locals.length + (Pn.tyL x19.body).length := by unfold Pn.tyM Pn.tyV; simp; omega
        have x19_l := congrArg List.length x19_e
        simp only [List.length_append] at x19_l
        have x19_m := Pn.len_lt hx18
        refine Wp.sr [.i (map_get Pn.encMe hx18)] ?_
        by_cases h25 : (Y.ans (0 + ((Pn.tyP (p.take j)).length + x7.fields.length + (Pn.tyMs (x7.methods.take k)).length))) = true
        · skip
          by_cases h26 : (ran Y.ans (0 + ((Pn.tyP (p.take j)).length + x7.fields.length + (Pn.tyMs (x7.methods.take k)).length + 1)) (x19.params.length)).2 = true
          · skip
            by_cases h27 : (ran Y.ans (0 + ((Pn.tyP (p.take j)).length + x7.fields.length + (Pn.tyMs (x7.methods.take k)).length + 1 + x19.params.length)) (x19.locals.length)).2 = true
            · skip
              by_cases h28 : (ran Y.ans (0 + ((Pn.tyP (p.take j)).length + x7.fields.length + (Pn.tyMs (x7.methods.take k)).length + 1 + x19.params.length + x19.locals.length)) ((Pn.tyL x19.body).length)).2 = true
              · skip
                refine Wp.srY [3, 9, 16, 23] [.yy (Y := Y) (h := 0 + ((Pn.tyP (p.take j)).length + x7.fields.length + (Pn.tyMs (x7.methods.take k)).length)) (row := [(.ag [(.sc (.int .i64 x19.ret.kind)), (.sc (.string x19.ret.cls)), (.sc (.int .i64 x19.ret.n)), (.sc (.int .i64 x19.ret.o0.kind)), (.sc (.int .i64 x19.ret.o0.n)), (.sc (.int .i64 x19.ret.o1.kind)), (.sc (.int .i64 x19.ret.o1.n)), (.sc (.int .i64 x19.ret.o2.kind)), (.sc (.int .i64 x19.ret.o2.n)), (.sc (.int .i64 x19.ret.o3.kind)), (.sc (.int .i64 x19.ret.o3.n))])]) (ran_live (.inl rfl) htk) x19_a.head, .g (show (!(Y.ans (0 + ((Pn.tyP (p.take j)).length + x7.fields.length + (Pn.tyMs (x7.methods.take k)).length)))) = false from (by rw [h25]; rfl)), .yc (F := 44) (args := [(.ls none (List.map Pn.encVr x19.params)), (.fn (.yield Y.l) [] [])]) (Y := Y) (h := 0 + ((Pn.tyP (p.take j)).length + x7.fields.length + (Pn.tyMs (x7.methods.take k)).length + 1)) (r := (.sc (.bool (ran Y.ans (0 + ((Pn.tyP (p.take j)).length + x7.fields.length + (Pn.tyMs (x7.methods.take k)).length + 1)) (x19.params.length)).2))) (h' := 0 + ((Pn.tyP (p.take j)).length + x7.fields.length + (Pn.tyMs (x7.methods.take k)).length + 1 + x19.params.length)) (YCalls.to (tellVarsY Y (0 + ((Pn.tyP (p.take j)).length + x7.fields.length + (Pn.tyMs (x7.methods.take k)).length + 1)) x19.params (x19_a.tail rfl).left (.inr h25)) h26 (by omega)), .g (show (!(ran Y.ans (0 + ((Pn.tyP (p.take j)).length + x7.fields.length + (Pn.tyMs (x7.methods.take k)).length + 1)) (x19.params.length)).2) = false from (by rw [h26]; rfl)), .yc (F := 44) (args := [(.ls none (List.map Pn.encVr x19.locals)), (.fn (.yield Y.l) [] [])]) (Y := Y) (h := 0 + ((Pn.tyP (p.take j)).length + x7.fields.length + (Pn.tyMs (x7.methods.take k)).length + 1 + x19.params.length)) (r := (.sc (.bool (ran Y.ans (0 + ((Pn.tyP (p.take j)).length + x7.fields.length + (Pn.tyMs (x7.methods.take k)).length + 1 + x19.params.length)) (x19.locals.length)).2))) (h' := 0 + ((Pn.tyP (p.take j)).length + x7.fields.length + (Pn.tyMs (x7.methods.take k)).length + 1 + x19.params.length + x19.locals.length)) (YCalls.to (tellVarsY Y (0 + ((Pn.tyP (p.take j)).length + x7.fields.length + (Pn.tyMs (x7.methods.take k)).length + 1 + x19.params.length)) x19.locals ((x19_a.tail rfl).right (by have := Pn.tyV_len x19.params; omega)).left (Pn.ran_live2 (.inr h25) h26 (by omega))) h27 (by omega)), .g (show (!(ran Y.ans (0 + ((Pn.tyP (p.take j)).length + x7.fields.length + (Pn.tyMs (x7.methods.take k)).length + 1 + x19.params.length)) (x19.locals.length)).2) = false from (by rw [h27]; rfl)), .yc (F := 45) (args := [(.ls none (List.map Pn.encS x19.body)), (.fn (.yield Y.l) [] [])]) (Y := Y) (h := 0 + ((Pn.tyP (p.take j)).length + x7.fields.length + (Pn.tyMs (x7.methods.take k)).length + 1 + x19.params.length + x19.locals.length)) (r := (.sc (.bool (ran Y.ans (0 + ((Pn.tyP (p.take j)).length + x7.fields.length + (Pn.tyMs (x7.methods.take k)).length + 1 + x19.params.length + x19.locals.length)) ((Pn.tyL x19.body).length)).2))) (h' := 0 + ((Pn.tyP (p.take j)).length + x7.fields.length + (Pn.tyMs (x7.methods.take k)).length + 1 + x19.params.length + x19.locals.length + (Pn.tyL x19.body).length)) (YCalls.to (tellStmtsY Y x19.body (0 + ((Pn.tyP (p.take j)).length + x7.fields.length + (Pn.tyMs (x7.methods.take k)).length + 1 + x19.params.length + x19.locals.length)) (((x19_a.tail rfl).right rfl).right (by have := Pn.tyV_len x19.params; have := Pn.tyV_len x19.locals; omega)) (Pn.ran_live2 (Pn.ran_live2 (.inr h25) h26 (by omega)) h27 (by omega))) h28 (by omega))] ?_
                refine Wp.cf (B := (!(ran Y.ans (0 + ((Pn.tyP (p.take j)).length + x7.fields.length + (Pn.tyMs (x7.methods.take k)).length + 1 + x19.params.length + x19.locals.length)) ((Pn.tyL x19.body).length)).2)) (by rw [h28]; rfl) ?_
                refine Wp.skip ?_
                refine Wp.rg [.z (int_add (x := ((k : Nat) : Int)) (y := 1) (z := (((k + 1) : Nat) : Int)) (by omega) (by omega) (by omega))] ?_
                refine ⟨(k + 1), ⟨by kernel_rfl, by kernel_rfl, yy_end (show 0 + ((Pn.tyP (p.take j)).length + x7.fields.length + (Pn.tyMs (x7.methods.take k)).length + 1 + x19.params.length + x19.locals.length + (Pn.tyL x19.body).length) = 0 + ((Pn.tyP (p.take j)).length + x7.fields.length + (Pn.tyMs (x7.methods.take (k + 1))).length) by rw [show (Pn.tyP (p.take j)).length + x7.fields.length + (Pn.tyMs (x7.methods.take (k + 1))).length = (Pn.tyP (p.take j)).length + x7.fields.length + (Pn.tyMs (x7.methods.take k)).length + 1 + x19.params.length + x19.locals.length + (Pn.tyL x19.body).length from by rw [Pn.ty_next (by rw [Pn.tyMs]) Pn.tyMs_app (fun _ _ => by rw [Pn.tyMs]) hx18, x19_n]; omega]) (by kernel_rfl)⟩, ?_, ?_⟩
                · exact ⟨Pn.len_lt hx18, by rw [show (Pn.tyP (p.take j)).length + x7.fields.length + (Pn.tyMs (x7.methods.take (k + 1))).length = (Pn.tyP (p.take j)).length + x7.fields.length + (Pn.tyMs (x7.methods.take k)).length + 1 + x19.params.length + x19.locals.length + (Pn.tyL x19.body).length from by rw [Pn.ty_next (by rw [Pn.tyMs]) Pn.tyMs_app (fun _ _ => by rw [Pn.tyMs]) hx18, x19_n]; omega]; exact (Pn.ran_app2 (Pn.ran_app2 (Pn.ran_app2 (ran_next htk h25) h26) h27) h28)⟩
                · simp only; omega
              · skip
                refine Wp.srY [3, 9, 16, 23] [.yy (Y := Y) (h := 0 + ((Pn.tyP (p.take j)).length + x7.fields.length + (Pn.tyMs (x7.methods.take k)).length)) (row := [(.ag [(.sc (.int .i64 x19.ret.kind)), (.sc (.string x19.ret.cls)), (.sc (.int .i64 x19.ret.n)), (.sc (.int .i64 x19.ret.o0.kind)), (.sc (.int .i64 x19.ret.o0.n)), (.sc (.int .i64 x19.ret.o1.kind)), (.sc (.int .i64 x19.ret.o1.n)), (.sc (.int .i64 x19.ret.o2.kind)), (.sc (.int .i64 x19.ret.o2.n)), (.sc (.int .i64 x19.ret.o3.kind)), (.sc (.int .i64 x19.ret.o3.n))])]) (ran_live (.inl rfl) htk) x19_a.head, .g (show (!(Y.ans (0 + ((Pn.tyP (p.take j)).length + x7.fields.length + (Pn.tyMs (x7.methods.take k)).length)))) = false from (by rw [h25]; rfl)), .yc (F := 44) (args := [(.ls none (List.map Pn.encVr x19.params)), (.fn (.yield Y.l) [] [])]) (Y := Y) (h := 0 + ((Pn.tyP (p.take j)).length + x7.fields.length + (Pn.tyMs (x7.methods.take k)).length + 1)) (r := (.sc (.bool (ran Y.ans (0 + ((Pn.tyP (p.take j)).length + x7.fields.length + (Pn.tyMs (x7.methods.take k)).length + 1)) (x19.params.length)).2))) (h' := 0 + ((Pn.tyP (p.take j)).length + x7.fields.length + (Pn.tyMs (x7.methods.take k)).length + 1 + x19.params.length)) (YCalls.to (tellVarsY Y (0 + ((Pn.tyP (p.take j)).length + x7.fields.length + (Pn.tyMs (x7.methods.take k)).length + 1)) x19.params (x19_a.tail rfl).left (.inr h25)) h26 (by omega)), .g (show (!(ran Y.ans (0 + ((Pn.tyP (p.take j)).length + x7.fields.length + (Pn.tyMs (x7.methods.take k)).length + 1)) (x19.params.length)).2) = false from (by rw [h26]; rfl)), .yc (F := 44) (args := [(.ls none (List.map Pn.encVr x19.locals)), (.fn (.yield Y.l) [] [])]) (Y := Y) (h := 0 + ((Pn.tyP (p.take j)).length + x7.fields.length + (Pn.tyMs (x7.methods.take k)).length + 1 + x19.params.length)) (r := (.sc (.bool (ran Y.ans (0 + ((Pn.tyP (p.take j)).length + x7.fields.length + (Pn.tyMs (x7.methods.take k)).length + 1 + x19.params.length)) (x19.locals.length)).2))) (h' := 0 + ((Pn.tyP (p.take j)).length + x7.fields.length + (Pn.tyMs (x7.methods.take k)).length + 1 + x19.params.length + x19.locals.length)) (YCalls.to (tellVarsY Y (0 + ((Pn.tyP (p.take j)).length + x7.fields.length + (Pn.tyMs (x7.methods.take k)).length + 1 + x19.params.length)) x19.locals ((x19_a.tail rfl).right (by have := Pn.tyV_len x19.params; omega)).left (Pn.ran_live2 (.inr h25) h26 (by omega))) h27 (by omega)), .g (show (!(ran Y.ans (0 + ((Pn.tyP (p.take j)).length + x7.fields.length + (Pn.tyMs (x7.methods.take k)).length + 1 + x19.params.length)) (x19.locals.length)).2) = false from (by rw [h27]; rfl)), .yc (F := 45) (args := [(.ls none (List.map Pn.encS x19.body)), (.fn (.yield Y.l) [] [])]) (Y := Y) (h := 0 + ((Pn.tyP (p.take j)).length + x7.fields.length + (Pn.tyMs (x7.methods.take k)).length + 1 + x19.params.length + x19.locals.length)) (r := (.sc (.bool (ran Y.ans (0 + ((Pn.tyP (p.take j)).length + x7.fields.length + (Pn.tyMs (x7.methods.take k)).length + 1 + x19.params.length + x19.locals.length)) ((Pn.tyL x19.body).length)).2))) (h' := (ran Y.ans (0 + ((Pn.tyP (p.take j)).length + x7.fields.length + (Pn.tyMs (x7.methods.take k)).length + 1 + x19.params.length + x19.locals.length)) ((Pn.tyL x19.body).length)).1) (tellStmtsY Y x19.body (0 + ((Pn.tyP (p.take j)).length + x7.fields.length + (Pn.tyMs (x7.methods.take k)).length + 1 + x19.params.length + x19.locals.length)) (((x19_a.tail rfl).right rfl).right (by have := Pn.tyV_len x19.params; have := Pn.tyV_len x19.locals; omega)) (Pn.ran_live2 (Pn.ran_live2 (.inr h25) h26 (by omega)) h27 (by omega)))] ?_
                refine Wp.ct (B := (!(ran Y.ans (0 + ((Pn.tyP (p.take j)).length + x7.fields.length + (Pn.tyMs (x7.methods.take k)).length + 1 + x19.params.length + x19.locals.length)) ((Pn.tyL x19.body).length)).2)) (by rw [(eq_false_of_ne_true h28)]; rfl) ?_
                refine Wp.ret ?_
                refine ⟨rfl, ?_⟩
                refine ⟨rfl, ?_⟩
                refine ⟨rfl, ?_⟩
                refine ⟨rfl, ?_⟩
                refine ⟨.inl rfl, ?_, ?_⟩
                · exact res_none rfl
                · have hh : (ran Y.ans 0 (Pn.tyP p).length).1 = (ran Y.ans (0 + ((Pn.tyP (p.take j)).length + x7.fields.length + (Pn.tyMs (x7.methods.take k)).length + 1 + x19.params.length + x19.locals.length)) ((Pn.tyL x19.body).length)).1 := by
                    rw [Pn.ran_fail (Pn.ran_app2 (Pn.ran_app2 (ran_next htk h25) h26) h27) (by simpa using h28) (by omega)]
                    all_goals first | rfl | (simp [h28]; done) | omega
                  exact y_end hh (by kernel_rfl)
            · skip
              refine Wp.srY [3, 9, 16] [.yy (Y := Y) (h := 0 + ((Pn.tyP (p.take j)).length + x7.fields.length + (Pn.tyMs (x7.methods.take k)).length)) (row := [(.ag [(.sc (.int .i64 x19.ret.kind)), (.sc (.string x19.ret.cls)), (.sc (.int .i64 x19.ret.n)), (.sc (.int .i64 x19.ret.o0.kind)), (.sc (.int .i64 x19.ret.o0.n)), (.sc (.int .i64 x19.ret.o1.kind)), (.sc (.int .i64 x19.ret.o1.n)), (.sc (.int .i64 x19.ret.o2.kind)), (.sc (.int .i64 x19.ret.o2.n)), (.sc (.int .i64 x19.ret.o3.kind)), (.sc (.int .i64 x19.ret.o3.n))])]) (ran_live (.inl rfl) htk) x19_a.head, .g (show (!(Y.ans (0 + ((Pn.tyP (p.take j)).length + x7.fields.length + (Pn.tyMs (x7.methods.take k)).length)))) = false from (by rw [h25]; rfl)), .yc (F := 44) (args := [(.ls none (List.map Pn.encVr x19.params)), (.fn (.yield Y.l) [] [])]) (Y := Y) (h := 0 + ((Pn.tyP (p.take j)).length + x7.fields.length + (Pn.tyMs (x7.methods.take k)).length + 1)) (r := (.sc (.bool (ran Y.ans (0 + ((Pn.tyP (p.take j)).length + x7.fields.length + (Pn.tyMs (x7.methods.take k)).length + 1)) (x19.params.length)).2))) (h' := 0 + ((Pn.tyP (p.take j)).length + x7.fields.length + (Pn.tyMs (x7.methods.take k)).length + 1 + x19.params.length)) (YCalls.to (tellVarsY Y (0 + ((Pn.tyP (p.take j)).length + x7.fields.length + (Pn.tyMs (x7.methods.take k)).length + 1)) x19.params (x19_a.tail rfl).left (.inr h25)) h26 (by omega)), .g (show (!(ran Y.ans (0 + ((Pn.tyP (p.take j)).length + x7.fields.length + (Pn.tyMs (x7.methods.take k)).length + 1)) (x19.params.length)).2) = false from (by rw [h26]; rfl)), .yc (F := 44) (args := [(.ls none (List.map Pn.encVr x19.locals)), (.fn (.yield Y.l) [] [])]) (Y := Y) (h := 0 + ((Pn.tyP (p.take j)).length + x7.fields.length + (Pn.tyMs (x7.methods.take k)).length + 1 + x19.params.length)) (r := (.sc (.bool (ran Y.ans (0 + ((Pn.tyP (p.take j)).length + x7.fields.length + (Pn.tyMs (x7.methods.take k)).length + 1 + x19.params.length)) (x19.locals.length)).2))) (h' := (ran Y.ans (0 + ((Pn.tyP (p.take j)).length + x7.fields.length + (Pn.tyMs (x7.methods.take k)).length + 1 + x19.params.length)) (x19.locals.length)).1) (tellVarsY Y (0 + ((Pn.tyP (p.take j)).length + x7.fields.length + (Pn.tyMs (x7.methods.take k)).length + 1 + x19.params.length)) x19.locals ((x19_a.tail rfl).right (by have := Pn.tyV_len x19.params; omega)).left (Pn.ran_live2 (.inr h25) h26 (by omega))), .g (show (!(ran Y.ans (0 + ((Pn.tyP (p.take j)).length + x7.fields.length + (Pn.tyMs (x7.methods.take k)).length + 1 + x19.params.length)) (x19.locals.length)).2) = true from (by rw [(eq_false_of_ne_true h27)]; rfl))] ?_
              refine Wp.ct (B := true) rfl ?_
              refine Wp.ret ?_
              refine ⟨rfl, ?_⟩
              refine ⟨rfl, ?_⟩
              refine ⟨rfl, ?_⟩
              refine ⟨rfl, ?_⟩
              refine ⟨.inl rfl, ?_, ?_⟩
              · exact res_none rfl
              · have hh : (ran Y.ans 0 (Pn.tyP p).length).1 = (ran Y.ans (0 + ((Pn.tyP (p.take j)).length + x7.fields.length + (Pn.tyMs (x7.methods.take k)).length + 1 + x19.params.length)) (x19.locals.length)).1 := by
                  rw [Pn.ran_fail (Pn.ran_app2 (ran_next htk h25) h26) (by simpa using h27) (by omega)]
                  all_goals first | rfl | (simp [h27]; done) | omega
                exact y_end hh (by kernel_rfl)
          · skip
            refine Wp.srY [3, 9] [.yy (Y := Y) (h := 0 + ((Pn.tyP (p.take j)).length + x7.fields.length + (Pn.tyMs (x7.methods.take k)).length)) (row := [(.ag [(.sc (.int .i64 x19.ret.kind)), (.sc (.string x19.ret.cls)), (.sc (.int .i64 x19.ret.n)), (.sc (.int .i64 x19.ret.o0.kind)), (.sc (.int .i64 x19.ret.o0.n)), (.sc (.int .i64 x19.ret.o1.kind)), (.sc (.int .i64 x19.ret.o1.n)), (.sc (.int .i64 x19.ret.o2.kind)), (.sc (.int .i64 x19.ret.o2.n)), (.sc (.int .i64 x19.ret.o3.kind)), (.sc (.int .i64 x19.ret.o3.n))])]) (ran_live (.inl rfl) htk) x19_a.head, .g (show (!(Y.ans (0 + ((Pn.tyP (p.take j)).length + x7.fields.length + (Pn.tyMs (x7.methods.take k)).length)))) = false from (by rw [h25]; rfl)), .yc (F := 44) (args := [(.ls none (List.map Pn.encVr x19.params)), (.fn (.yield Y.l) [] [])]) (Y := Y) (h := 0 + ((Pn.tyP (p.take j)).length + x7.fields.length + (Pn.tyMs (x7.methods.take k)).length + 1)) (r := (.sc (.bool (ran Y.ans (0 + ((Pn.tyP (p.take j)).length + x7.fields.length + (Pn.tyMs (x7.methods.take k)).length + 1)) (x19.params.length)).2))) (h' := (ran Y.ans (0 + ((Pn.tyP (p.take j)).length + x7.fields.length + (Pn.tyMs (x7.methods.take k)).length + 1)) (x19.params.length)).1) (tellVarsY Y (0 + ((Pn.tyP (p.take j)).length + x7.fields.length + (Pn.tyMs (x7.methods.take k)).length + 1)) x19.params (x19_a.tail rfl).left (.inr h25)), .g (show (!(ran Y.ans (0 + ((Pn.tyP (p.take j)).length + x7.fields.length + (Pn.tyMs (x7.methods.take k)).length + 1)) (x19.params.length)).2) = true from (by rw [(eq_false_of_ne_true h26)]; rfl)), .g gT] ?_
            refine Wp.ct (B := true) rfl ?_
            refine Wp.ret ?_
            refine ⟨rfl, ?_⟩
            refine ⟨rfl, ?_⟩
            refine ⟨rfl, ?_⟩
            refine ⟨rfl, ?_⟩
            refine ⟨.inl rfl, ?_, ?_⟩
            · exact res_none rfl
            · have hh : (ran Y.ans 0 (Pn.tyP p).length).1 = (ran Y.ans (0 + ((Pn.tyP (p.take j)).length + x7.fields.length + (Pn.tyMs (x7.methods.take k)).length + 1)) (x19.params.length)).1 := by
                rw [Pn.ran_fail (ran_next htk h25) (by simpa using h26) (by omega)]
                all_goals first | rfl | (simp [h26]; done) | omega
              exact y_end hh (by kernel_rfl)
        · skip
          refine Wp.srY [3] [.yy (Y := Y) (h := 0 + ((Pn.tyP (p.take j)).length + x7.fields.length + (Pn.tyMs (x7.methods.take k)).length)) (row := [(.ag [(.sc (.int .i64 x19.ret.kind)), (.sc (.string x19.ret.cls)), (.sc (.int .i64 x19.ret.n)), (.sc (.int .i64 x19.ret.o0.kind)), (.sc (.int .i64 x19.ret.o0.n)), (.sc (.int .i64 x19.ret.o1.kind)), (.sc (.int .i64 x19.ret.o1.n)), (.sc (.int .i64 x19.ret.o2.kind)), (.sc (.int .i64 x19.ret.o2.n)), (.sc (.int .i64 x19.ret.o3.kind)), (.sc (.int .i64 x19.ret.o3.n))])]) (ran_live (.inl rfl) htk) x19_a.head, .g (show (!(Y.ans (0 + ((Pn.tyP (p.take j)).length + x7.fields.length + (Pn.tyMs (x7.methods.take k)).length)))) = true from (by rw [(eq_false_of_ne_true h25)]; rfl)), .g gT, .g gT] ?_
          refine Wp.ct (B := true) rfl ?_
          refine Wp.ret ?_
          refine ⟨rfl, ?_⟩
          refine ⟨rfl, ?_⟩
          refine ⟨rfl, ?_⟩
          refine ⟨rfl, ?_⟩
          refine ⟨.inl rfl, ?_, ?_⟩
          · exact res_none rfl
          · have hh : (ran Y.ans 0 (Pn.tyP p).length).1 = 0 + ((Pn.tyP (p.take j)).length + x7.fields.length + (Pn.tyMs (x7.methods.take k)).length + 1) := by
              rw [ran_stop htk (by simpa using h25) (by omega)]
              all_goals first | rfl | (simp [h25]; done) | omega
            exact y_end hh (by kernel_rfl)
      · have h16 := of_decide_eq_false h16
        refine Wp.exit ?_
        refine ⟨rfl, ?_⟩
        refine ⟨rfl, ?_⟩
        refine Wp.rg [.z (int_add (x := ((j : Nat) : Int)) (y := 1) (z := (((j + 1) : Nat) : Int)) (by omega) (by omega) (by omega))] ?_
        refine ⟨(j + 1), ⟨by kernel_rfl, by kernel_rfl, yy_end (show 0 + ((Pn.tyP (p.take j)).length + x7.fields.length + (Pn.tyMs (x7.methods.take k)).length) = 0 + ((Pn.tyP (p.take (j + 1))).length) by rw [Pn.ty_next (by rw [Pn.tyP]) Pn.tyP_app (fun _ _ => by rw [Pn.tyP]) hx6, x7_n, show x7.methods.take k = x7.methods from List.take_of_length_le (by omega)]; omega) (by kernel_rfl)⟩, ?_, ?_⟩
        · exact ⟨Pn.len_lt hx6, by rw [show (Pn.tyP (p.take (j + 1))).length = (Pn.tyP (p.take j)).length + x7.fields.length + (Pn.tyMs (x7.methods.take k)).length by rw [Pn.ty_next (by rw [Pn.tyP]) Pn.tyP_app (fun _ _ => by rw [Pn.tyP]) hx6, x7_n, show x7.methods.take k = x7.methods from List.take_of_length_le (by omega)]; omega]; exact htk⟩
        · simp only; omega
    · skip
      refine Wp.srY [3] [.yc (F := 44) (args := [(.ls none (List.map Pn.encVr x7.fields)), (.fn (.yield Y.l) [] [])]) (Y := Y) (h := 0 + ((Pn.tyP (p.take j)).length)) (r := (.sc (.bool (ran Y.ans (0 + ((Pn.tyP (p.take j)).length)) (x7.fields.length)).2))) (h' := (ran Y.ans (0 + ((Pn.tyP (p.take j)).length)) (x7.fields.length)).1) (tellVarsY Y (0 + ((Pn.tyP (p.take j)).length)) x7.fields x7_a.left (ran_live (.inl rfl) htj))] ?_
      refine Wp.ct (B := (!(ran Y.ans (0 + ((Pn.tyP (p.take j)).length)) (x7.fields.length)).2)) (by rw [(eq_false_of_ne_true h14)]; rfl) ?_
      refine Wp.ret ?_
      refine ⟨rfl, ?_⟩
      refine ⟨rfl, ?_⟩
      refine ⟨rfl, ?_⟩
      refine ⟨.inl rfl, ?_, ?_⟩
      · exact res_none rfl
      · have hh : (ran Y.ans 0 (Pn.tyP p).length).1 = (ran Y.ans (0 + ((Pn.tyP (p.take j)).length)) (x7.fields.length)).1 := by
          rw [Pn.ran_fail htj (by simpa using h14) (by omega)]
          all_goals first | rfl | (simp [h14]; done) | omega
        exact y_end hh (by kernel_rfl)
  · have h4 := of_decide_eq_false h4
    refine Wp.exit ?_
    refine ⟨rfl, ?_⟩
    refine ⟨rfl, ?_⟩
    refine ⟨.inr rfl, ?_, ?_⟩
    · exact res_none rfl
    · have hh : (ran Y.ans 0 (Pn.tyP p).length).1 = 0 + ((Pn.tyP (p.take j)).length) := by
        have e : p.take j = p := List.take_of_length_le (by omega)
        rw [e] at htj
        rw [htj]
        all_goals first | rfl | rw [e]
      exact y_end hh (by kernel_rfl)

theorem types10 (p : List Pn.Cl) : PCalls Tryz.prog 21 [(.ls none (List.map Pn.encCl p))] (.fn (.func 43) [] [(.pr [(.ls none (List.map Pn.encCl p))])]) := by
  refine pcalls_fine fun hfa => ?_
  have hF1 := hfa 0 _ rfl
  have hF1l := hF1.lenm
  refine pcalls_rf mixed Tryz.func21 rfl ?_
  refine Wp.sr [] ?_
  refine Wp.sr [] ?_
  refine Wp.ret ?_
  refine fin_r (.fn (.func 43) [] [(.pr [(.ls none (List.map Pn.encCl p))])]) ?_
  rfl
end Go.Proofs.YtjghgpmkepfdhaaGreatDoor
namespace Go.Proofs.YtjghgpmkepfdhaaGreatDoor
open Go.RowKit
set_option linter.unusedVariables false
set_option linter.unusedSimpArgs false
set_option maxRecDepth 100000
set_option maxHeartbeats 4000000
theorem size8p_step (x : Pn.Sm) (hb : Pn.cntS x ≤ 4611686018427387904) (IH : ∀ y, (y ∈ x.body ∨ y ∈ x.els) → PCalls Tryz.prog 42 [(.ag (Pn.cS y))] (.sc (.int .i64 ((Pn.cntS y : Nat) : Int)))) : PCalls Tryz.prog 42 [(.ag (Pn.cS x))] (.sc (.int .i64 ((Pn.cntS x : Nat) : Int))) := by
  have hbe := Pn.cntS_eq x
  refine pcalls_fine fun hfa => ?_
  have hR1 := hfa 0 _ rfl
  have hF2 : Fine (.ls none (List.map Pn.encX x.e.kids)) := hR1.at 18 rfl
  have hF2l := hF2.lenm
  have hF3 : Fine (.ls none (List.map Pn.encX x.args)) := hR1.at 19 rfl
  have hF3l := hF3.lenm
  have hF4 : Fine (.ls none (List.map Pn.encS x.body)) := hR1.at 20 rfl
  have hF4l := hF4.lenm
  have hF5 : Fine (.ls none (List.map Pn.encS x.els)) := hR1.at 21 rfl
  have hF5l := hF5.lenm
  refine pcalls_rf mixed Tryz.func42 rfl ?_
  refine Wp.sr [] ?_
  refine Wp.sr [] ?_
  refine Wp.seq ?_
  refine Wp.sr [] ?_
  refine Wp.block ?_
  refine Wp.unroll ?_
  refine Wp.sr [] ?_
  refine Wp.seq ?_
  refine Wp.ct (B := true) rfl ?_
  refine Wp.skip ?_
  refine Wp.seq ?_
  refine Wp.block ?_
  refine Wp.sr [] ?_
  refine Wp.sr [.n (lenm Pn.encS x.body)] ?_
  refine Wp.block ?_
  refine Wp.lp (α := (Nat) × (Nat)) (fun | ⟨j, n⟩ => ⟨mk 29 [(0, (.ag (Pn.cS x))), (1, (.pt 1 0)), (2, (.sc (.int .i64 0))), (3, (.sc (.int .i64 ((n : Nat) : Int)))), (5, (.ls none (List.map Pn.encS x.body))), (12, (.ag [(.ls none (List.map Pn.encS x.body)), (.ls none (List.map Pn.encS x.els))])), (13, (.sc (.int .i64 0))), (14, (.sc (.bool true))), (16, (.ls none (List.map Pn.encS x.body))), (17, (.sc (.int .i64 ((x.body.length : Nat) : Int)))), (18, (.sc (.int .i64 ((j : Nat) : Int))))], [(1, (Pn.cS x))], y0⟩) (fun | ⟨j, n⟩ => j ≤ x.body.length ∧ n = 1 + Pn.cntSs (x.body.take j)) (fun | ⟨j, n⟩ => x.body.length - j) (0, 1) ?_ ?_
  · refine ⟨Nat.zero_le _, ?_⟩
    simp only [List.take_zero, Pn.cntSs]
  rintro ⟨j, n⟩ hv6
  obtain ⟨hlj, hsj⟩ := hv6
  refine Wp.sr [] ?_
  refine Wp.seq ?_
  refine Wp.cd (decide ((((j : Nat) : Int) : Int) < ((x.body.length : Nat) : Int))) (fun h7 => ?_) (fun h7 => ?_)
  · have h7 := of_decide_eq_true h7
    refine Wp.skip ?_
    refine Wp.seq ?_
    refine Wp.block ?_
    obtain ⟨x10, hx9⟩ : ∃ z0, (x.body)[j]? = some z0 := ⟨_, List.getElem?_eq_getElem (by omega)⟩
    have hR12 : Fine (.ag (Pn.cS x10)) := hF4.row hx9 (Pn.encS_eq x10)
    have hF13 : Fine (.ls none (List.map Pn.encX x10.e.kids)) := hR12.at 18 rfl
    have hF13l := hF13.lenm
    have hF14 : Fine (.ls none (List.map Pn.encX x10.args)) := hR12.at 19 rfl
    have hF14l := hF14.lenm
    have hF15 : Fine (.ls none (List.map Pn.encS x10.body)) := hR12.at 20 rfl
    have hF15l := hF15.lenm
    have hF16 : Fine (.ls none (List.map Pn.encS x10.els)) := hR12.at 21 rfl
    have hF16l := hF16.lenm
    have x10_n := Pn.cntSs_next hx9
    have x10_l := Pn.sum_le Pn.cntSs_app (x.body) (j + 1)
    refine Wp.sr [.i (Pn.map_to hx9 (Pn.encS_eq x10))] ?_
    refine Wp.rg [.c (IH x10 (.inl (List.mem_of_getElem? hx9))), .z (int_add (x := ((n : Nat) : Int)) (y := (((Pn.cntS x10) : Nat) : Int)) (z := (((n + (Pn.cntS x10)) : Nat) : Int)) (by omega) (by omega) (by omega))] ?_
    refine Wp.rg [.z (int_add (x := ((j : Nat) : Int)) (y := 1) (z := (((j + 1) : Nat) : Int)) (by omega) (by omega) (by omega))] ?_
    refine ⟨((j + 1), (n + (Pn.cntS x10))), .rf, ?_, ?_⟩
    · exact ⟨Pn.len_lt hx9, by rw [Pn.cntSs_next hx9]; omega⟩
    · simp only; omega
  · have h7 := of_decide_eq_false h7
    refine Wp.exit ?_
    refine ⟨rfl, ?_⟩
    refine ⟨rfl, ?_⟩
    refine Wp.rg [.z (int_add (x := 0) (y := 1) (z := 1) (by omega) (by omega) (by omega))] ?_
    refine Wp.unroll ?_
    refine Wp.sr [] ?_
    refine Wp.seq ?_
    refine Wp.ct (B := true) rfl ?_
    refine Wp.skip ?_
    refine Wp.seq ?_
    refine Wp.block ?_
    refine Wp.sr [] ?_
    refine Wp.sr [.n (lenm Pn.encS x.els)] ?_
    refine Wp.block ?_
    refine Wp.lp (α := (Nat) × (Nat)) (fun | ⟨k, q⟩ => ⟨mk 29 [(0, (.ag (Pn.cS x))), (1, (.pt 1 0)), (2, (.sc (.int .i64 0))), (3, (.sc (.int .i64 ((q : Nat) : Int)))), (5, (.ls none (List.map Pn.encS x.els))), (12, (.ag [(.ls none (List.map Pn.encS x.body)), (.ls none (List.map Pn.encS x.els))])), (13, (.sc (.int .i64 1))), (14, (.sc (.bool true))), (16, (.ls none (List.map Pn.encS x.els))), (17, (.sc (.int .i64 ((x.els.length : Nat) : Int)))), (18, (.sc (.int .i64 ((k : Nat) : Int))))], [(1, (Pn.cS x))], y0⟩) (fun | ⟨k, q⟩ => k ≤ x.els.length ∧ q = 1 + Pn.cntSs x.body + Pn.cntSs (x.els.take k)) (fun | ⟨k, q⟩ => x.els.length - k) (0, n) ?_ ?_
    · refine ⟨Nat.zero_le _, ?_⟩
      simp only [List.take_zero, Pn.cntSs]
      have e2 : x.body.take j = x.body := List.take_of_length_le (by omega)
      rw [e2] at hsj
      omega
    rintro ⟨k, q⟩ hv17
    obtain ⟨hlk, hsk⟩ := hv17
    refine Wp.sr [] ?_
    refine Wp.seq ?_
    refine Wp.cd (decide ((((k : Nat) : Int) : Int) < ((x.els.length : Nat) : Int))) (fun h18 => ?_) (fun h18 => ?_)
    · have h18 := of_decide_eq_true h18
      refine Wp.skip ?_
      refine Wp.seq ?_
      refine Wp.block ?_
      obtain ⟨x21, hx20⟩ : ∃ z0, (x.els)[k]? = some z0 := ⟨_, List.getElem?_eq_getElem (by omega)⟩
      have hR23 : Fine (.ag (Pn.cS x21)) := hF5.row hx20 (Pn.encS_eq x21)
      have hF24 : Fine (.ls none (List.map Pn.encX x21.e.kids)) := hR23.at 18 rfl
      have hF24l := hF24.lenm
      have hF25 : Fine (.ls none (List.map Pn.encX x21.args)) := hR23.at 19 rfl
      have hF25l := hF25.lenm
      have hF26 : Fine (.ls none (List.map Pn.encS x21.body)) := hR23.at 20 rfl
      have hF26l := hF26.lenm
      have hF27 : Fine (.ls none (List.map Pn.encS x21.els)) := hR23.at 21 rfl
      have hF27l := hF27.lenm
      have x21_n := Pn.cntSs_next hx20
      have x21_l := Pn.sum_le Pn.cntSs_app (x.els) (k + 1)
      refine Wp.sr [.i (Pn.map_to hx20 (Pn.encS_eq x21))] ?_
      refine Wp.rg [.c (IH x21 (.inr (List.mem_of_getElem? hx20))), .z (int_add (x := ((q : Nat) : Int)) (y := (((Pn.cntS x21) : Nat) : Int)) (z := (((q + (Pn.cntS x21)) : Nat) : Int)) (by omega) (by omega) (by omega))] ?_
      refine Wp.rg [.z (int_add (x := ((k : Nat) : Int)) (y := 1) (z := (((k + 1) : Nat) : Int)) (by omega) (by omega) (by omega))] ?_
      refine ⟨((k + 1), (q + (Pn.cntS x21))), .rf, ?_, ?_⟩
      · exact ⟨Pn.len_lt hx20, by rw [Pn.cntSs_next hx20]; omega⟩
      · simp only; omega
    · have h18 := of_decide_eq_false h18
      refine Wp.exit ?_
      refine ⟨rfl, ?_⟩
      refine ⟨rfl, ?_⟩
      refine Wp.rg [.z (int_add (x := 1) (y := 1) (z := 2) (by omega) (by omega) (by omega))] ?_
      refine Wp.unroll ?_
      refine Wp.sr [] ?_
      refine Wp.seq ?_
      refine Wp.cf (B := false) rfl ?_
      refine Wp.exit ?_
      refine ⟨rfl, ?_⟩
      refine ⟨rfl, ?_⟩
      refine Wp.sr [] ?_
      refine Wp.ret ?_
      refine fin_r (.sc (.int .i64 ((q : Nat) : Int))) ?_
      rw [Pn.cntS_eq x]
      have e3 : x.els.take k = x.els := List.take_of_length_le (by omega)
      rw [e3] at hsk
      congr 3
      omega

theorem size8p (x : Pn.Sm) (hb : Pn.cntS x ≤ 4611686018427387904) : PCalls Tryz.prog 42 [(.ag (Pn.cS x))] (.sc (.int .i64 ((Pn.cntS x : Nat) : Int))) := by
  have key : ∀ n (x : Pn.Sm), Pn.cntS x ≤ n → n ≤ 4611686018427387904 → PCalls Tryz.prog 42 [(.ag (Pn.cS x))] (.sc (.int .i64 ((Pn.cntS x : Nat) : Int))) := by
    intro n
    induction n with
    | zero => intro x h _; rw [Pn.cntS_eq] at h; omega
    | succ n ih =>
      intro x h hn
      refine size8p_step x (by omega) fun y hy => ih y ?_ (by omega)
      rw [Pn.cntS_eq] at h
      rcases hy with hy | hy
      · have := Pn.cntS_in hy; omega
      · have := Pn.cntS_in hy; omega
  exact key _ x (Nat.le_refl _) hb

theorem sizeOf10 (l : List Pn.Sm) (hb : Pn.cntSs l ≤ 4611686018427387904) : PCalls Tryz.prog 19 [(.ls none (List.map Pn.encS l))] (.sc (.int .i64 ((Pn.cntSs l : Nat) : Int))) := by
  refine pcalls_fine fun hfa => ?_
  have hF1 := hfa 0 _ rfl
  have hF1l := hF1.lenm
  refine pcalls_rf mixed Tryz.func19 rfl ?_
  refine Wp.sr [] ?_
  refine Wp.sr [] ?_
  refine Wp.seq ?_
  refine Wp.sr [.n (lenm Pn.encS l)] ?_
  refine Wp.block ?_
  refine Wp.lp (α := (Nat) × (Nat)) (fun | ⟨j, n⟩ => ⟨mk 18 [(0, (.ls none (List.map Pn.encS l))), (2, (.sc (.int .i64 0))), (3, (.sc (.int .i64 ((n : Nat) : Int)))), (6, (.ls none (List.map Pn.encS l))), (7, (.sc (.int .i64 ((l.length : Nat) : Int)))), (8, (.sc (.int .i64 ((j : Nat) : Int))))], [], y0⟩) (fun | ⟨j, n⟩ => j ≤ l.length ∧ n = Pn.cntSs (l.take j)) (fun | ⟨j, n⟩ => l.length - j) (0, 0) ?_ ?_
  · exact ⟨Nat.zero_le _, by simp [Pn.cntSs]⟩
  rintro ⟨j, n⟩ hv2
  obtain ⟨hlj, hsj⟩ := hv2
  refine Wp.sr [] ?_
  refine Wp.seq ?_
  refine Wp.cd (decide ((((j : Nat) : Int) : Int) < ((l.length : Nat) : Int))) (fun h3 => ?_) (fun h3 => ?_)
  · have h3 := of_decide_eq_true h3
    refine Wp.skip ?_
    refine Wp.seq ?_
    refine Wp.block ?_
    obtain ⟨x6, hx5⟩ : ∃ z0, (l)[j]? = some z0 := ⟨_, List.getElem?_eq_getElem (by omega)⟩
    have hR8 : Fine (.ag (Pn.cS x6)) := hF1.row hx5 (Pn.encS_eq x6)
    have hF9 : Fine (.ls none (List.map Pn.encX x6.e.kids)) := hR8.at 18 rfl
    have hF9l := hF9.lenm
    have hF10 : Fine (.ls none (List.map Pn.encX x6.args)) := hR8.at 19 rfl
    have hF10l := hF10.lenm
    have hF11 : Fine (.ls none (List.map Pn.encS x6.body)) := hR8.at 20 rfl
    have hF11l := hF11.lenm
    have hF12 : Fine (.ls none (List.map Pn.encS x6.els)) := hR8.at 21 rfl
    have hF12l := hF12.lenm
    have x6_n := Pn.cntSs_next hx5
    have x6_l := Pn.sum_le Pn.cntSs_app (l) (j + 1)
    refine Wp.sr [.i (Pn.map_to hx5 (Pn.encS_eq x6))] ?_
    refine Wp.rg [.c (size8p x6 (by omega)), .z (int_add (x := ((n : Nat) : Int)) (y := (((Pn.cntS x6) : Nat) : Int)) (z := (((n + (Pn.cntS x6)) : Nat) : Int)) (by omega) (by omega) (by omega))] ?_
    refine Wp.rg [.z (int_add (x := ((j : Nat) : Int)) (y := 1) (z := (((j + 1) : Nat) : Int)) (by omega) (by omega) (by omega))] ?_
    refine ⟨((j + 1), (n + (Pn.cntS x6))), .rf, ?_, ?_⟩
    · exact ⟨Pn.len_lt hx5, by rw [Pn.cntSs_next hx5]; omega⟩
    · simp only; omega
  · have h3 := of_decide_eq_false h3
    refine Wp.exit ?_
    refine ⟨rfl, ?_⟩
    refine ⟨rfl, ?_⟩
    refine Wp.sr [] ?_
    refine Wp.ret ?_
    refine fin_r (.sc (.int .i64 ((n : Nat) : Int))) ?_
    have e : l.take j = l := List.take_of_length_le (by omega)
    rw [e] at hsj
    rw [hsj]

theorem deepOf_step (l : List Pn.Sm) (hb : Pn.cntSs l ≤ 4611686018427387904) (IH : ∀ x ∈ l, ∀ k, (k = x.body ∨ k = x.els) → PCalls Tryz.prog 20 [(.ls none (List.map Pn.encS k))] (.sc (.int .i64 ((Pn.deepSs k : Nat) : Int)))) : PCalls Tryz.prog 20 [(.ls none (List.map Pn.encS l))] (.sc (.int .i64 ((Pn.deepSs l : Nat) : Int))) := by
  refine pcalls_fine fun hfa => ?_
  have hF1 := hfa 0 _ rfl
  have hF1l := hF1.lenm
  refine pcalls_rf mixed Tryz.func20 rfl ?_
  refine Wp.sr [] ?_
  refine Wp.sr [] ?_
  refine Wp.seq ?_
  refine Wp.sr [.n (lenm Pn.encS l)] ?_
  refine Wp.block ?_
  refine Wp.lp (α := (Nat) × (Nat)) (fun | ⟨j, n⟩ => ⟨mk 24 [(0, (.ls none (List.map Pn.encS l))), (2, (.sc (.int .i64 0))), (3, (.sc (.int .i64 ((n : Nat) : Int)))), (6, (.ls none (List.map Pn.encS l))), (7, (.sc (.int .i64 ((l.length : Nat) : Int)))), (8, (.sc (.int .i64 ((j : Nat) : Int))))], [], y0⟩) (fun | ⟨j, n⟩ => j ≤ l.length ∧ n = Pn.deepSs (l.take j)) (fun | ⟨j, n⟩ => l.length - j) (0, 0) ?_ ?_
  · exact ⟨Nat.zero_le _, by simp [Pn.deepSs]⟩
  rintro ⟨j, n⟩ hv2
  obtain ⟨hlj, hsj⟩ := hv2
  refine Wp.sr [] ?_
  refine Wp.seq ?_
  refine Wp.cd (decide ((((j : Nat) : Int) : Int) < ((l.length : Nat) : Int))) (fun h3 => ?_) (fun h3 => ?_)
  · have h3 := of_decide_eq_true h3
    refine Wp.skip ?_
    refine Wp.seq ?_
    refine Wp.block ?_
    obtain ⟨x6, hx5⟩ : ∃ z0, (l)[j]? = some z0 := ⟨_, List.getElem?_eq_getElem (by omega)⟩
    have hR8 : Fine (.ag (Pn.cS x6)) := hF1.row hx5 (Pn.encS_eq x6)
    have hF9 : Fine (.ls none (List.map Pn.encX x6.e.kids)) := hR8.at 18 rfl
    have hF9l := hF9.lenm
    have hF10 : Fine (.ls none (List.map Pn.encX x6.args)) := hR8.at 19 rfl
    have hF10l := hF10.lenm
    have hF11 : Fine (.ls none (List.map Pn.encS x6.body)) := hR8.at 20 rfl
    have hF11l := hF11.lenm
    have hF12 : Fine (.ls none (List.map Pn.encS x6.els)) := hR8.at 21 rfl
    have hF12l := hF12.lenm
    have x6_n := Pn.cntSs_next hx5
    have x6_l := Pn.sum_le Pn.cntSs_app (l) (j + 1)
    have x6_b := Pn.deepSs_le x6.body
    have x6_c := Pn.deepSs_le x6.els
    have x6_e := Pn.cntS_eq x6
    have x6_d := Pn.deepSs_le (l.take j)
    have x6_q := Pn.sum_le Pn.cntSs_app (l) j
    refine Wp.sr [.i (Pn.map_to hx5 (Pn.encS_eq x6))] ?_
    refine Wp.rg [.c (IH x6 (List.mem_of_getElem? hx5) x6.body (.inl rfl)), .c (IH x6 (List.mem_of_getElem? hx5) x6.els (.inr rfl)), .m (show (if (((Pn.deepSs x6.els) : Nat) : Int) > (((Pn.deepSs x6.body) : Nat) : Int) then (((Pn.deepSs x6.els) : Nat) : Int) else (((Pn.deepSs x6.body) : Nat) : Int)) = (((max (Pn.deepSs x6.body) (Pn.deepSs x6.els)) : Nat) : Int) by split <;> omega), .z (int_add (x := 1) (y := (((max (Pn.deepSs x6.body) (Pn.deepSs x6.els)) : Nat) : Int)) (z := (((1 + (max (Pn.deepSs x6.body) (Pn.deepSs x6.els))) : Nat) : Int)) (by omega) (by omega) (by omega)), .m (show (if (((1 + (max (Pn.deepSs x6.body) (Pn.deepSs x6.els))) : Nat) : Int) > ((n : Nat) : Int) then (((1 + (max (Pn.deepSs x6.body) (Pn.deepSs x6.els))) : Nat) : Int) else ((n : Nat) : Int)) = (((max n (1 + (max (Pn.deepSs x6.body) (Pn.deepSs x6.els)))) : Nat) : Int) by split <;> omega)] ?_
    refine Wp.rg [.z (int_add (x := ((j : Nat) : Int)) (y := 1) (z := (((j + 1) : Nat) : Int)) (by omega) (by omega) (by omega))] ?_
    refine ⟨((j + 1), (max n (1 + (max (Pn.deepSs x6.body) (Pn.deepSs x6.els))))), .rf, ?_, ?_⟩
    · exact ⟨Pn.len_lt hx5, by rw [Pn.deepSs_next hx5, Pn.deepS_eq]; omega⟩
    · simp only; omega
  · have h3 := of_decide_eq_false h3
    refine Wp.exit ?_
    refine ⟨rfl, ?_⟩
    refine ⟨rfl, ?_⟩
    refine Wp.sr [] ?_
    refine Wp.ret ?_
    refine fin_r (.sc (.int .i64 ((n : Nat) : Int))) ?_
    have e : l.take j = l := List.take_of_length_le (by omega)
    rw [e] at hsj
    rw [hsj]

theorem deepOf10 (l : List Pn.Sm) (hb : Pn.cntSs l ≤ 4611686018427387904) : PCalls Tryz.prog 20 [(.ls none (List.map Pn.encS l))] (.sc (.int .i64 ((Pn.deepSs l : Nat) : Int))) := by
  have key : ∀ n (l : List Pn.Sm), Pn.cntSs l ≤ n → n ≤ 4611686018427387904 → PCalls Tryz.prog 20 [(.ls none (List.map Pn.encS l))] (.sc (.int .i64 ((Pn.deepSs l : Nat) : Int))) := by
    intro n
    induction n with
    | zero =>
      intro l h hn
      refine deepOf_step l (by omega) fun x hx => ?_
      have h1 := Pn.cntS_in hx
      rw [Pn.cntS_eq] at h1
      omega
    | succ n ih =>
      intro l h hn
      refine deepOf_step l (by omega) fun x hx k hk => ih k ?_ (by omega)
      have h1 := Pn.cntS_in hx
      rw [Pn.cntS_eq] at h1
      rcases hk with rfl | rfl <;> omega
  exact key _ l (Nat.le_refl _) hb
end Go.Proofs.YtjghgpmkepfdhaaGreatDoor
namespace Go.Proofs.YtjghgpmkepfdhaaGreatDoor
open Go.RowKit
set_option linter.unusedVariables false
set_option linter.unusedSimpArgs false
set_option maxRecDepth 100000
set_option maxHeartbeats 4000000
theorem PtXPai.en43 : ∀ vs w, (callFunc 43 vs).run Tryz.prog w = .ok (.enter 43 vs) w := fun vs w => run_enter Tryz.func43 (by kernel_rfl) rfl vs w
theorem of10p (p : List Pn.Cl) (hb : (Pn.tyP p).length ≤ 4611686018427387904) : PCalls Tryz.prog 8 [(.ls none (List.map Pn.encCl p))] (.ag [(.sc (.int .i64 ((p.length : Nat) : Int))), (.sc (.int .i64 (((Pn.fldP p) : Nat) : Int))), (.sc (.int .i64 (((Pn.mthP p) : Nat) : Int))), (.sc (.int .i64 (((Pn.vrP p) : Nat) : Int))), (.sc (.int .i64 (((Pn.cntPs p) : Nat) : Int))), (.sc (.int .i64 (((Pn.dpP p) : Nat) : Int))), (.sc (.int .i64 (((Pn.holesL (Pn.tyP p)) : Nat) : Int)))]) := by
  have hT := Pn.tyP_len p
  refine pcalls_fine fun hfa => ?_
  have hF1 := hfa 0 _ rfl
  have hF1l := hF1.lenm
  refine pcalls_rf mixed Tryz.func8 rfl ?_
  refine Wp.sr [] ?_
  refine Wp.sr [.n (lenm Pn.encCl p)] ?_
  refine Wp.seq ?_
  refine Wp.sr [.n (lenm Pn.encCl p)] ?_
  refine Wp.block ?_
  refine Wp.lp (α := (Nat) × (Nat) × (Nat) × (Nat) × (Nat) × (Nat)) (fun | ⟨j, f, m, v, s, d⟩ => ⟨mk 84 [(0, (.ls none (List.map Pn.encCl p))), (2, (.pt 2 0)), (3, (.pt 3 0)), (12, (.ls none (List.map Pn.encCl p))), (13, (.sc (.int .i64 ((p.length : Nat) : Int)))), (14, (.sc (.int .i64 ((j : Nat) : Int))))], [(2, [(.sc (.int .i64 0)), (.sc (.int .i64 0)), (.sc (.int .i64 0)), (.sc (.int .i64 0)), (.sc (.int .i64 0)), (.sc (.int .i64 0)), (.sc (.int .i64 0))]), (3, [(.sc (.int .i64 ((p.length : Nat) : Int))), (.sc (.int .i64 ((f : Nat) : Int))), (.sc (.int .i64 ((m : Nat) : Int))), (.sc (.int .i64 ((v : Nat) : Int))), (.sc (.int .i64 ((s : Nat) : Int))), (.sc (.int .i64 ((d : Nat) : Int))), (.sc (.int .i64 0))])], y0⟩) (fun | ⟨j, f, m, v, s, d⟩ => j ≤ p.length ∧ f = Pn.fldP (p.take j) ∧ m = Pn.mthP (p.take j) ∧ v = Pn.vrP (p.take j) ∧ s = Pn.cntPs (p.take j) ∧ d = Pn.dpP (p.take j)) (fun | ⟨j, f, m, v, s, d⟩ => p.length - j) (0, 0, 0, 0, 0, 0) ?_ ?_
  · exact ⟨Nat.zero_le _, by simp [Pn.fldP], by simp [Pn.mthP], by simp [Pn.vrP], by simp [Pn.cntPs], by simp [Pn.dpP]⟩
  rintro ⟨j, f, m, v, s, d⟩ hv2
  obtain ⟨hlj, hf, hm, hv, hs, hd⟩ := hv2
  have hT := Pn.tyP_len p
  refine Wp.sr [] ?_
  refine Wp.seq ?_
  refine Wp.cd (decide ((((j : Nat) : Int) : Int) < ((p.length : Nat) : Int))) (fun h3 => ?_) (fun h3 => ?_)
  · have h3 := of_decide_eq_true h3
    refine Wp.skip ?_
    refine Wp.seq ?_
    refine Wp.block ?_
    obtain ⟨x6, hx5⟩ : ∃ z0, (p)[j]? = some z0 := ⟨_, List.getElem?_eq_getElem (by omega)⟩
    have hR8 : Fine (.ag (Pn.cCl x6)) := hF1.row hx5 rfl
    have hF9 : Fine (.ls none (List.map Pn.encStr x6.params)) := hR8.at 1 rfl
    have hF9l := hF9.lenm
    have hF10 : Fine (.ls none (List.map Pn.encOw x6.above)) := hR8.at 3 rfl
    have hF10l := hF10.lenm
    have hF11 : Fine (.ls none (List.map Pn.encVr x6.fields)) := hR8.at 4 rfl
    have hF11l := hF11.lenm
    have hF12 : Fine (.ls none (List.map Pn.encMe x6.methods)) := hR8.at 5 rfl
    have hF12l := hF12.lenm
    have x6_fldP := Pn.fldP_next hx5
    have x6_mthP := Pn.mthP_next hx5
    have x6_vrP := Pn.vrP_next hx5
    have x6_cntPs := Pn.cntPs_next hx5
    have x6_dpP := Pn.dpP_next hx5
    have x6_lfldP := Pn.sum_le Pn.fldP_app p (j + 1)
    have x6_lmthP := Pn.sum_le Pn.mthP_app p (j + 1)
    have x6_lvrP := Pn.sum_le Pn.vrP_app p (j + 1)
    have x6_lcntPs := Pn.sum_le Pn.cntPs_app p (j + 1)
    have x6_q := Pn.dpP_le (p.take j)
    have x6_d := Pn.dpMs_le x6.methods
    refine Wp.sr [.i (map_get Pn.encCl hx5)] ?_
    refine Wp.sr [.n (lenm Pn.encVr x6.fields), .z (int_add (x := ((f : Nat) : Int)) (y := ((x6.fields.length : Nat) : Int)) (z := (((f + x6.fields.length) : Nat) : Int)) (by omega) (by omega) (by omega))] ?_
    refine Wp.sr [.n (lenm Pn.encMe x6.methods), .z (int_add (x := ((m : Nat) : Int)) (y := ((x6.methods.length : Nat) : Int)) (z := (((m + x6.methods.length) : Nat) : Int)) (by omega) (by omega) (by omega))] ?_
    refine Wp.sr [.n (lenm Pn.encMe x6.methods)] ?_
    refine Wp.block ?_
    refine Wp.lp (α := (Nat) × (Nat) × (Nat) × (Nat)) (fun | ⟨k, v2, s2, d2⟩ => ⟨mk 84 [(0, (.ls none (List.map Pn.encCl p))), (2, (.pt 2 0)), (3, (.pt 3 0)), (5, (.pt 5 0)), (12, (.ls none (List.map Pn.encCl p))), (13, (.sc (.int .i64 ((p.length : Nat) : Int)))), (14, (.sc (.int .i64 ((j : Nat) : Int)))), (15, (.sc (.bool (decide ((((j : Nat) : Int) : Int) < ((p.length : Nat) : Int)))))), (33, (.ls none (List.map Pn.encMe x6.methods))), (34, (.sc (.int .i64 ((x6.methods.length : Nat) : Int)))), (35, (.sc (.int .i64 ((k : Nat) : Int))))], [(2, [(.sc (.int .i64 0)), (.sc (.int .i64 0)), (.sc (.int .i64 0)), (.sc (.int .i64 0)), (.sc (.int .i64 0)), (.sc (.int .i64 0)), (.sc (.int .i64 0))]), (3, [(.sc (.int .i64 ((p.length : Nat) : Int))), (.sc (.int .i64 (((f + x6.fields.length) : Nat) : Int))), (.sc (.int .i64 (((m + x6.methods.length) : Nat) : Int))), (.sc (.int .i64 ((v2 : Nat) : Int))), (.sc (.int .i64 ((s2 : Nat) : Int))), (.sc (.int .i64 ((d2 : Nat) : Int))), (.sc (.int .i64 0))]), (5, (Pn.cCl x6))], y0⟩) (fun | ⟨k, v2, s2, d2⟩ => k ≤ x6.methods.length ∧ v2 = v + Pn.vrMs (x6.methods.take k) ∧ s2 = s + Pn.cntMs (x6.methods.take k) ∧ d2 = max d (Pn.dpMs (x6.methods.take k))) (fun | ⟨k, v2, s2, d2⟩ => x6.methods.length - k) (0, v, s, d) ?_ ?_
    · exact ⟨Nat.zero_le _, by simp [Pn.vrMs], by simp [Pn.cntMs], by simp [Pn.dpMs]⟩
    rintro ⟨k, v2, s2, d2⟩ hv13
    obtain ⟨hlk, hv2, hs2, hd2⟩ := hv13
    refine Wp.sr [] ?_
    refine Wp.seq ?_
    refine Wp.cd (decide ((((k : Nat) : Int) : Int) < ((x6.methods.length : Nat) : Int))) (fun h14 => ?_) (fun h14 => ?_)
    · have h14 := of_decide_eq_true h14
      refine Wp.skip ?_
      refine Wp.seq ?_
      refine Wp.block ?_
      obtain ⟨x17, hx16⟩ : ∃ z0, (x6.methods)[k]? = some z0 := ⟨_, List.getElem?_eq_getElem (by omega)⟩
      have hR19 : Fine (.ag (Pn.cMe x17)) := hF12.row hx16 rfl
      have hF20 : Fine (.ls none (List.map Pn.encVr x17.params)) := hR19.at 13 rfl
      have hF20l := hF20.lenm
      have hF21 : Fine (.ls none (List.map Pn.encVr x17.locals)) := hR19.at 14 rfl
      have hF21l := hF21.lenm
      have hF22 : Fine (.ls none (List.map Pn.encS x17.body)) := hR19.at 15 rfl
      have hF22l := hF22.lenm
      have x17_v := Pn.vrMs_next hx16
      have x17_s := Pn.cntMs_next hx16
      have x17_d := Pn.dpMs_next hx16
      have x17_lv := Pn.sum_le Pn.vrMs_app (x6.methods) (k + 1)
      have x17_ls := Pn.sum_le Pn.cntMs_app (x6.methods) (k + 1)
      have x17_b := Pn.deepSs_le x17.body
      have x17_e := Pn.dpMs_le ((x6.methods).take k)
      refine Wp.sr [.i (map_get Pn.encMe hx16)] ?_
      refine Wp.sr [.n (lenm Pn.encVr x17.params), .n (lenm Pn.encVr x17.locals), .z (int_add (x := ((x17.params.length : Nat) : Int)) (y := ((x17.locals.length : Nat) : Int)) (z := (((x17.params.length + x17.locals.length) : Nat) : Int)) (by omega) (by omega) (by omega)), .z (int_add (x := ((v2 : Nat) : Int)) (y := (((x17.params.length + x17.locals.length) : Nat) : Int)) (z := (((v2 + (x17.params.length + x17.locals.length)) : Nat) : Int)) (by omega) (by omega) (by omega))] ?_
      refine Wp.sr [.c (sizeOf10 x17.body (by omega)), .z (int_add (x := ((s2 : Nat) : Int)) (y := (((Pn.cntSs x17.body) : Nat) : Int)) (z := (((s2 + (Pn.cntSs x17.body)) : Nat) : Int)) (by omega) (by omega) (by omega))] ?_
      refine Wp.rg [.c (deepOf10 x17.body (by omega)), .m (show (if (((Pn.deepSs x17.body) : Nat) : Int) > ((d2 : Nat) : Int) then (((Pn.deepSs x17.body) : Nat) : Int) else ((d2 : Nat) : Int)) = (((max d2 (Pn.deepSs x17.body)) : Nat) : Int) by split <;> omega)] ?_
      refine Wp.rg [.z (int_add (x := ((k : Nat) : Int)) (y := 1) (z := (((k + 1) : Nat) : Int)) (by omega) (by omega) (by omega))] ?_
      refine ⟨((k + 1), (v2 + (x17.params.length + x17.locals.length)), (s2 + (Pn.cntSs x17.body)), (max d2 (Pn.deepSs x17.body))), .rf, ?_, ?_⟩
      · exact ⟨Pn.len_lt hx16, by omega, by omega, by omega⟩
      · simp only; omega
    · have h14 := of_decide_eq_false h14
      refine Wp.exit ?_
      refine ⟨rfl, ?_⟩
      refine ⟨rfl, ?_⟩
      refine Wp.rg [.z (int_add (x := ((j : Nat) : Int)) (y := 1) (z := (((j + 1) : Nat) : Int)) (by omega) (by omega) (by omega))] ?_
      refine ⟨((j + 1), (f + x6.fields.length), (m + x6.methods.length), v2, s2, d2), .rf, ?_, ?_⟩
      · have e2 : x6.methods.take k = x6.methods := List.take_of_length_le (by omega); rw [e2] at hv2 hs2 hd2; exact ⟨Pn.len_lt hx5, by omega, by omega, by omega, by omega, by omega⟩
      · simp only; omega
  · have h3 := of_decide_eq_false h3
    refine Wp.exit ?_
    refine ⟨rfl, ?_⟩
    refine ⟨rfl, ?_⟩
    refine Wp.seq ?_
    refine Wp.sr [.c (types10 p)] ?_
    refine Wp.block ?_
    refine Wp.range (st' := ⟨(mk 84 [(0, (.ls none (List.map Pn.encCl p))), (2, (.pt 10002 0)), (3, (.pt 10003 0)), (12, (.ls none (List.map Pn.encCl p))), (13, (.sc (.int .i64 ((p.length : Nat) : Int)))), (14, (.sc (.int .i64 ((j : Nat) : Int)))), (15, (.sc (.bool (decide ((((j : Nat) : Int) : Int) < ((p.length : Nat) : Int)))))), (67, (.fn (.func 43) [] [(.pr [(.ls none (List.map Pn.encCl p))])]))]), [(10002, [(.sc (.int .i64 0)), (.sc (.int .i64 0)), (.sc (.int .i64 0)), (.sc (.int .i64 0)), (.sc (.int .i64 0)), (.sc (.int .i64 0)), (.sc (.int .i64 0))]), (10003, [(.sc (.int .i64 ((p.length : Nat) : Int))), (.sc (.int .i64 ((f : Nat) : Int))), (.sc (.int .i64 ((m : Nat) : Int))), (.sc (.int .i64 ((v : Nat) : Int))), (.sc (.int .i64 ((s : Nat) : Int))), (.sc (.int .i64 ((d : Nat) : Int))), (.sc (.int .i64 (((Pn.holesL ((Pn.tyP p).take (Pn.tyP p).length)) : Nat) : Int)))])], y0⟩) mixed PtXPai.en43 (fs := []) (caps := [(.pr [(.ls none (List.map Pn.encCl p))])]) (by kernel_rfl) (by kernel_rfl) (fun _ => true) (Pn.tyI (Pn.tyP p)) (fun _ => none) (fun q23 => [(10002, [(.sc (.int .i64 0)), (.sc (.int .i64 0)), (.sc (.int .i64 0)), (.sc (.int .i64 0)), (.sc (.int .i64 0)), (.sc (.int .i64 0)), (.sc (.int .i64 0))]), (10003, [(.sc (.int .i64 ((p.length : Nat) : Int))), (.sc (.int .i64 ((f : Nat) : Int))), (.sc (.int .i64 ((m : Nat) : Int))), (.sc (.int .i64 ((v : Nat) : Int))), (.sc (.int .i64 ((s : Nat) : Int))), (.sc (.int .i64 ((d : Nat) : Int))), (.sc (.int .i64 (((Pn.holesL ((Pn.tyP p).take q23)) : Nat) : Int)))])]) (mk 84 [(0, (.ls none (List.map Pn.encCl p))), (2, (.pt 10002 0)), (3, (.pt 10003 0)), (12, (.ls none (List.map Pn.encCl p))), (13, (.sc (.int .i64 ((p.length : Nat) : Int)))), (14, (.sc (.int .i64 ((j : Nat) : Int)))), (15, (.sc (.bool (decide ((((j : Nat) : Int) : Int) < ((p.length : Nat) : Int)))))), (67, (.fn (.func 43) [] [(.pr [(.ls none (List.map Pn.encCl p))])]))]) (le_of [0, 2, 3, 12, 13, 14, 15, 67] [10002, 10003] (by kernel_rfl)) (noq_all (by kernel_rfl)) (fun q23 t row h => vget_ge (by kernel_rfl) h) (fun row h => Pn.tyI_len h) (.tp []) (Pn.tyP p).length (fun l => by have h := typesY ⟨l, (fun _ => true), (Pn.tyI (Pn.tyP p))⟩ p (Pn.tyI_at l _ _); rw [show (ran (Ys.ans ⟨l, (fun _ => true), (Pn.tyI (Pn.tyP p))⟩) 0 (Pn.tyP p).length) = ((Pn.tyP p).length, true) from Pn.ran_true _] at h; exact h) ?_ (by kernel_rfl) ?_
    · intro q24 row25 hr26 hl27
      obtain ⟨x28, hx29, rfl⟩ := Pn.tyI_out hr26
      have hh1 := Pn.len_lt hx29
      have hh2 := Pn.holesL_le ((Pn.tyP p).take q24)
      have hh3 : ((Pn.tyP p).take q24).length ≤ (Pn.tyP p).length := by rw [List.length_take]; omega
      refine Wp.weak (st' := ⟨mk 84 [(0, (.ls none (List.map Pn.encCl p))), (2, (.pt 10002 0)), (3, (.pt 10003 0)), (12, (.ls none (List.map Pn.encCl p))), (13, (.sc (.int .i64 ((p.length : Nat) : Int)))), (14, (.sc (.int .i64 ((j : Nat) : Int)))), (15, (.sc (.bool (decide ((((j : Nat) : Int) : Int) < ((p.length : Nat) : Int)))))), (67, (.fn (.func 43) [] [(.pr [(.ls none (List.map Pn.encCl p))])])), (68, (.ag (Pn.cTy x28)))], [(10002, [(.sc (.int .i64 0)), (.sc (.int .i64 0)), (.sc (.int .i64 0)), (.sc (.int .i64 0)), (.sc (.int .i64 0)), (.sc (.int .i64 0)), (.sc (.int .i64 0))]), (10003, [(.sc (.int .i64 ((p.length : Nat) : Int))), (.sc (.int .i64 ((f : Nat) : Int))), (.sc (.int .i64 ((m : Nat) : Int))), (.sc (.int .i64 ((v : Nat) : Int))), (.sc (.int .i64 ((s : Nat) : Int))), (.sc (.int .i64 ((d : Nat) : Int))), (.sc (.int .i64 (((Pn.holesL ((Pn.tyP p).take q24)) : Nat) : Int)))])], y0⟩) [0, 2, 3, 12, 13, 14, 15, 67, 68] [10002, 10003] (by kernel_rfl) ?_
      refine Wp.rg [] ?_
      refine ⟨rfl, ?_⟩
      refine Wp.block ?_
      by_cases h30 : (x28.kind : Int) = 2
      · skip
        refine Wp.sr [.g (show (decide ((x28.kind : Int) = 2)) = true from (by simp [h30]))] ?_
        refine Wp.cd (decide ((x28.o0.kind : Int) = 7)) (fun h31 => ?_) (fun h31 => ?_)
        · have h31 := of_decide_eq_true h31
          refine Wp.rg [.z (int_add (x := (((Pn.holesL ((Pn.tyP p).take q24)) : Nat) : Int)) (y := 1) (z := ((((Pn.holesL ((Pn.tyP p).take q24)) + 1) : Nat) : Int)) (by omega) (by omega) (by omega))] ?_
          refine ⟨?_, ?_⟩
          · (intro t r h; have h : vget [(10002, [(.sc (.int .i64 0)), (.sc (.int .i64 0)), (.sc (.int .i64 0)), (.sc (.int .i64 0)), (.sc (.int .i64 0)), (.sc (.int .i64 0)), (.sc (.int .i64 0))]), (10003, [(.sc (.int .i64 ((p.length : Nat) : Int))), (.sc (.int .i64 ((f : Nat) : Int))), (.sc (.int .i64 ((m : Nat) : Int))), (.sc (.int .i64 ((v : Nat) : Int))), (.sc (.int .i64 ((s : Nat) : Int))), (.sc (.int .i64 ((d : Nat) : Int))), (.sc (.int .i64 (((Pn.holesL ((Pn.tyP p).take (q24 + 1))) : Nat) : Int)))])] t = some r := h; rw [show (Pn.holesL ((Pn.tyP p).take (q24 + 1))) = ((Pn.holesL ((Pn.tyP p).take q24)) + 1) by (rw [Pn.holesL_next hx29, Pn.holeT]; simp [h3, h30, h31])] at h; exact vsub [10002, 10003] (by kernel_rfl) t r h)
          · exact .inl ⟨rfl, rfl⟩
        · have h31 := of_decide_eq_false h31
          refine Wp.skip ?_
          refine ⟨?_, ?_⟩
          · (intro t r h; have h : vget [(10002, [(.sc (.int .i64 0)), (.sc (.int .i64 0)), (.sc (.int .i64 0)), (.sc (.int .i64 0)), (.sc (.int .i64 0)), (.sc (.int .i64 0)), (.sc (.int .i64 0))]), (10003, [(.sc (.int .i64 ((p.length : Nat) : Int))), (.sc (.int .i64 ((f : Nat) : Int))), (.sc (.int .i64 ((m : Nat) : Int))), (.sc (.int .i64 ((v : Nat) : Int))), (.sc (.int .i64 ((s : Nat) : Int))), (.sc (.int .i64 ((d : Nat) : Int))), (.sc (.int .i64 (((Pn.holesL ((Pn.tyP p).take (q24 + 1))) : Nat) : Int)))])] t = some r := h; rw [show (Pn.holesL ((Pn.tyP p).take (q24 + 1))) = (Pn.holesL ((Pn.tyP p).take q24)) by (rw [Pn.holesL_next hx29, Pn.holeT]; simp [h3, h30, h31])] at h; exact vsub [10002, 10003] (by kernel_rfl) t r h)
          · exact .inl ⟨rfl, rfl⟩
      · skip
        refine Wp.sr [.g (show (decide ((x28.kind : Int) = 2)) = false from (by simp [h30]))] ?_
        refine Wp.cf (B := false) rfl ?_
        refine Wp.skip ?_
        refine ⟨?_, ?_⟩
        · (intro t r h; have h : vget [(10002, [(.sc (.int .i64 0)), (.sc (.int .i64 0)), (.sc (.int .i64 0)), (.sc (.int .i64 0)), (.sc (.int .i64 0)), (.sc (.int .i64 0)), (.sc (.int .i64 0))]), (10003, [(.sc (.int .i64 ((p.length : Nat) : Int))), (.sc (.int .i64 ((f : Nat) : Int))), (.sc (.int .i64 ((m : Nat) : Int))), (.sc (.int .i64 ((v : Nat) : Int))), (.sc (.int .i64 ((s : Nat) : Int))), (.sc (.int .i64 ((d : Nat) : Int))), (.sc (.int .i64 (((Pn.holesL ((Pn.tyP p).take (q24 + 1))) : Nat) : Int)))])] t = some r := h; rw [show (Pn.holesL ((Pn.tyP p).take (q24 + 1))) = (Pn.holesL ((Pn.tyP p).take q24)) by (rw [Pn.holesL_next hx29, Pn.holeT]; simp [h3, h30])] at h; exact vsub [10002, 10003] (by kernel_rfl) t r h)
        · exact .inl ⟨rfl, rfl⟩
    · by_cases hL32 : liveB (fun _ => true) ((Pn.tyP p).length) = true
      · rw [if_pos hL32]
        refine Wp.sr [] ?_
        refine Wp.ret ?_
        refine fin_r (.ag [(.sc (.int .i64 ((p.length : Nat) : Int))), (.sc (.int .i64 ((f : Nat) : Int))), (.sc (.int .i64 ((m : Nat) : Int))), (.sc (.int .i64 ((v : Nat) : Int))), (.sc (.int .i64 ((s : Nat) : Int))), (.sc (.int .i64 ((d : Nat) : Int))), (.sc (.int .i64 (((Pn.holesL ((Pn.tyP p).take (Pn.tyP p).length)) : Nat) : Int)))]) ?_
        have e2 : p.take j = p := List.take_of_length_le (by omega)
        rw [e2] at hf hm hv hs hd
        rw [List.take_length, hf, hm, hv, hs, hd]
      · exact absurd (by simp [liveB]) hL32
end Go.Proofs.YtjghgpmkepfdhaaGreatDoor
namespace Go.Proofs.YtjghgpmkepfdhaaGreatDoor
open Go.RowKit
set_option linter.unusedVariables false
set_option linter.unusedSimpArgs false
set_option maxRecDepth 100000
set_option maxHeartbeats 4000000
theorem over10 (n k : Nat) (m : Int) (hk : m = (k : Int)) (hn : n ≤ 9223372036854775807) (hm : k ≤ 1000) : PCalls Tryz.prog 55 [(.sc (.int .i64 ((n : Nat) : Int))), (.sc (.int .i64 m))] (.sc (.int .i64 (((n - k) : Nat) : Int))) := by
  refine pcalls_rf mixed Tryz.func55 rfl ?_
  refine Wp.sr [] ?_
  refine Wp.sr [.z (int_sub (x := ((n : Nat) : Int)) (y := m) (z := (((n : Nat) : Int) - m)) (by omega) (by omega) (by omega)), .m (show (if 0 > (((n : Nat) : Int) - m) then 0 else (((n : Nat) : Int) - m)) = (max (((n : Nat) : Int) - m) 0) by split <;> omega)] ?_
  refine Wp.ret ?_
  refine fin_r (.sc (.int .i64 (max (((n : Nat) : Int) - m) 0))) ?_
  rw [show (((n - k) : Nat) : Int) = (max (((n : Nat) : Int) - m) 0) by omega]

theorem tooMuch10 (p : List Pn.Cl) (hb : (Pn.tyP p).length ≤ 4611686018427387904) : PCalls Tryz.prog 29 [(.ls none (List.map Pn.encCl p))] (.ag [(.sc (.int .i64 (((p.length - 20) : Nat) : Int))), (.sc (.int .i64 (((Pn.fldO p) : Nat) : Int))), (.sc (.int .i64 (((Pn.mthO p) : Nat) : Int))), (.sc (.int .i64 (((Pn.vrO p) : Nat) : Int))), (.sc (.int .i64 ((((Pn.cntPs p) - 400) : Nat) : Int))), (.sc (.int .i64 0)), (.sc (.int .i64 0))]) := by
  have hT := Pn.tyP_len p
  have hO1 := Pn.fldO_le p
  have hO2 := Pn.mthO_le p
  have hO3 := Pn.vrO_le p
  refine pcalls_fine fun hfa => ?_
  have hF1 := hfa 0 _ rfl
  have hF1l := hF1.lenm
  refine pcalls_rf mixed Tryz.func29 rfl ?_
  refine Wp.sr [] ?_
  refine Wp.sr [.n (lenm Pn.encCl p), .c (over10 p.length 20 20 rfl (by omega) (by omega))] ?_
  refine Wp.seq ?_
  refine Wp.sr [.n (lenm Pn.encCl p)] ?_
  refine Wp.block ?_
  refine Wp.lp (α := (Nat) × (Nat) × (Nat) × (Nat)) (fun | ⟨j, f, m, v⟩ => ⟨mk 62 [(0, (.ls none (List.map Pn.encCl p))), (2, (.pt 2 0)), (3, (.pt 3 0)), (12, (.ls none (List.map Pn.encCl p))), (13, (.sc (.int .i64 ((p.length : Nat) : Int)))), (14, (.sc (.int .i64 ((j : Nat) : Int))))], [(2, [(.sc (.int .i64 0)), (.sc (.int .i64 0)), (.sc (.int .i64 0)), (.sc (.int .i64 0)), (.sc (.int .i64 0)), (.sc (.int .i64 0)), (.sc (.int .i64 0))]), (3, [(.sc (.int .i64 (((p.length - 20) : Nat) : Int))), (.sc (.int .i64 ((f : Nat) : Int))), (.sc (.int .i64 ((m : Nat) : Int))), (.sc (.int .i64 ((v : Nat) : Int))), (.sc (.int .i64 0)), (.sc (.int .i64 0)), (.sc (.int .i64 0))])], y0⟩) (fun | ⟨j, f, m, v⟩ => j ≤ p.length ∧ f = Pn.fldO (p.take j) ∧ m = Pn.mthO (p.take j) ∧ v = Pn.vrO (p.take j)) (fun | ⟨j, f, m, v⟩ => p.length - j) (0, 0, 0, 0) ?_ ?_
  · exact ⟨Nat.zero_le _, by simp [Pn.fldO], by simp [Pn.mthO], by simp [Pn.vrO]⟩
  rintro ⟨j, f, m, v⟩ hv2
  obtain ⟨hlj, hf, hm, hv⟩ := hv2
  have hT := Pn.tyP_len p
  have hO1 := Pn.fldO_le p
  have hO2 := Pn.mthO_le p
  have hO3 := Pn.vrO_le p
  refine Wp.sr [] ?_
  refine Wp.seq ?_
  refine Wp.cd (decide ((((j : Nat) : Int) : Int) < ((p.length : Nat) : Int))) (fun h3 => ?_) (fun h3 => ?_)
  · have h3 := of_decide_eq_true h3
    refine Wp.skip ?_
    refine Wp.seq ?_
    refine Wp.block ?_
    obtain ⟨x6, hx5⟩ : ∃ z0, (p)[j]? = some z0 := ⟨_, List.getElem?_eq_getElem (by omega)⟩
    have hR8 : Fine (.ag (Pn.cCl x6)) := hF1.row hx5 rfl
    have hF9 : Fine (.ls none (List.map Pn.encStr x6.params)) := hR8.at 1 rfl
    have hF9l := hF9.lenm
    have hF10 : Fine (.ls none (List.map Pn.encOw x6.above)) := hR8.at 3 rfl
    have hF10l := hF10.lenm
    have hF11 : Fine (.ls none (List.map Pn.encVr x6.fields)) := hR8.at 4 rfl
    have hF11l := hF11.lenm
    have hF12 : Fine (.ls none (List.map Pn.encMe x6.methods)) := hR8.at 5 rfl
    have hF12l := hF12.lenm
    have x6_fldO := Pn.fldO_next hx5
    have x6_mthO := Pn.mthO_next hx5
    have x6_vrO := Pn.vrO_next hx5
    have x6_lfldO := Pn.sum_le Pn.fldO_app p (j + 1)
    have x6_lmthO := Pn.sum_le Pn.mthO_app p (j + 1)
    have x6_lvrO := Pn.sum_le Pn.vrO_app p (j + 1)
    refine Wp.sr [.i (map_get Pn.encCl hx5)] ?_
    refine Wp.sr [.n (lenm Pn.encVr x6.fields), .c (over10 x6.fields.length 12 12 rfl (by omega) (by omega)), .z (int_add (x := ((f : Nat) : Int)) (y := (((x6.fields.length - 12) : Nat) : Int)) (z := (((f + (x6.fields.length - 12)) : Nat) : Int)) (by omega) (by omega) (by omega))] ?_
    refine Wp.sr [.n (lenm Pn.encMe x6.methods), .c (over10 x6.methods.length 12 12 rfl (by omega) (by omega)), .z (int_add (x := ((m : Nat) : Int)) (y := (((x6.methods.length - 12) : Nat) : Int)) (z := (((m + (x6.methods.length - 12)) : Nat) : Int)) (by omega) (by omega) (by omega))] ?_
    refine Wp.sr [.n (lenm Pn.encMe x6.methods)] ?_
    refine Wp.block ?_
    refine Wp.lp (α := (Nat) × (Nat)) (fun | ⟨k, v2⟩ => ⟨mk 62 [(0, (.ls none (List.map Pn.encCl p))), (2, (.pt 2 0)), (3, (.pt 3 0)), (5, (.pt 5 0)), (12, (.ls none (List.map Pn.encCl p))), (13, (.sc (.int .i64 ((p.length : Nat) : Int)))), (14, (.sc (.int .i64 ((j : Nat) : Int)))), (15, (.sc (.bool (decide ((((j : Nat) : Int) : Int) < ((p.length : Nat) : Int)))))), (35, (.ls none (List.map Pn.encMe x6.methods))), (36, (.sc (.int .i64 ((x6.methods.length : Nat) : Int)))), (37, (.sc (.int .i64 ((k : Nat) : Int))))], [(2, [(.sc (.int .i64 0)), (.sc (.int .i64 0)), (.sc (.int .i64 0)), (.sc (.int .i64 0)), (.sc (.int .i64 0)), (.sc (.int .i64 0)), (.sc (.int .i64 0))]), (3, [(.sc (.int .i64 (((p.length - 20) : Nat) : Int))), (.sc (.int .i64 (((f + (x6.fields.length - 12)) : Nat) : Int))), (.sc (.int .i64 (((m + (x6.methods.length - 12)) : Nat) : Int))), (.sc (.int .i64 ((v2 : Nat) : Int))), (.sc (.int .i64 0)), (.sc (.int .i64 0)), (.sc (.int .i64 0))]), (5, (Pn.cCl x6))], y0⟩) (fun | ⟨k, v2⟩ => k ≤ x6.methods.length ∧ v2 = v + Pn.vrMO (x6.methods.take k)) (fun | ⟨k, v2⟩ => x6.methods.length - k) (0, v) ?_ ?_
    · exact ⟨Nat.zero_le _, by simp [Pn.vrMO]⟩
    rintro ⟨k, v2⟩ hv13
    obtain ⟨hlk, hv2⟩ := hv13
    refine Wp.sr [] ?_
    refine Wp.seq ?_
    refine Wp.cd (decide ((((k : Nat) : Int) : Int) < ((x6.methods.length : Nat) : Int))) (fun h14 => ?_) (fun h14 => ?_)
    · have h14 := of_decide_eq_true h14
      refine Wp.skip ?_
      refine Wp.seq ?_
      refine Wp.block ?_
      obtain ⟨x17, hx16⟩ : ∃ z0, (x6.methods)[k]? = some z0 := ⟨_, List.getElem?_eq_getElem (by omega)⟩
      have hR19 : Fine (.ag (Pn.cMe x17)) := hF12.row hx16 rfl
      have hF20 : Fine (.ls none (List.map Pn.encVr x17.params)) := hR19.at 13 rfl
      have hF20l := hF20.lenm
      have hF21 : Fine (.ls none (List.map Pn.encVr x17.locals)) := hR19.at 14 rfl
      have hF21l := hF21.lenm
      have hF22 : Fine (.ls none (List.map Pn.encS x17.body)) := hR19.at 15 rfl
      have hF22l := hF22.lenm
      have x17_v := Pn.vrMO_next hx16
      have x17_lv := Pn.sum_le Pn.vrMO_app (x6.methods) (k + 1)
      refine Wp.sr [.i (map_get Pn.encMe hx16)] ?_
      refine Wp.rg [.n (lenm Pn.encVr x17.params), .c (over10 x17.params.length 5 5 rfl (by omega) (by omega)), .n (lenm Pn.encVr x17.locals), .c (over10 x17.locals.length 12 12 rfl (by omega) (by omega)), .z (int_add (x := (((x17.params.length - 5) : Nat) : Int)) (y := (((x17.locals.length - 12) : Nat) : Int)) (z := ((((x17.params.length - 5) + (x17.locals.length - 12)) : Nat) : Int)) (by omega) (by omega) (by omega)), .z (int_add (x := ((v2 : Nat) : Int)) (y := ((((x17.params.length - 5) + (x17.locals.length - 12)) : Nat) : Int)) (z := (((v2 + ((x17.params.length - 5) + (x17.locals.length - 12))) : Nat) : Int)) (by omega) (by omega) (by omega))] ?_
      refine Wp.rg [.z (int_add (x := ((k : Nat) : Int)) (y := 1) (z := (((k + 1) : Nat) : Int)) (by omega) (by omega) (by omega))] ?_
      refine ⟨((k + 1), (v2 + ((x17.params.length - 5) + (x17.locals.length - 12)))), .rf, ?_, ?_⟩
      · exact ⟨Pn.len_lt hx16, by omega⟩
      · simp only; omega
    · have h14 := of_decide_eq_false h14
      refine Wp.exit ?_
      refine ⟨rfl, ?_⟩
      refine ⟨rfl, ?_⟩
      refine Wp.rg [.z (int_add (x := ((j : Nat) : Int)) (y := 1) (z := (((j + 1) : Nat) : Int)) (by omega) (by omega) (by omega))] ?_
      refine ⟨((j + 1), (f + (x6.fields.length - 12)), (m + (x6.methods.length - 12)), v2), .rf, ?_, ?_⟩
      · have e2 : x6.methods.take k = x6.methods := List.take_of_length_le (by omega); rw [e2] at hv2; exact ⟨Pn.len_lt hx5, by omega, by omega, by omega⟩
      · simp only; omega
  · have h3 := of_decide_eq_false h3
    refine Wp.exit ?_
    refine ⟨rfl, ?_⟩
    refine ⟨rfl, ?_⟩
    refine Wp.sr [.c (of10p p (by omega)), .c (over10 (Pn.cntPs p) 400 400 rfl (by omega) (by omega))] ?_
    refine Wp.sr [] ?_
    refine Wp.ret ?_
    refine fin_r (.ag [(.sc (.int .i64 (((p.length - 20) : Nat) : Int))), (.sc (.int .i64 ((f : Nat) : Int))), (.sc (.int .i64 ((m : Nat) : Int))), (.sc (.int .i64 ((v : Nat) : Int))), (.sc (.int .i64 ((((Pn.cntPs p) - 400) : Nat) : Int))), (.sc (.int .i64 0)), (.sc (.int .i64 0))]) ?_
    have e2 : p.take j = p := List.take_of_length_le (by omega)
    rw [e2] at hf hm hv
    rw [hf, hm, hv]
end Go.Proofs.YtjghgpmkepfdhaaGreatDoor
namespace Go.Proofs.YtjghgpmkepfdhaaGreatDoor
open Go.RowKit
set_option linter.unusedVariables false
set_option linter.unusedSimpArgs false
set_option maxRecDepth 100000
set_option maxHeartbeats 4000000
theorem PtXPaj.en43 : ∀ vs w, (callFunc 43 vs).run Tryz.prog w = .ok (.enter 43 vs) w := fun vs w => run_enter Tryz.func43 (by kernel_rfl) rfl vs w
theorem opens10 (p : List Pn.Cl) : PCalls Tryz.prog 30 [(.ls none (List.map Pn.encCl p))] (.sc (.bool ((Pn.tyP p).all Pn.openT))) := by
  refine pcalls_fine fun hfa => ?_
  have hF1 := hfa 0 _ rfl
  have hF1l := hF1.lenm
  refine pcalls_rf mixed Tryz.func30 rfl ?_
  refine Wp.sr [] ?_
  refine Wp.seq ?_
  refine Wp.sr [.c (types10 p)] ?_
  refine Wp.block ?_
  refine Wp.range (st' := ⟨(mk 28 [(0, (.ls none (List.map Pn.encCl p))), (2, (.pt 10002 0)), (7, (.fn (.func 43) [] [(.pr [(.ls none (List.map Pn.encCl p))])]))]), [(10002, [(.sc (.bool false))])], y0⟩) mixed PtXPaj.en43 (fs := []) (caps := [(.pr [(.ls none (List.map Pn.encCl p))])]) (by kernel_rfl) (by kernel_rfl) (Pn.ans1 Pn.openT (Pn.tyP p)) (Pn.tyI (Pn.tyP p)) (fun _ => none) (fun q2 => [(10002, [(.sc (.bool false))])]) (mk 28 [(0, (.ls none (List.map Pn.encCl p))), (2, (.pt 10002 0)), (7, (.fn (.func 43) [] [(.pr [(.ls none (List.map Pn.encCl p))])]))]) (le_of [0, 2, 7] [10002] (by kernel_rfl)) (noq_all (by kernel_rfl)) (fun q2 t row h => vget_ge (by kernel_rfl) h) (fun row h => Pn.tyI_len h) (.tp []) (ran (Pn.ans1 Pn.openT (Pn.tyP p)) 0 (Pn.tyP p).length).1 (fun l => typesY ⟨l, (Pn.ans1 Pn.openT (Pn.tyP p)), (Pn.tyI (Pn.tyP p))⟩ p (Pn.tyI_at l _ _)) ?_ (by kernel_rfl) ?_
  · intro q3 row4 hr5 hl6
    obtain ⟨x7, hx8, rfl⟩ := Pn.tyI_out hr5
    refine Wp.weak (st' := ⟨mk 28 [(0, (.ls none (List.map Pn.encCl p))), (2, (.pt 10002 0)), (7, (.fn (.func 43) [] [(.pr [(.ls none (List.map Pn.encCl p))])])), (8, (.ag (Pn.cTy x7)))], [(10002, [(.sc (.bool false))])], y0⟩) [0, 2, 7, 8] [10002] (by kernel_rfl) ?_
    refine Wp.rg [] ?_
    refine ⟨rfl, ?_⟩
    refine Wp.block ?_
    refine Wp.sr [] ?_
    refine Wp.block ?_
    refine Wp.unroll ?_
    refine Wp.sr [] ?_
    refine Wp.seq ?_
    refine Wp.ct (B := true) rfl ?_
    refine Wp.skip ?_
    refine Wp.seq ?_
    refine Wp.block ?_
    refine Wp.sr [] ?_
    by_cases h9 : (x7.o0.kind : Int) = 7
    · skip
      refine Wp.sr [.g (show (decide ((x7.o0.kind : Int) = 7)) = true from (by simp [h9])), .g gF] ?_
      refine Wp.cd (!decide ((x7.o0.n : Int) = 0)) (fun h10 => ?_) (fun h10 => ?_)
      · have h10 : ¬ ((x7.o0.n : Int) = 0) := by simpa using h10
        refine Wp.sr [] ?_
        refine Wp.ret ?_
        refine ⟨rfl, ?_⟩
        refine ⟨rfl, ?_⟩
        refine ⟨?_, ?_⟩
        · exact vsub [10002] (by kernel_rfl)
        · exact .inr ⟨rfl, by rw [Pn.ans1_at hx8, Pn.openT]; simp [h9, h10]⟩
      · have h10 : ((x7.o0.n : Int) = 0) := by simpa using h10
        refine Wp.skip ?_
        refine Wp.rg [.z (int_add (x := 0) (y := 1) (z := 1) (by omega) (by omega) (by omega))] ?_
        refine Wp.unroll ?_
        refine Wp.sr [] ?_
        refine Wp.seq ?_
        refine Wp.ct (B := true) rfl ?_
        refine Wp.skip ?_
        refine Wp.seq ?_
        refine Wp.block ?_
        refine Wp.sr [] ?_
        by_cases h11 : (x7.o1.kind : Int) = 7
        · skip
          refine Wp.sr [.g (show (decide ((x7.o1.kind : Int) = 7)) = true from (by simp [h11])), .g gT] ?_
          refine Wp.ct (B := true) rfl ?_
          refine Wp.sr [] ?_
          refine Wp.ret ?_
          refine ⟨rfl, ?_⟩
          refine ⟨rfl, ?_⟩
          refine ⟨?_, ?_⟩
          · exact vsub [10002] (by kernel_rfl)
          · exact .inr ⟨rfl, by rw [Pn.ans1_at hx8, Pn.openT]; simp [h9, h10, h11]⟩
        · skip
          refine Wp.sr [.g (show (decide ((x7.o1.kind : Int) = 7)) = false from (by simp [h11]))] ?_
          refine Wp.cf (B := false) rfl ?_
          refine Wp.skip ?_
          refine Wp.rg [.z (int_add (x := 1) (y := 1) (z := 2) (by omega) (by omega) (by omega))] ?_
          refine Wp.unroll ?_
          refine Wp.sr [] ?_
          refine Wp.seq ?_
          refine Wp.ct (B := true) rfl ?_
          refine Wp.skip ?_
          refine Wp.seq ?_
          refine Wp.block ?_
          refine Wp.sr [] ?_
          by_cases h12 : (x7.o2.kind : Int) = 7
          · skip
            refine Wp.sr [.g (show (decide ((x7.o2.kind : Int) = 7)) = true from (by simp [h12])), .g gT] ?_
            refine Wp.ct (B := true) rfl ?_
            refine Wp.sr [] ?_
            refine Wp.ret ?_
            refine ⟨rfl, ?_⟩
            refine ⟨rfl, ?_⟩
            refine ⟨?_, ?_⟩
            · exact vsub [10002] (by kernel_rfl)
            · exact .inr ⟨rfl, by rw [Pn.ans1_at hx8, Pn.openT]; simp [h9, h10, h11, h12]⟩
          · skip
            refine Wp.sr [.g (show (decide ((x7.o2.kind : Int) = 7)) = false from (by simp [h12]))] ?_
            refine Wp.cf (B := false) rfl ?_
            refine Wp.skip ?_
            refine Wp.rg [.z (int_add (x := 2) (y := 1) (z := 3) (by omega) (by omega) (by omega))] ?_
            refine Wp.unroll ?_
            refine Wp.sr [] ?_
            refine Wp.seq ?_
            refine Wp.ct (B := true) rfl ?_
            refine Wp.skip ?_
            refine Wp.seq ?_
            refine Wp.block ?_
            refine Wp.sr [] ?_
            by_cases h13 : (x7.o3.kind : Int) = 7
            · skip
              refine Wp.sr [.g (show (decide ((x7.o3.kind : Int) = 7)) = true from (by simp [h13])), .g gT] ?_
              refine Wp.ct (B := true) rfl ?_
              refine Wp.sr [] ?_
              refine Wp.ret ?_
              refine ⟨rfl, ?_⟩
              refine ⟨rfl, ?_⟩
              refine ⟨?_, ?_⟩
              · exact vsub [10002] (by kernel_rfl)
              · exact .inr ⟨rfl, by rw [Pn.ans1_at hx8, Pn.openT]; simp [h9, h10, h11, h12, h13]⟩
            · skip
              refine Wp.sr [.g (show (decide ((x7.o3.kind : Int) = 7)) = false from (by simp [h13]))] ?_
              refine Wp.cf (B := false) rfl ?_
              refine Wp.skip ?_
              refine Wp.rg [.z (int_add (x := 3) (y := 1) (z := 4) (by omega) (by omega) (by omega))] ?_
              refine Wp.unroll ?_
              refine Wp.sr [] ?_
              refine Wp.seq ?_
              refine Wp.cf (B := false) rfl ?_
              refine Wp.exit ?_
              refine ⟨rfl, ?_⟩
              refine ⟨rfl, ?_⟩
              refine ⟨?_, ?_⟩
              · exact vsub [10002] (by kernel_rfl)
              · exact .inl ⟨rfl, by rw [Pn.ans1_at hx8, Pn.openT]; simp [h9, h10, h11, h12, h13]⟩
    · skip
      refine Wp.sr [.g (show (decide ((x7.o0.kind : Int) = 7)) = false from (by simp [h9]))] ?_
      refine Wp.cf (B := false) rfl ?_
      refine Wp.skip ?_
      refine Wp.rg [.z (int_add (x := 0) (y := 1) (z := 1) (by omega) (by omega) (by omega))] ?_
      refine Wp.unroll ?_
      refine Wp.sr [] ?_
      refine Wp.seq ?_
      refine Wp.ct (B := true) rfl ?_
      refine Wp.skip ?_
      refine Wp.seq ?_
      refine Wp.block ?_
      refine Wp.sr [] ?_
      by_cases h14 : (x7.o1.kind : Int) = 7
      · skip
        refine Wp.sr [.g (show (decide ((x7.o1.kind : Int) = 7)) = true from (by simp [h14])), .g gT] ?_
        refine Wp.ct (B := true) rfl ?_
        refine Wp.sr [] ?_
        refine Wp.ret ?_
        refine ⟨rfl, ?_⟩
        refine ⟨rfl, ?_⟩
        refine ⟨?_, ?_⟩
        · exact vsub [10002] (by kernel_rfl)
        · exact .inr ⟨rfl, by rw [Pn.ans1_at hx8, Pn.openT]; simp [h9, h14]⟩
      · skip
        refine Wp.sr [.g (show (decide ((x7.o1.kind : Int) = 7)) = false from (by simp [h14]))] ?_
        refine Wp.cf (B := false) rfl ?_
        refine Wp.skip ?_
        refine Wp.rg [.z (int_add (x := 1) (y := 1) (z := 2) (by omega) (by omega) (by omega))] ?_
        refine Wp.unroll ?_
        refine Wp.sr [] ?_
        refine Wp.seq ?_
        refine Wp.ct (B := true) rfl ?_
        refine Wp.skip ?_
        refine Wp.seq ?_
        refine Wp.block ?_
        refine Wp.sr [] ?_
        by_cases h15 : (x7.o2.kind : Int) = 7
        · skip
          refine Wp.sr [.g (show (decide ((x7.o2.kind : Int) = 7)) = true from (by simp [h15])), .g gT] ?_
          refine Wp.ct (B := true) rfl ?_
          refine Wp.sr [] ?_
          refine Wp.ret ?_
          refine ⟨rfl, ?_⟩
          refine ⟨rfl, ?_⟩
          refine ⟨?_, ?_⟩
          · exact vsub [10002] (by kernel_rfl)
          · exact .inr ⟨rfl, by rw [Pn.ans1_at hx8, Pn.openT]; simp [h9, h14, h15]⟩
        · skip
          refine Wp.sr [.g (show (decide ((x7.o2.kind : Int) = 7)) = false from (by simp [h15]))] ?_
          refine Wp.cf (B := false) rfl ?_
          refine Wp.skip ?_
          refine Wp.rg [.z (int_add (x := 2) (y := 1) (z := 3) (by omega) (by omega) (by omega))] ?_
          refine Wp.unroll ?_
          refine Wp.sr [] ?_
          refine Wp.seq ?_
          refine Wp.ct (B := true) rfl ?_
          refine Wp.skip ?_
          refine Wp.seq ?_
          refine Wp.block ?_
          refine Wp.sr [] ?_
          by_cases h16 : (x7.o3.kind : Int) = 7
          · skip
            refine Wp.sr [.g (show (decide ((x7.o3.kind : Int) = 7)) = true from (by simp [h16])), .g gT] ?_
            refine Wp.ct (B := true) rfl ?_
            refine Wp.sr [] ?_
            refine Wp.ret ?_
            refine ⟨rfl, ?_⟩
            refine ⟨rfl, ?_⟩
            refine ⟨?_, ?_⟩
            · exact vsub [10002] (by kernel_rfl)
            · exact .inr ⟨rfl, by rw [Pn.ans1_at hx8, Pn.openT]; simp [h9, h14, h15, h16]⟩
          · skip
            refine Wp.sr [.g (show (decide ((x7.o3.kind : Int) = 7)) = false from (by simp [h16]))] ?_
            refine Wp.cf (B := false) rfl ?_
            refine Wp.skip ?_
            refine Wp.rg [.z (int_add (x := 3) (y := 1) (z := 4) (by omega) (by omega) (by omega))] ?_
            refine Wp.unroll ?_
            refine Wp.sr [] ?_
            refine Wp.seq ?_
            refine Wp.cf (B := false) rfl ?_
            refine Wp.exit ?_
            refine ⟨rfl, ?_⟩
            refine ⟨rfl, ?_⟩
            refine ⟨?_, ?_⟩
            · exact vsub [10002] (by kernel_rfl)
            · exact .inl ⟨rfl, by rw [Pn.ans1_at hx8, Pn.openT]; simp [h9, h14, h15, h16]⟩
  · by_cases hL17 : liveB (Pn.ans1 Pn.openT (Pn.tyP p)) ((ran (Pn.ans1 Pn.openT (Pn.tyP p)) 0 (Pn.tyP p).length).1) = true
    · rw [if_pos hL17]
      refine Wp.sr [] ?_
      refine Wp.ret ?_
      refine fin_r (.sc (.bool true)) ?_
      rw [Pn.live_ran, Pn.ran_all, Pn.range_all] at hL17
      simp [hL17]
    · rw [if_neg hL17]
      refine ⟨rfl, ?_⟩
      refine fin_r (.sc (.bool false)) ?_
      rw [Pn.live_ran, Pn.ran_all, Pn.range_all] at hL17
      simp [hL17]
end Go.Proofs.YtjghgpmkepfdhaaGreatDoor
namespace Go.Proofs.YtjghgpmkepfdhaaGreatDoor
open Go.RowKit
set_option linter.unusedVariables false
set_option linter.unusedSimpArgs false
set_option maxRecDepth 100000
set_option maxHeartbeats 4000000
theorem PtXPa1.en47 : ∀ vs w, (callFunc 47 vs).run Tryz.prog w = .ok (.enter 47 vs) w := fun vs w => run_enter Tryz.func47 (by kernel_rfl) rfl vs w
theorem indexCl (G : Nat) (fs cs : List AV) (hen : ∀ vs w, (callFunc G vs).run Tryz.prog w = .ok (.enter G vs) w) (l : List Pn.Cl) (C : Pn.Cl → Bool) (H : ∀ x ∈ l, PCalls Tryz.prog G (fs ++ [(.ag (Pn.cCl x))] ++ cs) (.sc (.bool (C x)))) : PCalls Tryz.prog 83 [(.ls none (List.map Pn.encCl l)), (.fn (.func G) fs cs)] (.sc (.int .i64 (Pn.idx C l))) := by
  refine pcalls_fine fun hfa => ?_
  have hF1 := hfa 0 _ rfl
  have hF1l := hF1.lenm
  refine pcalls_rf mixed Tryz.func83 rfl ?_
  refine Wp.sr [] ?_
  refine Wp.seq ?_
  refine Wp.sr [.n (lenm Pn.encCl l)] ?_
  refine Wp.block ?_
  refine Wp.lp (α := (Nat)) (fun | j => ⟨mk 19 [(0, (.ls none (List.map Pn.encCl l))), (1, (.fn (.func G) fs cs)), (7, (.sc (.int .i64 ((l.length : Nat) : Int)))), (8, (.sc (.int .i64 ((j : Nat) : Int))))], [], y0⟩) (fun | j => j ≤ l.length ∧ (l.take j).any C = false) (fun | j => l.length - j) 0 ?_ ?_
  · exact ⟨Nat.zero_le _, by simp⟩
  rintro j hv2
  obtain ⟨hlj, htj⟩ := hv2
  refine Wp.sr [] ?_
  refine Wp.seq ?_
  refine Wp.cd (decide ((((j : Nat) : Int) : Int) < ((l.length : Nat) : Int))) (fun h3 => ?_) (fun h3 => ?_)
  · have h3 := of_decide_eq_true h3
    refine Wp.skip ?_
    refine Wp.seq ?_
    refine Wp.block ?_
    refine Wp.sr [] ?_
    obtain ⟨x6, hx5⟩ : ∃ z0, (l)[j]? = some z0 := ⟨_, List.getElem?_eq_getElem (by omega)⟩
    have hR8 : Fine (.ag (Pn.cCl x6)) := hF1.row hx5 rfl
    have hF9 : Fine (.ls none (List.map Pn.encStr x6.params)) := hR8.at 1 rfl
    have hF9l := hF9.lenm
    have hF10 : Fine (.ls none (List.map Pn.encOw x6.above)) := hR8.at 3 rfl
    have hF10l := hF10.lenm
    have hF11 : Fine (.ls none (List.map Pn.encVr x6.fields)) := hR8.at 4 rfl
    have hF11l := hF11.lenm
    have hF12 : Fine (.ls none (List.map Pn.encMe x6.methods)) := hR8.at 5 rfl
    have hF12l := hF12.lenm
    refine Wp.sr [.i (map_get Pn.encCl hx5), .cv hen (H x6 (List.mem_of_getElem? hx5))] ?_
    refine Wp.cd (C x6) (fun h13 => ?_) (fun h13 => ?_)
    · skip
      refine Wp.sr [] ?_
      refine Wp.ret ?_
      refine ⟨rfl, ?_⟩
      refine ⟨rfl, ?_⟩
      refine ⟨rfl, ?_⟩
      refine fin_r (.sc (.int .i64 ((j : Nat) : Int))) ?_
      rw [Pn.idx_hit htj hx5 (by simp [h3, h13])]
    · have h13 := Bool.eq_false_iff.1 h13
      refine Wp.skip ?_
      refine Wp.rg [.z (int_add (x := ((j : Nat) : Int)) (y := 1) (z := (((j + 1) : Nat) : Int)) (by omega) (by omega) (by omega))] ?_
      refine ⟨(j + 1), .rf, ?_, ?_⟩
      · exact ⟨Pn.len_lt hx5, Pn.any_next hx5 htj (by simp [h3, h13])⟩
      · simp only; omega
  · have h3 := of_decide_eq_false h3
    refine Wp.exit ?_
    refine ⟨rfl, ?_⟩
    refine ⟨rfl, ?_⟩
    refine Wp.sr [] ?_
    refine Wp.ret ?_
    refine fin_r (.sc (.int .i64 (-1))) ?_
    rw [Pn.idx_miss (Pn.any_end htj (by assumption))]

theorem containsCl (G : Nat) (fs cs : List AV) (hen : ∀ vs w, (callFunc G vs).run Tryz.prog w = .ok (.enter G vs) w) (l : List Pn.Cl) (C : Pn.Cl → Bool) (H : ∀ x ∈ l, PCalls Tryz.prog G (fs ++ [(.ag (Pn.cCl x))] ++ cs) (.sc (.bool (C x)))) : PCalls Tryz.prog 46 [(.ls none (List.map Pn.encCl l)), (.fn (.func G) fs cs)] (.sc (.bool (l.any C))) := by
  refine pcalls_fine fun hfa => ?_
  have hF1 := hfa 0 _ rfl
  have hF1l := hF1.lenm
  refine pcalls_rf mixed Tryz.func46 rfl ?_
  refine Wp.sr [] ?_
  refine Wp.sr [.c (indexCl G fs cs hen l C H)] ?_
  refine Wp.ret ?_
  refine fin_r (.sc (.bool (decide (((Pn.idx C l) : Int) ≥ 0)))) ?_
  rw [Pn.idx_ge]

theorem allfCl (G : Nat) (fs cs : List AV) (hen : ∀ vs w, (callFunc G vs).run Tryz.prog w = .ok (.enter G vs) w) (x : Pn.Cl) (C : Pn.Cl → Bool) (H : PCalls Tryz.prog G (fs ++ [(.ag (Pn.cCl x))] ++ cs) (.sc (.bool (C x)))) : PCalls Tryz.prog 47 [(.ag (Pn.cCl x)), (.pr [(.fn (.func G) fs cs)])] (.sc (.bool (!(C x)))) := by
  refine pcalls_fine fun hfa => ?_
  have hR1 := hfa 0 _ rfl
  have hF2 : Fine (.ls none (List.map Pn.encStr x.params)) := hR1.at 1 rfl
  have hF2l := hF2.lenm
  have hF3 : Fine (.ls none (List.map Pn.encOw x.above)) := hR1.at 3 rfl
  have hF3l := hF3.lenm
  have hF4 : Fine (.ls none (List.map Pn.encVr x.fields)) := hR1.at 4 rfl
  have hF4l := hF4.lenm
  have hF5 : Fine (.ls none (List.map Pn.encMe x.methods)) := hR1.at 5 rfl
  have hF5l := hF5.lenm
  refine pcalls_rf mixed Tryz.func47 rfl ?_
  refine Wp.sr [] ?_
  refine Wp.sr [.cv hen H] ?_
  refine Wp.ret ?_
  refine fin_r (.sc (.bool (!(C x)))) ?_
  rfl

theorem allCl (G : Nat) (fs cs : List AV) (hen : ∀ vs w, (callFunc G vs).run Tryz.prog w = .ok (.enter G vs) w) (l : List Pn.Cl) (C : Pn.Cl → Bool) (H : ∀ x ∈ l, PCalls Tryz.prog G (fs ++ [(.ag (Pn.cCl x))] ++ cs) (.sc (.bool (C x)))) : PCalls Tryz.prog 27 [(.ls none (List.map Pn.encCl l)), (.fn (.func G) fs cs)] (.sc (.bool (l.all C))) := by
  refine pcalls_fine fun hfa => ?_
  have hF1 := hfa 0 _ rfl
  have hF1l := hF1.lenm
  refine pcalls_rf mixed Tryz.func27 rfl ?_
  refine Wp.sr [] ?_
  refine Wp.sr [.c (containsCl 47 [] [(.pr [(.fn (.func G) fs cs)])] PtXPa1.en47 l (fun x => !(C x)) (fun x hx => allfCl G fs cs hen x C (H x hx)))] ?_
  refine Wp.ret ?_
  refine fin_r (.sc (.bool (!(l.any (fun x => !(C x)))))) ?_
  rw [Pn.any_not]
end Go.Proofs.YtjghgpmkepfdhaaGreatDoor
namespace Go.Proofs.YtjghgpmkepfdhaaGreatDoor
open Go.RowKit
set_option linter.unusedVariables false
set_option linter.unusedSimpArgs false
set_option maxRecDepth 100000
set_option maxHeartbeats 4000000
theorem PtXPau.en28 : ∀ vs w, (callFunc 28 vs).run Tryz.prog w = .ok (.enter 28 vs) w := fun vs w => run_enter Tryz.func28 (by kernel_rfl) rfl vs w
theorem right10p (p : List Pn.Cl) (hb : (Pn.tyP p).length ≤ 4611686018427387904) (hf : ∀ c ∈ p, ∀ m ∈ c.methods, Pn.fitSs m.body = true) : PCalls Tryz.prog 10 [(.ls none (List.map Pn.encCl p))] (.sc (.bool (Pn.rightG Wd.nameB rtT roO p))) := by
  refine pcalls_fine fun hfa => ?_
  have hF1 := hfa 0 _ rfl
  have hF1l := hF1.lenm
  refine pcalls_rf mixed Tryz.func10 rfl ?_
  refine Wp.sr [] ?_
  refine Wp.sr [.c (allCl 28 [] [] PtXPau.en28 p (fun c => Pn.classG Wd.nameB rtT roO c) (fun x hx => classRight10 x (hf x hx))), .c (tooMuch10 p hb), .e (eqCnt (((((p.length - 20) : Nat) : Int) : Int), ((((Pn.fldO p) : Nat) : Int) : Int), ((((Pn.mthO p) : Nat) : Int) : Int), ((((Pn.vrO p) : Nat) : Int) : Int), (((((Pn.cntPs p) - 400) : Nat) : Int) : Int), (0 : Int), (0 : Int)) ((0 : Int), (0 : Int), (0 : Int), (0 : Int), (0 : Int), (0 : Int), (0 : Int))), .c (opens10 p)] ?_
  refine Wp.ret ?_
  refine fin_r (.sc (.bool (((p.all (fun c => Pn.classG Wd.nameB rtT roO c)) && (false ^^ (decide ((((((p.length - 20) : Nat) : Int) : Int), ((((Pn.fldO p) : Nat) : Int) : Int), ((((Pn.mthO p) : Nat) : Int) : Int), ((((Pn.vrO p) : Nat) : Int) : Int), (((((Pn.cntPs p) - 400) : Nat) : Int) : Int), (0 : Int), (0 : Int)) = ((0 : Int), (0 : Int), (0 : Int), (0 : Int), (0 : Int), (0 : Int), (0 : Int)))))) && ((Pn.tyP p).all Pn.openT)))) ?_
  unfold Pn.rightG Pn.muchG
  first
    | rfl
    | (simp only [Bool.false_xor]; done)
    | (simp only [Bool.false_xor, Bool.not_true, Bool.not_false]; done)
    | (simp [Bool.false_xor]; done)
end Go.Proofs.YtjghgpmkepfdhaaGreatDoor
namespace Go.Proofs.YtjghgpmkepfdhaaGreatDoor
open Go.RowKit
set_option linter.unusedVariables false
set_option linter.unusedSimpArgs false
set_option maxRecDepth 100000
set_option maxHeartbeats 4000000
theorem exRight : PCalls Tryz.prog 10 [.ls none Pn.exR] (.sc (.bool true)) := by
  have h := right10p Pn.exP (by decide) (by intro c hc m hm; simp [Pn.exP] at hc; subst hc; cases hm)
  rw [exP_right] at h
  exact PCalls.arg0 exR_ok h
theorem exOf : PCalls Tryz.prog 8 [.ls none Pn.exR] (.ag [(.sc (.int .i64 1)), (.sc (.int .i64 1)), (.sc (.int .i64 0)), (.sc (.int .i64 0)), (.sc (.int .i64 0)), (.sc (.int .i64 0)), (.sc (.int .i64 1))]) := by
  have h := of10p Pn.exP (by decide)
  exact PCalls.arg0 exR_ok h

theorem awake10  : PCalls Tryz.prog 7 [] (.sc (.bool true)) := by
  refine pcalls_rf mixed Tryz.func7 rfl ?_
  refine Wp.sr [] ?_
  refine Wp.sr [] ?_
  refine Wp.sr [.c exRight, .g gT, .c exOf, .e (eqCnt ((1 : Int), (1 : Int), (0 : Int), (0 : Int), (0 : Int), (0 : Int), (1 : Int)) ((1 : Int), (1 : Int), (0 : Int), (0 : Int), (0 : Int), (0 : Int), (1 : Int)))] ?_
  refine Wp.ret ?_
  refine fin_r (.sc (.bool (false ^^ (decide (((1 : Int), (1 : Int), (0 : Int), (0 : Int), (0 : Int), (0 : Int), (1 : Int)) = ((1 : Int), (1 : Int), (0 : Int), (0 : Int), (0 : Int), (0 : Int), (1 : Int))))))) ?_
  first | rfl | (simp; done) | decide
end Go.Proofs.YtjghgpmkepfdhaaGreatDoor
