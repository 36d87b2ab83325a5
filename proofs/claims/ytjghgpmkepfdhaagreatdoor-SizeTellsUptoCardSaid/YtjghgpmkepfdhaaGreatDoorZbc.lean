/- The document's answers, told by plain functions. Conditions: none.
The document's answers, told by plain functions. Conditions: none.
The document's answers, told by plain functions. Conditions: none.
The document's answers, told by plain functions. Conditions: none.
The document's answers, told by plain functions. Conditions: none.
The document's answers, told by plain functions. Conditions: none.
The document's answers, told by plain functions. Conditions: none.
The document's answers, told by plain functions. Conditions: none. -/
import Derived.Test.YtjghgpmkepfdhaaGreatDoorZae
import Derived.Test.YtjghgpmkepfdhaaGreatDoorChecked
import Derived.Test.YtjghgpmkepfdhaaGreatDoorZag
import Derived.Test.YtjghgpmkepfdhaaGreatDoorZba
import Derived.Test.YtjghgpmkepfdhaaGreatDoorZbb
namespace Go.Proofs.YtjghgpmkepfdhaaGreatDoor
open Go.RowKit
set_option linter.unusedVariables false
set_option linter.unusedSimpArgs false
set_option maxRecDepth 100000
set_option maxHeartbeats 4000000
theorem formX_step (b : Low) (x : Pn.Xp) (IH : ∀ y ∈ x.kids, PCalls Tryz.prog 180 [(.ag (Pn.cX y))] (.sc (.bool (Pn.formX b.nm y)))) : PCalls Tryz.prog 180 [(.ag (Pn.cX x))] (.sc (.bool (Pn.formX b.nm x))) := by
  refine pcalls_fine fun hfa => ?_
  have hR1 := hfa 0 _ rfl
  have hF2 : Fine (.ls none (List.map Pn.encX x.kids)) := hR1.at 3 rfl
  have hF2l := hF2.lenm
  refine pcalls_rf mixed Tryz.func180 rfl ?_
  refine Wp.sr [] ?_
  refine Wp.seq ?_
  by_cases h3 : (x.kind : Int) < 1
  · skip
    refine Wp.sr [.g (show (decide ((x.kind : Int) < 1)) = true from (by simp [h3])), .g gT, .g gT, .g gT, .g gT, .g gT, .g gT] ?_
    refine Wp.ct (B := true) rfl ?_
    refine Wp.sr [] ?_
    refine Wp.ret ?_
    refine ⟨rfl, ?_⟩
    refine fin_r (.sc (.bool false)) ?_
    rw [Pn.formX_eq]
    simp [Pn.headX, h3]
    try omega
  · skip
    by_cases h4 : (x.kind : Int) > 14
    · skip
      refine Wp.sr [.g (show (decide ((x.kind : Int) < 1)) = false from (by simp [h3])), .g (show (decide ((x.kind : Int) > 14)) = true from (by simp [h4])), .g gT, .g gT, .g gT, .g gT, .g gT] ?_
      refine Wp.ct (B := true) rfl ?_
      refine Wp.sr [] ?_
      refine Wp.ret ?_
      refine ⟨rfl, ?_⟩
      refine fin_r (.sc (.bool false)) ?_
      rw [Pn.formX_eq]
      simp [Pn.headX, h3, h4]
      try omega
    · skip
      by_cases h5 : (((x.kids.length : Nat) : Int) : Int) = (Pn.kidsN x.kind)
      · skip
        by_cases h6 : (x.kind : Int) = 1
        · skip
          by_cases h7 : x.name = (⟨#[]⟩ : ByteArray)
          · skip
            by_cases h8 : (x.num : Int) < 0
            · skip
              refine Wp.sr [.g (show (decide ((x.kind : Int) < 1)) = false from (by simp [h3])), .g (show (decide ((x.kind : Int) > 14)) = false from (by simp [h4])), .n (lenm Pn.encX x.kids), .c (kids06 x.kind), .g (show (!decide ((((x.kids.length : Nat) : Int) : Int) = (Pn.kidsN x.kind))) = false from (by first | (simp [h5]; done) | (simp only [h5, decide_false, decide_true, Bool.not_true, Bool.not_false, Bool.false_eq_true, not_false_eq_true, beq_self_eq_true]; done))), .g (show (!decide ((x.kind : Int) = 1)) = false from (by simp [h6])), .g gF, .g (show (!decide ((x.kind : Int) = 2)) = true from (by simp [h6])), .g (show (!decide (x.name = (⟨#[]⟩ : ByteArray))) = false from (by simp [h7])), .g (show (decide ((x.num : Int) < 0)) = true from (by simp [h8])), .g gT] ?_
              refine Wp.ct (B := true) rfl ?_
              refine Wp.sr [] ?_
              refine Wp.ret ?_
              refine ⟨rfl, ?_⟩
              refine fin_r (.sc (.bool false)) ?_
              rw [Pn.formX_eq]
              simp [Pn.headX, h3, h4, h5, h6, h7, h8]
              try omega
            · skip
              by_cases h9 : (x.num : Int) > 999999999
              · skip
                refine Wp.sr [.g (show (decide ((x.kind : Int) < 1)) = false from (by simp [h3])), .g (show (decide ((x.kind : Int) > 14)) = false from (by simp [h4])), .n (lenm Pn.encX x.kids), .c (kids06 x.kind), .g (show (!decide ((((x.kids.length : Nat) : Int) : Int) = (Pn.kidsN x.kind))) = false from (by first | (simp [h5]; done) | (simp only [h5, decide_false, decide_true, Bool.not_true, Bool.not_false, Bool.false_eq_true, not_false_eq_true, beq_self_eq_true]; done))), .g (show (!decide ((x.kind : Int) = 1)) = false from (by simp [h6])), .g gF, .g (show (!decide ((x.kind : Int) = 2)) = true from (by simp [h6])), .g (show (!decide (x.name = (⟨#[]⟩ : ByteArray))) = false from (by simp [h7])), .g (show (decide ((x.num : Int) < 0)) = false from (by simp [h8])), .g (show (decide ((x.num : Int) > 999999999)) = true from (by simp [h9]))] ?_
                refine Wp.ct (B := true) rfl ?_
                refine Wp.sr [] ?_
                refine Wp.ret ?_
                refine ⟨rfl, ?_⟩
                refine fin_r (.sc (.bool false)) ?_
                rw [Pn.formX_eq]
                simp [Pn.headX, h3, h4, h5, h6, h7, h8, h9]
                try omega
              · skip
                refine Wp.sr [.g (show (decide ((x.kind : Int) < 1)) = false from (by simp [h3])), .g (show (decide ((x.kind : Int) > 14)) = false from (by simp [h4])), .n (lenm Pn.encX x.kids), .c (kids06 x.kind), .g (show (!decide ((((x.kids.length : Nat) : Int) : Int) = (Pn.kidsN x.kind))) = false from (by first | (simp [h5]; done) | (simp only [h5, decide_false, decide_true, Bool.not_true, Bool.not_false, Bool.false_eq_true, not_false_eq_true, beq_self_eq_true]; done))), .g (show (!decide ((x.kind : Int) = 1)) = false from (by simp [h6])), .g gF, .g (show (!decide ((x.kind : Int) = 2)) = true from (by simp [h6])), .g (show (!decide (x.name = (⟨#[]⟩ : ByteArray))) = false from (by simp [h7])), .g (show (decide ((x.num : Int) < 0)) = false from (by simp [h8])), .g (show (decide ((x.num : Int) > 999999999)) = false from (by simp [h9])), .g (show (decide ((x.kind : Int) = 2)) = false from (by simp [h6]))] ?_
                refine Wp.cf (B := false) rfl ?_
                refine Wp.skip ?_
                refine Wp.seq ?_
                refine Wp.sr [] ?_
                refine Wp.block ?_
                refine Wp.lp (α := (Nat)) (fun | j => ⟨mk 113 [(0, (.ag (Pn.cX x))), (1, (.pt 1 0)), (3, (.sc (.int .i64 ((j : Nat) : Int)))), (62, (.sc (.bool false)))], [(1, (Pn.cX x))], y0⟩) (fun | j => j ≤ x.kids.length ∧ (x.kids.take j).all (fun y => Pn.formX b.nm y && Pn.kidX x.kind y) = true) (fun | j => x.kids.length - j) 0 ?_ ?_
                · exact ⟨Nat.zero_le _, by simp⟩
                rintro j hv10
                obtain ⟨hlj, htj⟩ := hv10
                refine Wp.seq ?_
                refine Wp.sr [.n (lenm Pn.encX x.kids)] ?_
                refine Wp.cd (decide ((((j : Nat) : Int) : Int) < ((x.kids.length : Nat) : Int))) (fun h11 => ?_) (fun h11 => ?_)
                · have h11 := of_decide_eq_true h11
                  refine Wp.skip ?_
                  refine Wp.seq ?_
                  refine Wp.block ?_
                  obtain ⟨x14, hx13⟩ : ∃ z0, (x.kids)[j]? = some z0 := ⟨_, List.getElem?_eq_getElem (by omega)⟩
                  have hR16 : Fine (.ag (Pn.cX x14)) := hF2.row hx13 (Pn.encX_eq x14)
                  have hF17 : Fine (.ls none (List.map Pn.encX x14.kids)) := hR16.at 3 rfl
                  have hF17l := hF17.lenm
                  refine Wp.sr [.i (Pn.map_to hx13 (Pn.encX_eq x14))] ?_
                  by_cases h18 : (Pn.formX b.nm x14) = true
                  · skip
                    refine Wp.sr [.i (Pn.map_to hx13 (Pn.encX_eq x14)), .c (IH x14 (List.mem_of_getElem? hx13)), .g (show (!(Pn.formX b.nm x14)) = false from (by rw [h18]; rfl)), .g (show (decide ((x.kind : Int) = 13)) = false from (by simp [h6])), .g gF, .g gF, .g (show (decide ((x.kind : Int) = 14)) = false from (by simp [h6])), .g gF, .g gF] ?_
                    refine Wp.cf (B := false) rfl ?_
                    refine Wp.skip ?_
                    refine Wp.rg [.z (int_add (x := ((j : Nat) : Int)) (y := 1) (z := (((j + 1) : Nat) : Int)) (by omega) (by omega) (by omega))] ?_
                    refine ⟨(j + 1), .rf, ?_, ?_⟩
                    · exact ⟨Pn.len_lt hx13, Pn.all_next hx13 htj (by simp [Pn.kidX, h3, h4, h5, h6, h7, h8, h9, h11, h18])⟩
                    · simp only; omega
                  · skip
                    refine Wp.sr [.i (Pn.map_to hx13 (Pn.encX_eq x14)), .c (IH x14 (List.mem_of_getElem? hx13)), .g (show (!(Pn.formX b.nm x14)) = true from (by rw [(eq_false_of_ne_true h18)]; rfl)), .g gT] ?_
                    refine Wp.ct (B := true) rfl ?_
                    refine Wp.sr [] ?_
                    refine Wp.ret ?_
                    refine ⟨rfl, ?_⟩
                    refine ⟨rfl, ?_⟩
                    refine ⟨rfl, ?_⟩
                    refine fin_r (.sc (.bool false)) ?_
                    rw [Pn.formX_eq]
                    rw [Pn.all_false hx13 (by simp [Pn.kidX, h3, h4, h5, h6, h7, h8, h9, h11, h18])]
                    simp
                · have h11 := of_decide_eq_false h11
                  refine Wp.exit ?_
                  refine ⟨rfl, ?_⟩
                  refine ⟨rfl, ?_⟩
                  refine Wp.sr [] ?_
                  refine Wp.ret ?_
                  refine fin_r (.sc (.bool true)) ?_
                  rw [Pn.formX_eq]
                  rw [Pn.all_end htj (by assumption)]
                  simp [Pn.headX, h3, h4, h5, h6, h7, h8, h9, h11]
                  try omega
          · skip
            refine Wp.sr [.g (show (decide ((x.kind : Int) < 1)) = false from (by simp [h3])), .g (show (decide ((x.kind : Int) > 14)) = false from (by simp [h4])), .n (lenm Pn.encX x.kids), .c (kids06 x.kind), .g (show (!decide ((((x.kids.length : Nat) : Int) : Int) = (Pn.kidsN x.kind))) = false from (by first | (simp [h5]; done) | (simp only [h5, decide_false, decide_true, Bool.not_true, Bool.not_false, Bool.false_eq_true, not_false_eq_true, beq_self_eq_true]; done))), .g (show (!decide ((x.kind : Int) = 1)) = false from (by simp [h6])), .g gF, .g (show (!decide ((x.kind : Int) = 2)) = true from (by simp [h6])), .g (show (!decide (x.name = (⟨#[]⟩ : ByteArray))) = true from (by simp [h7])), .g gT, .g gT] ?_
            refine Wp.ct (B := true) rfl ?_
            refine Wp.sr [] ?_
            refine Wp.ret ?_
            refine ⟨rfl, ?_⟩
            refine fin_r (.sc (.bool false)) ?_
            rw [Pn.formX_eq]
            simp [Pn.headX, h3, h4, h5, h6, h7]
            try omega
        · skip
          by_cases h19 : (x.num : Int) = 0
          · skip
            by_cases h20 : (x.kind : Int) = 2
            · skip
              refine Wp.sr [.g (show (decide ((x.kind : Int) < 1)) = false from (by simp [h3])), .g (show (decide ((x.kind : Int) > 14)) = false from (by simp [h4])), .n (lenm Pn.encX x.kids), .c (kids06 x.kind), .g (show (!decide ((((x.kids.length : Nat) : Int) : Int) = (Pn.kidsN x.kind))) = false from (by first | (simp [h5]; done) | (simp only [h5, decide_false, decide_true, Bool.not_true, Bool.not_false, Bool.false_eq_true, not_false_eq_true, beq_self_eq_true]; done))), .g (show (!decide ((x.kind : Int) = 1)) = true from (by simp [h6])), .g (show (!decide ((x.num : Int) = 0)) = false from (by simp [h19])), .g (show (!decide ((x.kind : Int) = 2)) = false from (by simp [h20])), .g gF, .g (show (decide ((x.num : Int) < 0)) = false from (by simp [h19])), .g (show (decide ((x.num : Int) > 999999999)) = false from (by simp [h19])), .g (show (decide ((x.kind : Int) = 2)) = true from (by simp [h20])), .c (b.hnm x.name)] ?_
              refine Wp.cd (!(b.nm x.name)) (fun h21 => ?_) (fun h21 => ?_)
              · have h21 : ¬ ((b.nm x.name) = true) := by simpa using h21
                refine Wp.sr [] ?_
                refine Wp.ret ?_
                refine ⟨rfl, ?_⟩
                refine fin_r (.sc (.bool false)) ?_
                rw [Pn.formX_eq]
                simp [Pn.headX, h3, h4, h5, h6, h19, h20, h21]
                try omega
              · have h21 : ((b.nm x.name) = true) := by simpa using h21
                refine Wp.skip ?_
                refine Wp.seq ?_
                refine Wp.sr [] ?_
                refine Wp.block ?_
                refine Wp.lp (α := (Nat)) (fun | j => ⟨mk 113 [(0, (.ag (Pn.cX x))), (1, (.pt 1 0)), (3, (.sc (.int .i64 ((j : Nat) : Int)))), (62, (.sc (.bool (!(b.nm x.name)))))], [(1, (Pn.cX x))], y0⟩) (fun | j => j ≤ x.kids.length ∧ (x.kids.take j).all (fun y => Pn.formX b.nm y && Pn.kidX x.kind y) = true) (fun | j => x.kids.length - j) 0 ?_ ?_
                · exact ⟨Nat.zero_le _, by simp⟩
                rintro j hv22
                obtain ⟨hlj, htj⟩ := hv22
                refine Wp.seq ?_
                refine Wp.sr [.n (lenm Pn.encX x.kids)] ?_
                refine Wp.cd (decide ((((j : Nat) : Int) : Int) < ((x.kids.length : Nat) : Int))) (fun h23 => ?_) (fun h23 => ?_)
                · have h23 := of_decide_eq_true h23
                  refine Wp.skip ?_
                  refine Wp.seq ?_
                  refine Wp.block ?_
                  obtain ⟨x26, hx25⟩ : ∃ z0, (x.kids)[j]? = some z0 := ⟨_, List.getElem?_eq_getElem (by omega)⟩
                  have hR28 : Fine (.ag (Pn.cX x26)) := hF2.row hx25 (Pn.encX_eq x26)
                  have hF29 : Fine (.ls none (List.map Pn.encX x26.kids)) := hR28.at 3 rfl
                  have hF29l := hF29.lenm
                  refine Wp.sr [.i (Pn.map_to hx25 (Pn.encX_eq x26))] ?_
                  by_cases h30 : (Pn.formX b.nm x26) = true
                  · skip
                    refine Wp.sr [.i (Pn.map_to hx25 (Pn.encX_eq x26)), .c (IH x26 (List.mem_of_getElem? hx25)), .g (show (!(Pn.formX b.nm x26)) = false from (by rw [h30]; rfl)), .g (show (decide ((x.kind : Int) = 13)) = false from (by simp [h20])), .g gF, .g gF, .g (show (decide ((x.kind : Int) = 14)) = false from (by simp [h20])), .g gF, .g gF] ?_
                    refine Wp.cf (B := false) rfl ?_
                    refine Wp.skip ?_
                    refine Wp.rg [.z (int_add (x := ((j : Nat) : Int)) (y := 1) (z := (((j + 1) : Nat) : Int)) (by omega) (by omega) (by omega))] ?_
                    refine ⟨(j + 1), .rf, ?_, ?_⟩
                    · exact ⟨Pn.len_lt hx25, Pn.all_next hx25 htj (by simp [Pn.kidX, h3, h4, h5, h6, h19, h20, h21, h23, h30])⟩
                    · simp only; omega
                  · skip
                    refine Wp.sr [.i (Pn.map_to hx25 (Pn.encX_eq x26)), .c (IH x26 (List.mem_of_getElem? hx25)), .g (show (!(Pn.formX b.nm x26)) = true from (by rw [(eq_false_of_ne_true h30)]; rfl)), .g gT] ?_
                    refine Wp.ct (B := true) rfl ?_
                    refine Wp.sr [] ?_
                    refine Wp.ret ?_
                    refine ⟨rfl, ?_⟩
                    refine ⟨rfl, ?_⟩
                    refine ⟨rfl, ?_⟩
                    refine fin_r (.sc (.bool false)) ?_
                    rw [Pn.formX_eq]
                    rw [Pn.all_false hx25 (by simp [Pn.kidX, h3, h4, h5, h6, h19, h20, h21, h23, h30])]
                    simp
                · have h23 := of_decide_eq_false h23
                  refine Wp.exit ?_
                  refine ⟨rfl, ?_⟩
                  refine ⟨rfl, ?_⟩
                  refine Wp.sr [] ?_
                  refine Wp.ret ?_
                  refine fin_r (.sc (.bool true)) ?_
                  rw [Pn.formX_eq]
                  rw [Pn.all_end htj (by assumption)]
                  simp [Pn.headX, h3, h4, h5, h6, h19, h20, h21, h23]
                  try omega
            · skip
              by_cases h31 : x.name = (⟨#[]⟩ : ByteArray)
              · skip
                refine Wp.sr [.g (show (decide ((x.kind : Int) < 1)) = false from (by simp [h3])), .g (show (decide ((x.kind : Int) > 14)) = false from (by simp [h4])), .n (lenm Pn.encX x.kids), .c (kids06 x.kind), .g (show (!decide ((((x.kids.length : Nat) : Int) : Int) = (Pn.kidsN x.kind))) = false from (by first | (simp [h5]; done) | (simp only [h5, decide_false, decide_true, Bool.not_true, Bool.not_false, Bool.false_eq_true, not_false_eq_true, beq_self_eq_true]; done))), .g (show (!decide ((x.kind : Int) = 1)) = true from (by simp [h6])), .g (show (!decide ((x.num : Int) = 0)) = false from (by simp [h19])), .g (show (!decide ((x.kind : Int) = 2)) = true from (by simp [h20])), .g (show (!decide (x.name = (⟨#[]⟩ : ByteArray))) = false from (by simp [h31])), .g (show (decide ((x.num : Int) < 0)) = false from (by simp [h19])), .g (show (decide ((x.num : Int) > 999999999)) = false from (by simp [h19])), .g (show (decide ((x.kind : Int) = 2)) = false from (by simp [h20]))] ?_
                refine Wp.cf (B := false) rfl ?_
                refine Wp.skip ?_
                refine Wp.seq ?_
                refine Wp.sr [] ?_
                refine Wp.block ?_
                refine Wp.lp (α := (Nat)) (fun | j => ⟨mk 113 [(0, (.ag (Pn.cX x))), (1, (.pt 1 0)), (3, (.sc (.int .i64 ((j : Nat) : Int)))), (62, (.sc (.bool false)))], [(1, (Pn.cX x))], y0⟩) (fun | j => j ≤ x.kids.length ∧ (x.kids.take j).all (fun y => Pn.formX b.nm y && Pn.kidX x.kind y) = true) (fun | j => x.kids.length - j) 0 ?_ ?_
                · exact ⟨Nat.zero_le _, by simp⟩
                rintro j hv32
                obtain ⟨hlj, htj⟩ := hv32
                refine Wp.seq ?_
                refine Wp.sr [.n (lenm Pn.encX x.kids)] ?_
                refine Wp.cd (decide ((((j : Nat) : Int) : Int) < ((x.kids.length : Nat) : Int))) (fun h33 => ?_) (fun h33 => ?_)
                · have h33 := of_decide_eq_true h33
                  refine Wp.skip ?_
                  refine Wp.seq ?_
                  refine Wp.block ?_
                  obtain ⟨x36, hx35⟩ : ∃ z0, (x.kids)[j]? = some z0 := ⟨_, List.getElem?_eq_getElem (by omega)⟩
                  have hR38 : Fine (.ag (Pn.cX x36)) := hF2.row hx35 (Pn.encX_eq x36)
                  have hF39 : Fine (.ls none (List.map Pn.encX x36.kids)) := hR38.at 3 rfl
                  have hF39l := hF39.lenm
                  refine Wp.sr [.i (Pn.map_to hx35 (Pn.encX_eq x36))] ?_
                  by_cases h40 : (Pn.formX b.nm x36) = true
                  · skip
                    by_cases h41 : (x.kind : Int) = 13
                    · skip
                      by_cases h42 : (x36.kind : Int) = 2
                      · skip
                        refine Wp.sr [.i (Pn.map_to hx35 (Pn.encX_eq x36)), .c (IH x36 (List.mem_of_getElem? hx35)), .g (show (!(Pn.formX b.nm x36)) = false from (by rw [h40]; rfl)), .g (show (decide ((x.kind : Int) = 13)) = true from (by simp [h41])), .g (show (!decide ((x36.kind : Int) = 2)) = false from (by simp [h42])), .g gF, .g (show (decide ((x.kind : Int) = 14)) = false from (by simp [h41])), .g gF, .g gF] ?_
                        refine Wp.cf (B := false) rfl ?_
                        refine Wp.skip ?_
                        refine Wp.rg [.z (int_add (x := ((j : Nat) : Int)) (y := 1) (z := (((j + 1) : Nat) : Int)) (by omega) (by omega) (by omega))] ?_
                        refine ⟨(j + 1), .rf, ?_, ?_⟩
                        · exact ⟨Pn.len_lt hx35, Pn.all_next hx35 htj (by simp [Pn.kidX, h3, h4, h5, h6, h19, h20, h31, h33, h40, h41, h42])⟩
                        · simp only; omega
                      · skip
                        by_cases h43 : (x36.kind : Int) = 3
                        · skip
                          refine Wp.sr [.i (Pn.map_to hx35 (Pn.encX_eq x36)), .c (IH x36 (List.mem_of_getElem? hx35)), .g (show (!(Pn.formX b.nm x36)) = false from (by rw [h40]; rfl)), .g (show (decide ((x.kind : Int) = 13)) = true from (by simp [h41])), .g (show (!decide ((x36.kind : Int) = 2)) = true from (by simp [h42])), .g (show (!decide ((x36.kind : Int) = 3)) = false from (by simp [h43])), .g (show (decide ((x.kind : Int) = 14)) = false from (by simp [h41])), .g gF, .g gF] ?_
                          refine Wp.cf (B := false) rfl ?_
                          refine Wp.skip ?_
                          refine Wp.rg [.z (int_add (x := ((j : Nat) : Int)) (y := 1) (z := (((j + 1) : Nat) : Int)) (by omega) (by omega) (by omega))] ?_
                          refine ⟨(j + 1), .rf, ?_, ?_⟩
                          · exact ⟨Pn.len_lt hx35, Pn.all_next hx35 htj (by simp [Pn.kidX, h3, h4, h5, h6, h19, h20, h31, h33, h40, h41, h42, h43])⟩
                          · simp only; omega
                        · skip
                          refine Wp.sr [.i (Pn.map_to hx35 (Pn.encX_eq x36)), .c (IH x36 (List.mem_of_getElem? hx35)), .g (show (!(Pn.formX b.nm x36)) = false from (by rw [h40]; rfl)), .g (show (decide ((x.kind : Int) = 13)) = true from (by simp [h41])), .g (show (!decide ((x36.kind : Int) = 2)) = true from (by simp [h42])), .g (show (!decide ((x36.kind : Int) = 3)) = true from (by simp [h43]))] ?_
                          refine Wp.ct (B := true) rfl ?_
                          refine Wp.sr [] ?_
                          refine Wp.ret ?_
                          refine ⟨rfl, ?_⟩
                          refine ⟨rfl, ?_⟩
                          refine ⟨rfl, ?_⟩
                          refine fin_r (.sc (.bool false)) ?_
                          rw [Pn.formX_eq]
                          rw [Pn.all_false hx35 (by simp [Pn.kidX, h3, h4, h5, h6, h19, h20, h31, h33, h40, h41, h42, h43])]
                          simp
                    · skip
                      by_cases h44 : (x.kind : Int) = 14
                      · skip
                        by_cases h45 : (x36.kind : Int) = 2
                        · skip
                          refine Wp.sr [.i (Pn.map_to hx35 (Pn.encX_eq x36)), .c (IH x36 (List.mem_of_getElem? hx35)), .g (show (!(Pn.formX b.nm x36)) = false from (by rw [h40]; rfl)), .g (show (decide ((x.kind : Int) = 13)) = false from (by simp [h41])), .g gF, .g gF, .g (show (decide ((x.kind : Int) = 14)) = true from (by simp [h44])), .g (show (!decide ((x36.kind : Int) = 2)) = false from (by simp [h45])), .g gF] ?_
                          refine Wp.cf (B := false) rfl ?_
                          refine Wp.skip ?_
                          refine Wp.rg [.z (int_add (x := ((j : Nat) : Int)) (y := 1) (z := (((j + 1) : Nat) : Int)) (by omega) (by omega) (by omega))] ?_
                          refine ⟨(j + 1), .rf, ?_, ?_⟩
                          · exact ⟨Pn.len_lt hx35, Pn.all_next hx35 htj (by simp [Pn.kidX, h3, h4, h5, h6, h19, h20, h31, h33, h40, h41, h44, h45])⟩
                          · simp only; omega
                        · skip
                          by_cases h46 : (x36.kind : Int) = 3
                          · skip
                            refine Wp.sr [.i (Pn.map_to hx35 (Pn.encX_eq x36)), .c (IH x36 (List.mem_of_getElem? hx35)), .g (show (!(Pn.formX b.nm x36)) = false from (by rw [h40]; rfl)), .g (show (decide ((x.kind : Int) = 13)) = false from (by simp [h41])), .g gF, .g gF, .g (show (decide ((x.kind : Int) = 14)) = true from (by simp [h44])), .g (show (!decide ((x36.kind : Int) = 2)) = true from (by simp [h45])), .g (show (!decide ((x36.kind : Int) = 3)) = false from (by simp [h46]))] ?_
                            refine Wp.cf (B := false) rfl ?_
                            refine Wp.skip ?_
                            refine Wp.rg [.z (int_add (x := ((j : Nat) : Int)) (y := 1) (z := (((j + 1) : Nat) : Int)) (by omega) (by omega) (by omega))] ?_
                            refine ⟨(j + 1), .rf, ?_, ?_⟩
                            · exact ⟨Pn.len_lt hx35, Pn.all_next hx35 htj (by simp [Pn.kidX, h3, h4, h5, h6, h19, h20, h31, h33, h40, h41, h44, h45, h46])⟩
                            · simp only; omega
                          · skip
                            refine Wp.sr [.i (Pn.map_to hx35 (Pn.encX_eq x36)), .c (IH x36 (List.mem_of_getElem? hx35)), .g (show (!(Pn.formX b.nm x36)) = false from (by rw [h40]; rfl)), .g (show (decide ((x.kind : Int) = 13)) = false from (by simp [h41])), .g gF, .g gF, .g (show (decide ((x.kind : Int) = 14)) = true from (by simp [h44])), .g (show (!decide ((x36.kind : Int) = 2)) = true from (by simp [h45])), .g (show (!decide ((x36.kind : Int) = 3)) = true from (by simp [h46]))] ?_
                            refine Wp.cd (!decide ((x36.kind : Int) = 4)) (fun h47 => ?_) (fun h47 => ?_)
                            · have h47 : ¬ ((x36.kind : Int) = 4) := by simpa using h47
                              refine Wp.sr [] ?_
                              refine Wp.ret ?_
                              refine ⟨rfl, ?_⟩
                              refine ⟨rfl, ?_⟩
                              refine ⟨rfl, ?_⟩
                              refine fin_r (.sc (.bool false)) ?_
                              rw [Pn.formX_eq]
                              rw [Pn.all_false hx35 (by simp [Pn.kidX, h3, h4, h5, h6, h19, h20, h31, h33, h40, h41, h44, h45, h46, h47])]
                              simp
                            · have h47 : ((x36.kind : Int) = 4) := by simpa using h47
                              refine Wp.skip ?_
                              refine Wp.rg [.z (int_add (x := ((j : Nat) : Int)) (y := 1) (z := (((j + 1) : Nat) : Int)) (by omega) (by omega) (by omega))] ?_
                              refine ⟨(j + 1), .rf, ?_, ?_⟩
                              · exact ⟨Pn.len_lt hx35, Pn.all_next hx35 htj (by simp [Pn.kidX, h3, h4, h5, h6, h19, h20, h31, h33, h40, h41, h44, h45, h46, h47])⟩
                              · simp only; omega
                      · skip
                        refine Wp.sr [.i (Pn.map_to hx35 (Pn.encX_eq x36)), .c (IH x36 (List.mem_of_getElem? hx35)), .g (show (!(Pn.formX b.nm x36)) = false from (by rw [h40]; rfl)), .g (show (decide ((x.kind : Int) = 13)) = false from (by simp [h41])), .g gF, .g gF, .g (show (decide ((x.kind : Int) = 14)) = false from (by simp [h44])), .g gF, .g gF] ?_
                        refine Wp.cf (B := false) rfl ?_
                        refine Wp.skip ?_
                        refine Wp.rg [.z (int_add (x := ((j : Nat) : Int)) (y := 1) (z := (((j + 1) : Nat) : Int)) (by omega) (by omega) (by omega))] ?_
                        refine ⟨(j + 1), .rf, ?_, ?_⟩
                        · exact ⟨Pn.len_lt hx35, Pn.all_next hx35 htj (by simp [Pn.kidX, h3, h4, h5, h6, h19, h20, h31, h33, h40, h41, h44])⟩
                        · simp only; omega
                  · skip
                    refine Wp.sr [.i (Pn.map_to hx35 (Pn.encX_eq x36)), .c (IH x36 (List.mem_of_getElem? hx35)), .g (show (!(Pn.formX b.nm x36)) = true from (by rw [(eq_false_of_ne_true h40)]; rfl)), .g gT] ?_
                    refine Wp.ct (B := true) rfl ?_
                    refine Wp.sr [] ?_
                    refine Wp.ret ?_
                    refine ⟨rfl, ?_⟩
                    refine ⟨rfl, ?_⟩
                    refine ⟨rfl, ?_⟩
                    refine fin_r (.sc (.bool false)) ?_
                    rw [Pn.formX_eq]
                    rw [Pn.all_false hx35 (by simp [Pn.kidX, h3, h4, h5, h6, h19, h20, h31, h33, h40])]
                    simp
                · have h33 := of_decide_eq_false h33
                  refine Wp.exit ?_
                  refine ⟨rfl, ?_⟩
                  refine ⟨rfl, ?_⟩
                  refine Wp.sr [] ?_
                  refine Wp.ret ?_
                  refine fin_r (.sc (.bool true)) ?_
                  rw [Pn.formX_eq]
                  rw [Pn.all_end htj (by assumption)]
                  simp [Pn.headX, h3, h4, h5, h6, h19, h20, h31, h33]
                  try omega
              · skip
                refine Wp.sr [.g (show (decide ((x.kind : Int) < 1)) = false from (by simp [h3])), .g (show (decide ((x.kind : Int) > 14)) = false from (by simp [h4])), .n (lenm Pn.encX x.kids), .c (kids06 x.kind), .g (show (!decide ((((x.kids.length : Nat) : Int) : Int) = (Pn.kidsN x.kind))) = false from (by first | (simp [h5]; done) | (simp only [h5, decide_false, decide_true, Bool.not_true, Bool.not_false, Bool.false_eq_true, not_false_eq_true, beq_self_eq_true]; done))), .g (show (!decide ((x.kind : Int) = 1)) = true from (by simp [h6])), .g (show (!decide ((x.num : Int) = 0)) = false from (by simp [h19])), .g (show (!decide ((x.kind : Int) = 2)) = true from (by simp [h20])), .g (show (!decide (x.name = (⟨#[]⟩ : ByteArray))) = true from (by simp [h31])), .g gT, .g gT] ?_
                refine Wp.ct (B := true) rfl ?_
                refine Wp.sr [] ?_
                refine Wp.ret ?_
                refine ⟨rfl, ?_⟩
                refine fin_r (.sc (.bool false)) ?_
                rw [Pn.formX_eq]
                simp [Pn.headX, h3, h4, h5, h6, h19, h20, h31]
                try omega
          · skip
            refine Wp.sr [.g (show (decide ((x.kind : Int) < 1)) = false from (by simp [h3])), .g (show (decide ((x.kind : Int) > 14)) = false from (by simp [h4])), .n (lenm Pn.encX x.kids), .c (kids06 x.kind), .g (show (!decide ((((x.kids.length : Nat) : Int) : Int) = (Pn.kidsN x.kind))) = false from (by first | (simp [h5]; done) | (simp only [h5, decide_false, decide_true, Bool.not_true, Bool.not_false, Bool.false_eq_true, not_false_eq_true, beq_self_eq_true]; done))), .g (show (!decide ((x.kind : Int) = 1)) = true from (by simp [h6])), .g (show (!decide ((x.num : Int) = 0)) = true from (by simp [h19])), .g gT, .g gT, .g gT] ?_
            refine Wp.ct (B := true) rfl ?_
            refine Wp.sr [] ?_
            refine Wp.ret ?_
            refine ⟨rfl, ?_⟩
            refine fin_r (.sc (.bool false)) ?_
            rw [Pn.formX_eq]
            simp [Pn.headX, h3, h4, h5, h6, h19]
            try omega
      · skip
        refine Wp.sr [.g (show (decide ((x.kind : Int) < 1)) = false from (by simp [h3])), .g (show (decide ((x.kind : Int) > 14)) = false from (by simp [h4])), .n (lenm Pn.encX x.kids), .c (kids06 x.kind), .g (show (!decide ((((x.kids.length : Nat) : Int) : Int) = (Pn.kidsN x.kind))) = true from (by first | (simp [h5]; done) | (simp only [h5, decide_false, decide_true, Bool.not_true, Bool.not_false, Bool.false_eq_true, not_false_eq_true, beq_self_eq_true]; done))), .g gT, .g gT, .g gT, .g gT] ?_
        refine Wp.ct (B := true) rfl ?_
        refine Wp.sr [] ?_
        refine Wp.ret ?_
        refine ⟨rfl, ?_⟩
        refine fin_r (.sc (.bool false)) ?_
        rw [Pn.formX_eq]
        simp [Pn.headX, h3, h4, h5]
        try omega

theorem form06 (b : Low) (x : Pn.Xp) : PCalls Tryz.prog 180 [(.ag (Pn.cX x))] (.sc (.bool (Pn.formX b.nm x))) := by
  have key : ∀ n (x : Pn.Xp), Pn.cntX x ≤ n → PCalls Tryz.prog 180 [(.ag (Pn.cX x))] (.sc (.bool (Pn.formX b.nm x))) := by
    intro n
    induction n with
    | zero => intro x h; rw [Pn.cntX_eq] at h; omega
    | succ n ih =>
      intro x h
      refine formX_step b x fun y hy => ih y ?_
      rw [Pn.cntX_eq] at h
      have := Pn.cntX_kid hy
      omega
  exact key _ x (Nat.le_refl _)

theorem right06 (b : Low) (x : Pn.Xp) (hb : Pn.cntX x ≤ 4611686018427387904) : PCalls Tryz.prog 168 [(.ag (Pn.cX x))] (.sc (.bool (Pn.rightX b.nm x))) := by
  refine pcalls_fine fun hfa => ?_
  have hR1 := hfa 0 _ rfl
  have hF2 : Fine (.ls none (List.map Pn.encX x.kids)) := hR1.at 3 rfl
  have hF2l := hF2.lenm
  refine pcalls_rf mixed Tryz.func168 rfl ?_
  refine Wp.sr [] ?_
  by_cases h3 : (Pn.formX b.nm x) = true
  · skip
    refine Wp.sr [.c (form06 b x), .g (show (Pn.formX b.nm x) = true from (by exact h3)), .c (deep06 x (by omega))] ?_
    refine Wp.ret ?_
    refine fin_r (.sc (.bool (decide (((((Pn.deepX x) : Nat) : Int) : Int) ≤ 20)))) ?_
    unfold Pn.rightX
    simp [h3]
    try omega
  · skip
    refine Wp.sr [.c (form06 b x), .g (show (Pn.formX b.nm x) = false from (by exact (eq_false_of_ne_true h3)))] ?_
    refine Wp.ret ?_
    refine fin_r (.sc (.bool false)) ?_
    unfold Pn.rightX
    simp [h3]
    try omega
end Go.Proofs.YtjghgpmkepfdhaaGreatDoor
namespace Go.Proofs.YtjghgpmkepfdhaaGreatDoor
open Go.RowKit
set_option linter.unusedVariables false
set_option linter.unusedSimpArgs false
set_option maxRecDepth 100000
set_option maxHeartbeats 4000000

theorem blank08 (x : Pn.Sm) : PCalls Tryz.prog 167 [(.ag (Pn.cS x))] (.ag (Pn.encS (Pn.blankS x))) := by
  refine pcalls_fine fun hfa => ?_
  have hR1 := hfa 0 _ rfl
  have hF2 : Fine (.ls none (List.map Pn.encX x.e.kids)) := hR1.at 18 rfl
  have hF2l := hF2.lenm
  have hF3 : Fine (.ls none (List.map Pn.encX x.args)) := hR1.at 19 rfl
  have hF3l := hF3.lenm
  have hF4 : Fine (.ls none (List.map Pn.encS x.body)) := hR1.at 20 rfl
  have hF4l := hF4.lenm
  have hF5 : Fine (.ls none (List.map Pn.encS x.els)) := hR1.at 21 rfl
  have hF5l := hF5.lenm
  refine pcalls_rf mixed Tryz.func167 rfl ?_
  refine Wp.sr [] ?_
  refine Wp.sr [] ?_
  refine Wp.seq ?_
  by_cases h6 : (x.kind : Int) = 1
  · skip
    refine Wp.sr [.g (show (decide ((x.kind : Int) = 1)) = true from (by simp [h6])), .g gT, .g gT, .g gT, .g gT] ?_
    refine Wp.ct (B := true) rfl ?_
    refine Wp.rg [] ?_
    refine Wp.seq ?_
    refine Wp.sr [.g (show (decide ((x.kind : Int) = 2)) = false from (by simp [h6])), .g (show (decide ((x.kind : Int) = 3)) = false from (by simp [h6])), .g (show (decide ((x.kind : Int) = 4)) = false from (by simp [h6])), .g (show (decide ((x.kind : Int) = 7)) = false from (by simp [h6]))] ?_
    refine Wp.cf (B := (decide ((x.kind : Int) = 8))) (by simp [h6]) ?_
    refine Wp.skip ?_
    refine Wp.seq ?_
    refine Wp.sr [.g (show (decide ((x.kind : Int) = 2)) = false from (by simp [h6])), .g (show (decide ((x.kind : Int) = 3)) = false from (by simp [h6]))] ?_
    refine Wp.cf (B := (decide ((x.kind : Int) = 4))) (by simp [h6]) ?_
    refine Wp.skip ?_
    refine Wp.seq ?_
    refine Wp.sr [.g (show (decide ((x.kind : Int) = 5)) = false from (by simp [h6]))] ?_
    refine Wp.cf (B := (decide ((x.kind : Int) = 6))) (by simp [h6]) ?_
    refine Wp.skip ?_
    refine Wp.seq ?_
    refine Wp.sr [.g (show (decide ((x.kind : Int) = 1)) = true from (by simp [h6])), .g gT, .g gT, .g gT, .g gT] ?_
    refine Wp.ct (B := true) rfl ?_
    refine Wp.rg [] ?_
    refine Wp.seq ?_
    refine Wp.sr [] ?_
    refine Wp.cf (B := (decide ((x.kind : Int) = 4))) (by simp [h6]) ?_
    refine Wp.skip ?_
    refine Wp.seq ?_
    refine Wp.sr [.g (show (decide ((x.kind : Int) = 9)) = false from (by simp [h6]))] ?_
    refine Wp.cf (B := (decide ((x.kind : Int) = 10))) (by simp [h6]) ?_
    refine Wp.skip ?_
    refine Wp.seq ?_
    refine Wp.sr [] ?_
    refine Wp.cf (B := (decide ((x.kind : Int) = 9))) (by simp [h6]) ?_
    refine Wp.skip ?_
    refine Wp.sr [] ?_
    refine Wp.ret ?_
    refine fin_r (.ag [(.sc (.int .i64 x.kind)), (.sc (.string ⟨#[]⟩)), (.sc (.string x.y)), (.sc (.string x.name)), (.sc (.int .i64 x.type.kind)), (.sc (.string x.type.cls)), (.sc (.int .i64 x.type.n)), (.sc (.int .i64 x.type.o0.kind)), (.sc (.int .i64 x.type.o0.n)), (.sc (.int .i64 x.type.o1.kind)), (.sc (.int .i64 x.type.o1.n)), (.sc (.int .i64 x.type.o2.kind)), (.sc (.int .i64 x.type.o2.n)), (.sc (.int .i64 x.type.o3.kind)), (.sc (.int .i64 x.type.o3.n)), (.sc (.int .i64 0)), (.sc (.int .i64 0)), (.sc (.string ⟨#[]⟩)), (.ls none []), (.ls none (List.map Pn.encX x.args)), (.ls none (List.map Pn.encS x.body)), (.ls none (List.map Pn.encS x.els)), (.sc (.int .i64 x.pos))]) ?_
    rw [Pn.encS_eq]
    simp [Pn.blX, Pn.blY, Pn.blN, Pn.blT, Pn.blE, Pn.noT, Pn.noX, Pn.Xp.kind, Pn.Xp.num, Pn.Xp.name, Pn.Xp.kids, Pn.bl_kind, Pn.bl_x, Pn.bl_y, Pn.bl_name, Pn.bl_type, Pn.bl_e, Pn.bl_args, Pn.bl_body, Pn.bl_els, Pn.bl_pos, h6]
    all_goals exact ⟨rfl, rfl⟩
  · skip
    by_cases h7 : (x.kind : Int) = 2
    · skip
      refine Wp.sr [.g (show (decide ((x.kind : Int) = 1)) = false from (by simp [h6])), .g (show (decide ((x.kind : Int) = 2)) = true from (by simp [h7])), .g gT, .g gT, .g gT] ?_
      refine Wp.ct (B := true) rfl ?_
      refine Wp.rg [] ?_
      refine Wp.seq ?_
      refine Wp.sr [.g (show (decide ((x.kind : Int) = 2)) = true from (by simp [h7])), .g gT, .g gT, .g gT] ?_
      refine Wp.ct (B := true) rfl ?_
      refine Wp.rg [] ?_
      refine Wp.seq ?_
      refine Wp.sr [.g (show (decide ((x.kind : Int) = 2)) = true from (by simp [h7])), .g gT] ?_
      refine Wp.ct (B := true) rfl ?_
      refine Wp.rg [] ?_
      refine Wp.seq ?_
      refine Wp.sr [.g (show (decide ((x.kind : Int) = 5)) = false from (by simp [h7]))] ?_
      refine Wp.cf (B := (decide ((x.kind : Int) = 6))) (by simp [h7]) ?_
      refine Wp.skip ?_
      refine Wp.seq ?_
      refine Wp.sr [.g (show (decide ((x.kind : Int) = 1)) = false from (by simp [h6])), .g (show (decide ((x.kind : Int) = 3)) = false from (by simp [h7])), .g (show (decide ((x.kind : Int) = 6)) = false from (by simp [h7])), .g (show (decide ((x.kind : Int) = 9)) = false from (by simp [h7])), .g (show (decide ((x.kind : Int) = 10)) = false from (by simp [h7]))] ?_
      refine Wp.cf (B := (decide ((x.kind : Int) = 11))) (by simp [h7]) ?_
      refine Wp.skip ?_
      refine Wp.seq ?_
      refine Wp.sr [] ?_
      refine Wp.cf (B := (decide ((x.kind : Int) = 4))) (by simp [h7]) ?_
      refine Wp.skip ?_
      refine Wp.seq ?_
      refine Wp.sr [.g (show (decide ((x.kind : Int) = 9)) = false from (by simp [h7]))] ?_
      refine Wp.cf (B := (decide ((x.kind : Int) = 10))) (by simp [h7]) ?_
      refine Wp.skip ?_
      refine Wp.seq ?_
      refine Wp.sr [] ?_
      refine Wp.cf (B := (decide ((x.kind : Int) = 9))) (by simp [h7]) ?_
      refine Wp.skip ?_
      refine Wp.sr [] ?_
      refine Wp.ret ?_
      refine fin_r (.ag [(.sc (.int .i64 x.kind)), (.sc (.string ⟨#[]⟩)), (.sc (.string ⟨#[]⟩)), (.sc (.string ⟨#[]⟩)), (.sc (.int .i64 x.type.kind)), (.sc (.string x.type.cls)), (.sc (.int .i64 x.type.n)), (.sc (.int .i64 x.type.o0.kind)), (.sc (.int .i64 x.type.o0.n)), (.sc (.int .i64 x.type.o1.kind)), (.sc (.int .i64 x.type.o1.n)), (.sc (.int .i64 x.type.o2.kind)), (.sc (.int .i64 x.type.o2.n)), (.sc (.int .i64 x.type.o3.kind)), (.sc (.int .i64 x.type.o3.n)), (.sc (.int .i64 x.e.kind)), (.sc (.int .i64 x.e.num)), (.sc (.string x.e.name)), (.ls none (List.map Pn.encX x.e.kids)), (.ls none (List.map Pn.encX x.args)), (.ls none (List.map Pn.encS x.body)), (.ls none (List.map Pn.encS x.els)), (.sc (.int .i64 x.pos))]) ?_
      rw [Pn.encS_eq]
      simp [Pn.blX, Pn.blY, Pn.blN, Pn.blT, Pn.blE, Pn.noT, Pn.noX, Pn.Xp.kind, Pn.Xp.num, Pn.Xp.name, Pn.Xp.kids, Pn.bl_kind, Pn.bl_x, Pn.bl_y, Pn.bl_name, Pn.bl_type, Pn.bl_e, Pn.bl_args, Pn.bl_body, Pn.bl_els, Pn.bl_pos, h6, h7]
      all_goals exact ⟨rfl, rfl⟩
    · skip
      by_cases h8 : (x.kind : Int) = 4
      · skip
        refine Wp.sr [.g (show (decide ((x.kind : Int) = 1)) = false from (by simp [h6])), .g (show (decide ((x.kind : Int) = 2)) = false from (by simp [h7])), .g (show (decide ((x.kind : Int) = 4)) = true from (by simp [h8])), .g gT, .g gT] ?_
        refine Wp.ct (B := true) rfl ?_
        refine Wp.rg [] ?_
        refine Wp.seq ?_
        refine Wp.sr [.g (show (decide ((x.kind : Int) = 2)) = false from (by simp [h7])), .g (show (decide ((x.kind : Int) = 3)) = false from (by simp [h8])), .g (show (decide ((x.kind : Int) = 4)) = true from (by simp [h8])), .g gT] ?_
        refine Wp.ct (B := true) rfl ?_
        refine Wp.rg [] ?_
        refine Wp.seq ?_
        refine Wp.sr [.g (show (decide ((x.kind : Int) = 2)) = false from (by simp [h7])), .g (show (decide ((x.kind : Int) = 3)) = false from (by simp [h8]))] ?_
        refine Wp.ct (B := (decide ((x.kind : Int) = 4))) (by simp [h8]) ?_
        refine Wp.rg [] ?_
        refine Wp.seq ?_
        refine Wp.sr [.g (show (decide ((x.kind : Int) = 5)) = false from (by simp [h8]))] ?_
        refine Wp.cf (B := (decide ((x.kind : Int) = 6))) (by simp [h8]) ?_
        refine Wp.skip ?_
        refine Wp.seq ?_
        refine Wp.sr [.g (show (decide ((x.kind : Int) = 1)) = false from (by simp [h6])), .g (show (decide ((x.kind : Int) = 3)) = false from (by simp [h8])), .g (show (decide ((x.kind : Int) = 6)) = false from (by simp [h8])), .g (show (decide ((x.kind : Int) = 9)) = false from (by simp [h8])), .g (show (decide ((x.kind : Int) = 10)) = false from (by simp [h8]))] ?_
        refine Wp.cf (B := (decide ((x.kind : Int) = 11))) (by simp [h8]) ?_
        refine Wp.skip ?_
        refine Wp.seq ?_
        refine Wp.sr [] ?_
        refine Wp.ct (B := (decide ((x.kind : Int) = 4))) (by simp [h8]) ?_
        refine Wp.rg [] ?_
        refine Wp.seq ?_
        refine Wp.sr [.g (show (decide ((x.kind : Int) = 9)) = false from (by simp [h8]))] ?_
        refine Wp.cf (B := (decide ((x.kind : Int) = 10))) (by simp [h8]) ?_
        refine Wp.skip ?_
        refine Wp.seq ?_
        refine Wp.sr [] ?_
        refine Wp.cf (B := (decide ((x.kind : Int) = 9))) (by simp [h8]) ?_
        refine Wp.skip ?_
        refine Wp.sr [] ?_
        refine Wp.ret ?_
        refine fin_r (.ag [(.sc (.int .i64 x.kind)), (.sc (.string ⟨#[]⟩)), (.sc (.string ⟨#[]⟩)), (.sc (.string ⟨#[]⟩)), (.sc (.int .i64 x.type.kind)), (.sc (.string x.type.cls)), (.sc (.int .i64 x.type.n)), (.sc (.int .i64 x.type.o0.kind)), (.sc (.int .i64 x.type.o0.n)), (.sc (.int .i64 x.type.o1.kind)), (.sc (.int .i64 x.type.o1.n)), (.sc (.int .i64 x.type.o2.kind)), (.sc (.int .i64 x.type.o2.n)), (.sc (.int .i64 x.type.o3.kind)), (.sc (.int .i64 x.type.o3.n)), (.sc (.int .i64 x.e.kind)), (.sc (.int .i64 x.e.num)), (.sc (.string x.e.name)), (.ls none (List.map Pn.encX x.e.kids)), (.ls none []), (.ls none (List.map Pn.encS x.body)), (.ls none (List.map Pn.encS x.els)), (.sc (.int .i64 x.pos))]) ?_
        rw [Pn.encS_eq]
        simp [Pn.blX, Pn.blY, Pn.blN, Pn.blT, Pn.blE, Pn.noT, Pn.noX, Pn.Xp.kind, Pn.Xp.num, Pn.Xp.name, Pn.Xp.kids, Pn.bl_kind, Pn.bl_x, Pn.bl_y, Pn.bl_name, Pn.bl_type, Pn.bl_e, Pn.bl_args, Pn.bl_body, Pn.bl_els, Pn.bl_pos, h6, h7, h8]
        all_goals exact ⟨rfl, rfl⟩
      · skip
        by_cases h9 : (x.kind : Int) = 5
        · skip
          refine Wp.sr [.g (show (decide ((x.kind : Int) = 1)) = false from (by simp [h6])), .g (show (decide ((x.kind : Int) = 2)) = false from (by simp [h7])), .g (show (decide ((x.kind : Int) = 4)) = false from (by simp [h8])), .g (show (decide ((x.kind : Int) = 5)) = true from (by simp [h9])), .g gT] ?_
          refine Wp.ct (B := true) rfl ?_
          refine Wp.rg [] ?_
          refine Wp.seq ?_
          refine Wp.sr [.g (show (decide ((x.kind : Int) = 2)) = false from (by simp [h7])), .g (show (decide ((x.kind : Int) = 3)) = false from (by simp [h9])), .g (show (decide ((x.kind : Int) = 4)) = false from (by simp [h8])), .g (show (decide ((x.kind : Int) = 7)) = false from (by simp [h9]))] ?_
          refine Wp.cf (B := (decide ((x.kind : Int) = 8))) (by simp [h9]) ?_
          refine Wp.skip ?_
          refine Wp.seq ?_
          refine Wp.sr [.g (show (decide ((x.kind : Int) = 2)) = false from (by simp [h7])), .g (show (decide ((x.kind : Int) = 3)) = false from (by simp [h9]))] ?_
          refine Wp.cf (B := (decide ((x.kind : Int) = 4))) (by simp [h8]) ?_
          refine Wp.skip ?_
          refine Wp.seq ?_
          refine Wp.sr [.g (show (decide ((x.kind : Int) = 5)) = true from (by simp [h9]))] ?_
          refine Wp.ct (B := true) rfl ?_
          refine Wp.rg [] ?_
          refine Wp.seq ?_
          refine Wp.sr [.g (show (decide ((x.kind : Int) = 1)) = false from (by simp [h6])), .g (show (decide ((x.kind : Int) = 3)) = false from (by simp [h9])), .g (show (decide ((x.kind : Int) = 6)) = false from (by simp [h9])), .g (show (decide ((x.kind : Int) = 9)) = false from (by simp [h9])), .g (show (decide ((x.kind : Int) = 10)) = false from (by simp [h9]))] ?_
          refine Wp.cf (B := (decide ((x.kind : Int) = 11))) (by simp [h9]) ?_
          refine Wp.skip ?_
          refine Wp.seq ?_
          refine Wp.sr [] ?_
          refine Wp.cf (B := (decide ((x.kind : Int) = 4))) (by simp [h8]) ?_
          refine Wp.skip ?_
          refine Wp.seq ?_
          refine Wp.sr [.g (show (decide ((x.kind : Int) = 9)) = false from (by simp [h9]))] ?_
          refine Wp.cf (B := (decide ((x.kind : Int) = 10))) (by simp [h9]) ?_
          refine Wp.skip ?_
          refine Wp.seq ?_
          refine Wp.sr [] ?_
          refine Wp.cf (B := (decide ((x.kind : Int) = 9))) (by simp [h9]) ?_
          refine Wp.skip ?_
          refine Wp.sr [] ?_
          refine Wp.ret ?_
          refine fin_r (.ag [(.sc (.int .i64 x.kind)), (.sc (.string ⟨#[]⟩)), (.sc (.string x.y)), (.sc (.string x.name)), (.sc (.int .i64 0)), (.sc (.string ⟨#[]⟩)), (.sc (.int .i64 0)), (.sc (.int .i64 0)), (.sc (.int .i64 0)), (.sc (.int .i64 0)), (.sc (.int .i64 0)), (.sc (.int .i64 0)), (.sc (.int .i64 0)), (.sc (.int .i64 0)), (.sc (.int .i64 0)), (.sc (.int .i64 x.e.kind)), (.sc (.int .i64 x.e.num)), (.sc (.string x.e.name)), (.ls none (List.map Pn.encX x.e.kids)), (.ls none (List.map Pn.encX x.args)), (.ls none (List.map Pn.encS x.body)), (.ls none (List.map Pn.encS x.els)), (.sc (.int .i64 x.pos))]) ?_
          rw [Pn.encS_eq]
          simp [Pn.blX, Pn.blY, Pn.blN, Pn.blT, Pn.blE, Pn.noT, Pn.noX, Pn.Xp.kind, Pn.Xp.num, Pn.Xp.name, Pn.Xp.kids, Pn.bl_kind, Pn.bl_x, Pn.bl_y, Pn.bl_name, Pn.bl_type, Pn.bl_e, Pn.bl_args, Pn.bl_body, Pn.bl_els, Pn.bl_pos, h6, h7, h8, h9]
          all_goals exact ⟨rfl, rfl⟩
        · skip
          by_cases h10 : (x.kind : Int) = 6
          · skip
            refine Wp.sr [.g (show (decide ((x.kind : Int) = 1)) = false from (by simp [h6])), .g (show (decide ((x.kind : Int) = 2)) = false from (by simp [h7])), .g (show (decide ((x.kind : Int) = 4)) = false from (by simp [h8])), .g (show (decide ((x.kind : Int) = 5)) = false from (by simp [h9])), .g (show (decide ((x.kind : Int) = 6)) = true from (by simp [h10]))] ?_
            refine Wp.ct (B := true) rfl ?_
            refine Wp.rg [] ?_
            refine Wp.seq ?_
            refine Wp.sr [.g (show (decide ((x.kind : Int) = 2)) = false from (by simp [h7])), .g (show (decide ((x.kind : Int) = 3)) = false from (by simp [h10])), .g (show (decide ((x.kind : Int) = 4)) = false from (by simp [h8])), .g (show (decide ((x.kind : Int) = 7)) = false from (by simp [h10]))] ?_
            refine Wp.cf (B := (decide ((x.kind : Int) = 8))) (by simp [h10]) ?_
            refine Wp.skip ?_
            refine Wp.seq ?_
            refine Wp.sr [.g (show (decide ((x.kind : Int) = 2)) = false from (by simp [h7])), .g (show (decide ((x.kind : Int) = 3)) = false from (by simp [h10]))] ?_
            refine Wp.cf (B := (decide ((x.kind : Int) = 4))) (by simp [h8]) ?_
            refine Wp.skip ?_
            refine Wp.seq ?_
            refine Wp.sr [.g (show (decide ((x.kind : Int) = 5)) = false from (by simp [h9]))] ?_
            refine Wp.ct (B := (decide ((x.kind : Int) = 6))) (by simp [h10]) ?_
            refine Wp.rg [] ?_
            refine Wp.seq ?_
            refine Wp.sr [.g (show (decide ((x.kind : Int) = 1)) = false from (by simp [h6])), .g (show (decide ((x.kind : Int) = 3)) = false from (by simp [h10])), .g (show (decide ((x.kind : Int) = 6)) = true from (by simp [h10])), .g gT, .g gT] ?_
            refine Wp.ct (B := true) rfl ?_
            refine Wp.rg [] ?_
            refine Wp.seq ?_
            refine Wp.sr [] ?_
            refine Wp.cf (B := (decide ((x.kind : Int) = 4))) (by simp [h8]) ?_
            refine Wp.skip ?_
            refine Wp.seq ?_
            refine Wp.sr [.g (show (decide ((x.kind : Int) = 9)) = false from (by simp [h10]))] ?_
            refine Wp.cf (B := (decide ((x.kind : Int) = 10))) (by simp [h10]) ?_
            refine Wp.skip ?_
            refine Wp.seq ?_
            refine Wp.sr [] ?_
            refine Wp.cf (B := (decide ((x.kind : Int) = 9))) (by simp [h10]) ?_
            refine Wp.skip ?_
            refine Wp.sr [] ?_
            refine Wp.ret ?_
            refine fin_r (.ag [(.sc (.int .i64 x.kind)), (.sc (.string ⟨#[]⟩)), (.sc (.string x.y)), (.sc (.string x.name)), (.sc (.int .i64 0)), (.sc (.string ⟨#[]⟩)), (.sc (.int .i64 0)), (.sc (.int .i64 0)), (.sc (.int .i64 0)), (.sc (.int .i64 0)), (.sc (.int .i64 0)), (.sc (.int .i64 0)), (.sc (.int .i64 0)), (.sc (.int .i64 0)), (.sc (.int .i64 0)), (.sc (.int .i64 0)), (.sc (.int .i64 0)), (.sc (.string ⟨#[]⟩)), (.ls none []), (.ls none (List.map Pn.encX x.args)), (.ls none (List.map Pn.encS x.body)), (.ls none (List.map Pn.encS x.els)), (.sc (.int .i64 x.pos))]) ?_
            rw [Pn.encS_eq]
            simp [Pn.blX, Pn.blY, Pn.blN, Pn.blT, Pn.blE, Pn.noT, Pn.noX, Pn.Xp.kind, Pn.Xp.num, Pn.Xp.name, Pn.Xp.kids, Pn.bl_kind, Pn.bl_x, Pn.bl_y, Pn.bl_name, Pn.bl_type, Pn.bl_e, Pn.bl_args, Pn.bl_body, Pn.bl_els, Pn.bl_pos, h6, h7, h8, h9, h10]
            all_goals exact ⟨rfl, rfl⟩
          · skip
            refine Wp.sr [.g (show (decide ((x.kind : Int) = 1)) = false from (by simp [h6])), .g (show (decide ((x.kind : Int) = 2)) = false from (by simp [h7])), .g (show (decide ((x.kind : Int) = 4)) = false from (by simp [h8])), .g (show (decide ((x.kind : Int) = 5)) = false from (by simp [h9])), .g (show (decide ((x.kind : Int) = 6)) = false from (by simp [h10]))] ?_
            refine Wp.cd (decide ((x.kind : Int) = 7)) (fun h11 => ?_) (fun h11 => ?_)
            · have h11 := of_decide_eq_true h11
              refine Wp.rg [] ?_
              refine Wp.seq ?_
              refine Wp.sr [.g (show (decide ((x.kind : Int) = 2)) = false from (by simp [h7])), .g (show (decide ((x.kind : Int) = 3)) = false from (by simp [h11])), .g (show (decide ((x.kind : Int) = 4)) = false from (by simp [h8])), .g (show (decide ((x.kind : Int) = 7)) = true from (by simp [h11]))] ?_
              refine Wp.ct (B := true) rfl ?_
              refine Wp.rg [] ?_
              refine Wp.seq ?_
              refine Wp.sr [.g (show (decide ((x.kind : Int) = 2)) = false from (by simp [h7])), .g (show (decide ((x.kind : Int) = 3)) = false from (by simp [h11]))] ?_
              refine Wp.cf (B := (decide ((x.kind : Int) = 4))) (by simp [h8]) ?_
              refine Wp.skip ?_
              refine Wp.seq ?_
              refine Wp.sr [.g (show (decide ((x.kind : Int) = 5)) = false from (by simp [h9]))] ?_
              refine Wp.cf (B := (decide ((x.kind : Int) = 6))) (by simp [h10]) ?_
              refine Wp.skip ?_
              refine Wp.seq ?_
              refine Wp.sr [.g (show (decide ((x.kind : Int) = 1)) = false from (by simp [h6])), .g (show (decide ((x.kind : Int) = 3)) = false from (by simp [h11])), .g (show (decide ((x.kind : Int) = 6)) = false from (by simp [h10])), .g (show (decide ((x.kind : Int) = 9)) = false from (by simp [h11])), .g (show (decide ((x.kind : Int) = 10)) = false from (by simp [h11]))] ?_
              refine Wp.cf (B := (decide ((x.kind : Int) = 11))) (by simp [h11]) ?_
              refine Wp.skip ?_
              refine Wp.seq ?_
              refine Wp.sr [] ?_
              refine Wp.cf (B := (decide ((x.kind : Int) = 4))) (by simp [h8]) ?_
              refine Wp.skip ?_
              refine Wp.seq ?_
              refine Wp.sr [.g (show (decide ((x.kind : Int) = 9)) = false from (by simp [h11]))] ?_
              refine Wp.cf (B := (decide ((x.kind : Int) = 10))) (by simp [h11]) ?_
              refine Wp.skip ?_
              refine Wp.seq ?_
              refine Wp.sr [] ?_
              refine Wp.cf (B := (decide ((x.kind : Int) = 9))) (by simp [h11]) ?_
              refine Wp.skip ?_
              refine Wp.sr [] ?_
              refine Wp.ret ?_
              refine fin_r (.ag [(.sc (.int .i64 x.kind)), (.sc (.string ⟨#[]⟩)), (.sc (.string ⟨#[]⟩)), (.sc (.string x.name)), (.sc (.int .i64 x.type.kind)), (.sc (.string x.type.cls)), (.sc (.int .i64 x.type.n)), (.sc (.int .i64 x.type.o0.kind)), (.sc (.int .i64 x.type.o0.n)), (.sc (.int .i64 x.type.o1.kind)), (.sc (.int .i64 x.type.o1.n)), (.sc (.int .i64 x.type.o2.kind)), (.sc (.int .i64 x.type.o2.n)), (.sc (.int .i64 x.type.o3.kind)), (.sc (.int .i64 x.type.o3.n)), (.sc (.int .i64 x.e.kind)), (.sc (.int .i64 x.e.num)), (.sc (.string x.e.name)), (.ls none (List.map Pn.encX x.e.kids)), (.ls none (List.map Pn.encX x.args)), (.ls none (List.map Pn.encS x.body)), (.ls none (List.map Pn.encS x.els)), (.sc (.int .i64 x.pos))]) ?_
              rw [Pn.encS_eq]
              simp [Pn.blX, Pn.blY, Pn.blN, Pn.blT, Pn.blE, Pn.noT, Pn.noX, Pn.Xp.kind, Pn.Xp.num, Pn.Xp.name, Pn.Xp.kids, Pn.bl_kind, Pn.bl_x, Pn.bl_y, Pn.bl_name, Pn.bl_type, Pn.bl_e, Pn.bl_args, Pn.bl_body, Pn.bl_els, Pn.bl_pos, h6, h7, h8, h9, h10, h11]
              all_goals exact ⟨rfl, rfl⟩
            · have h11 := of_decide_eq_false h11
              refine Wp.skip ?_
              refine Wp.seq ?_
              by_cases h12 : (x.kind : Int) = 3
              · skip
                refine Wp.sr [.g (show (decide ((x.kind : Int) = 2)) = false from (by simp [h7])), .g (show (decide ((x.kind : Int) = 3)) = true from (by simp [h12])), .g gT, .g gT] ?_
                refine Wp.ct (B := true) rfl ?_
                refine Wp.rg [] ?_
                refine Wp.seq ?_
                refine Wp.sr [.g (show (decide ((x.kind : Int) = 2)) = false from (by simp [h7])), .g (show (decide ((x.kind : Int) = 3)) = true from (by simp [h12]))] ?_
                refine Wp.ct (B := true) rfl ?_
                refine Wp.rg [] ?_
                refine Wp.seq ?_
                refine Wp.sr [.g (show (decide ((x.kind : Int) = 5)) = false from (by simp [h9]))] ?_
                refine Wp.cf (B := (decide ((x.kind : Int) = 6))) (by simp [h10]) ?_
                refine Wp.skip ?_
                refine Wp.seq ?_
                refine Wp.sr [.g (show (decide ((x.kind : Int) = 1)) = false from (by simp [h6])), .g (show (decide ((x.kind : Int) = 3)) = true from (by simp [h12])), .g gT, .g gT, .g gT] ?_
                refine Wp.ct (B := true) rfl ?_
                refine Wp.rg [] ?_
                refine Wp.seq ?_
                refine Wp.sr [] ?_
                refine Wp.cf (B := (decide ((x.kind : Int) = 4))) (by simp [h8]) ?_
                refine Wp.skip ?_
                refine Wp.seq ?_
                refine Wp.sr [.g (show (decide ((x.kind : Int) = 9)) = false from (by simp [h12]))] ?_
                refine Wp.cf (B := (decide ((x.kind : Int) = 10))) (by simp [h12]) ?_
                refine Wp.skip ?_
                refine Wp.seq ?_
                refine Wp.sr [] ?_
                refine Wp.cf (B := (decide ((x.kind : Int) = 9))) (by simp [h12]) ?_
                refine Wp.skip ?_
                refine Wp.sr [] ?_
                refine Wp.ret ?_
                refine fin_r (.ag [(.sc (.int .i64 x.kind)), (.sc (.string x.x)), (.sc (.string ⟨#[]⟩)), (.sc (.string ⟨#[]⟩)), (.sc (.int .i64 x.type.kind)), (.sc (.string x.type.cls)), (.sc (.int .i64 x.type.n)), (.sc (.int .i64 x.type.o0.kind)), (.sc (.int .i64 x.type.o0.n)), (.sc (.int .i64 x.type.o1.kind)), (.sc (.int .i64 x.type.o1.n)), (.sc (.int .i64 x.type.o2.kind)), (.sc (.int .i64 x.type.o2.n)), (.sc (.int .i64 x.type.o3.kind)), (.sc (.int .i64 x.type.o3.n)), (.sc (.int .i64 0)), (.sc (.int .i64 0)), (.sc (.string ⟨#[]⟩)), (.ls none []), (.ls none (List.map Pn.encX x.args)), (.ls none (List.map Pn.encS x.body)), (.ls none (List.map Pn.encS x.els)), (.sc (.int .i64 x.pos))]) ?_
                rw [Pn.encS_eq]
                simp [Pn.blX, Pn.blY, Pn.blN, Pn.blT, Pn.blE, Pn.noT, Pn.noX, Pn.Xp.kind, Pn.Xp.num, Pn.Xp.name, Pn.Xp.kids, Pn.bl_kind, Pn.bl_x, Pn.bl_y, Pn.bl_name, Pn.bl_type, Pn.bl_e, Pn.bl_args, Pn.bl_body, Pn.bl_els, Pn.bl_pos, h6, h7, h8, h9, h10, h11, h12]
                all_goals exact ⟨rfl, rfl⟩
              · skip
                refine Wp.sr [.g (show (decide ((x.kind : Int) = 2)) = false from (by simp [h7])), .g (show (decide ((x.kind : Int) = 3)) = false from (by simp [h12])), .g (show (decide ((x.kind : Int) = 4)) = false from (by simp [h8])), .g (show (decide ((x.kind : Int) = 7)) = false from (by simp [h11]))] ?_
                refine Wp.cd (decide ((x.kind : Int) = 8)) (fun h13 => ?_) (fun h13 => ?_)
                · have h13 := of_decide_eq_true h13
                  refine Wp.rg [] ?_
                  refine Wp.seq ?_
                  refine Wp.sr [.g (show (decide ((x.kind : Int) = 2)) = false from (by simp [h7])), .g (show (decide ((x.kind : Int) = 3)) = false from (by simp [h12]))] ?_
                  refine Wp.cf (B := (decide ((x.kind : Int) = 4))) (by simp [h8]) ?_
                  refine Wp.skip ?_
                  refine Wp.seq ?_
                  refine Wp.sr [.g (show (decide ((x.kind : Int) = 5)) = false from (by simp [h9]))] ?_
                  refine Wp.cf (B := (decide ((x.kind : Int) = 6))) (by simp [h10]) ?_
                  refine Wp.skip ?_
                  refine Wp.seq ?_
                  refine Wp.sr [.g (show (decide ((x.kind : Int) = 1)) = false from (by simp [h6])), .g (show (decide ((x.kind : Int) = 3)) = false from (by simp [h12])), .g (show (decide ((x.kind : Int) = 6)) = false from (by simp [h10])), .g (show (decide ((x.kind : Int) = 9)) = false from (by simp [h13])), .g (show (decide ((x.kind : Int) = 10)) = false from (by simp [h13]))] ?_
                  refine Wp.cf (B := (decide ((x.kind : Int) = 11))) (by simp [h13]) ?_
                  refine Wp.skip ?_
                  refine Wp.seq ?_
                  refine Wp.sr [] ?_
                  refine Wp.cf (B := (decide ((x.kind : Int) = 4))) (by simp [h8]) ?_
                  refine Wp.skip ?_
                  refine Wp.seq ?_
                  refine Wp.sr [.g (show (decide ((x.kind : Int) = 9)) = false from (by simp [h13]))] ?_
                  refine Wp.cf (B := (decide ((x.kind : Int) = 10))) (by simp [h13]) ?_
                  refine Wp.skip ?_
                  refine Wp.seq ?_
                  refine Wp.sr [] ?_
                  refine Wp.cf (B := (decide ((x.kind : Int) = 9))) (by simp [h13]) ?_
                  refine Wp.skip ?_
                  refine Wp.sr [] ?_
                  refine Wp.ret ?_
                  refine fin_r (.ag [(.sc (.int .i64 x.kind)), (.sc (.string x.x)), (.sc (.string ⟨#[]⟩)), (.sc (.string x.name)), (.sc (.int .i64 x.type.kind)), (.sc (.string x.type.cls)), (.sc (.int .i64 x.type.n)), (.sc (.int .i64 x.type.o0.kind)), (.sc (.int .i64 x.type.o0.n)), (.sc (.int .i64 x.type.o1.kind)), (.sc (.int .i64 x.type.o1.n)), (.sc (.int .i64 x.type.o2.kind)), (.sc (.int .i64 x.type.o2.n)), (.sc (.int .i64 x.type.o3.kind)), (.sc (.int .i64 x.type.o3.n)), (.sc (.int .i64 x.e.kind)), (.sc (.int .i64 x.e.num)), (.sc (.string x.e.name)), (.ls none (List.map Pn.encX x.e.kids)), (.ls none (List.map Pn.encX x.args)), (.ls none (List.map Pn.encS x.body)), (.ls none (List.map Pn.encS x.els)), (.sc (.int .i64 x.pos))]) ?_
                  rw [Pn.encS_eq]
                  simp [Pn.blX, Pn.blY, Pn.blN, Pn.blT, Pn.blE, Pn.noT, Pn.noX, Pn.Xp.kind, Pn.Xp.num, Pn.Xp.name, Pn.Xp.kids, Pn.bl_kind, Pn.bl_x, Pn.bl_y, Pn.bl_name, Pn.bl_type, Pn.bl_e, Pn.bl_args, Pn.bl_body, Pn.bl_els, Pn.bl_pos, h6, h7, h8, h9, h10, h11, h12, h13]
                  all_goals exact ⟨rfl, rfl⟩
                · have h13 := of_decide_eq_false h13
                  refine Wp.skip ?_
                  refine Wp.seq ?_
                  refine Wp.sr [.g (show (decide ((x.kind : Int) = 2)) = false from (by simp [h7])), .g (show (decide ((x.kind : Int) = 3)) = false from (by simp [h12]))] ?_
                  refine Wp.cf (B := (decide ((x.kind : Int) = 4))) (by simp [h8]) ?_
                  refine Wp.skip ?_
                  refine Wp.seq ?_
                  refine Wp.sr [.g (show (decide ((x.kind : Int) = 5)) = false from (by simp [h9]))] ?_
                  refine Wp.cf (B := (decide ((x.kind : Int) = 6))) (by simp [h10]) ?_
                  refine Wp.skip ?_
                  refine Wp.seq ?_
                  by_cases h14 : (x.kind : Int) = 9
                  · skip
                    refine Wp.sr [.g (show (decide ((x.kind : Int) = 1)) = false from (by simp [h6])), .g (show (decide ((x.kind : Int) = 3)) = false from (by simp [h12])), .g (show (decide ((x.kind : Int) = 6)) = false from (by simp [h10])), .g (show (decide ((x.kind : Int) = 9)) = true from (by simp [h14])), .g gT] ?_
                    refine Wp.ct (B := true) rfl ?_
                    refine Wp.rg [] ?_
                    refine Wp.seq ?_
                    refine Wp.sr [] ?_
                    refine Wp.cf (B := (decide ((x.kind : Int) = 4))) (by simp [h8]) ?_
                    refine Wp.skip ?_
                    refine Wp.seq ?_
                    refine Wp.sr [.g (show (decide ((x.kind : Int) = 9)) = true from (by simp [h14]))] ?_
                    refine Wp.ct (B := true) rfl ?_
                    refine Wp.rg [] ?_
                    refine Wp.seq ?_
                    refine Wp.sr [] ?_
                    refine Wp.ct (B := (decide ((x.kind : Int) = 9))) (by simp [h14]) ?_
                    refine Wp.rg [] ?_
                    refine Wp.sr [] ?_
                    refine Wp.ret ?_
                    refine fin_r (.ag [(.sc (.int .i64 x.kind)), (.sc (.string x.x)), (.sc (.string x.y)), (.sc (.string x.name)), (.sc (.int .i64 x.type.kind)), (.sc (.string x.type.cls)), (.sc (.int .i64 x.type.n)), (.sc (.int .i64 x.type.o0.kind)), (.sc (.int .i64 x.type.o0.n)), (.sc (.int .i64 x.type.o1.kind)), (.sc (.int .i64 x.type.o1.n)), (.sc (.int .i64 x.type.o2.kind)), (.sc (.int .i64 x.type.o2.n)), (.sc (.int .i64 x.type.o3.kind)), (.sc (.int .i64 x.type.o3.n)), (.sc (.int .i64 0)), (.sc (.int .i64 0)), (.sc (.string ⟨#[]⟩)), (.ls none []), (.ls none (List.map Pn.encX x.args)), (.ls none []), (.ls none []), (.sc (.int .i64 x.pos))]) ?_
                    rw [Pn.encS_eq]
                    simp [Pn.blX, Pn.blY, Pn.blN, Pn.blT, Pn.blE, Pn.noT, Pn.noX, Pn.Xp.kind, Pn.Xp.num, Pn.Xp.name, Pn.Xp.kids, Pn.bl_kind, Pn.bl_x, Pn.bl_y, Pn.bl_name, Pn.bl_type, Pn.bl_e, Pn.bl_args, Pn.bl_body, Pn.bl_els, Pn.bl_pos, h6, h7, h8, h9, h10, h11, h12, h13, h14]
                    all_goals exact ⟨rfl, rfl⟩
                  · skip
                    by_cases h15 : (x.kind : Int) = 10
                    · skip
                      refine Wp.sr [.g (show (decide ((x.kind : Int) = 1)) = false from (by simp [h6])), .g (show (decide ((x.kind : Int) = 3)) = false from (by simp [h12])), .g (show (decide ((x.kind : Int) = 6)) = false from (by simp [h10])), .g (show (decide ((x.kind : Int) = 9)) = false from (by simp [h14])), .g (show (decide ((x.kind : Int) = 10)) = true from (by simp [h15]))] ?_
                      refine Wp.ct (B := true) rfl ?_
                      refine Wp.rg [] ?_
                      refine Wp.seq ?_
                      refine Wp.sr [] ?_
                      refine Wp.cf (B := (decide ((x.kind : Int) = 4))) (by simp [h8]) ?_
                      refine Wp.skip ?_
                      refine Wp.seq ?_
                      refine Wp.sr [.g (show (decide ((x.kind : Int) = 9)) = false from (by simp [h14]))] ?_
                      refine Wp.ct (B := (decide ((x.kind : Int) = 10))) (by simp [h15]) ?_
                      refine Wp.rg [] ?_
                      refine Wp.seq ?_
                      refine Wp.sr [] ?_
                      refine Wp.cf (B := (decide ((x.kind : Int) = 9))) (by simp [h14]) ?_
                      refine Wp.skip ?_
                      refine Wp.sr [] ?_
                      refine Wp.ret ?_
                      refine fin_r (.ag [(.sc (.int .i64 x.kind)), (.sc (.string x.x)), (.sc (.string x.y)), (.sc (.string x.name)), (.sc (.int .i64 x.type.kind)), (.sc (.string x.type.cls)), (.sc (.int .i64 x.type.n)), (.sc (.int .i64 x.type.o0.kind)), (.sc (.int .i64 x.type.o0.n)), (.sc (.int .i64 x.type.o1.kind)), (.sc (.int .i64 x.type.o1.n)), (.sc (.int .i64 x.type.o2.kind)), (.sc (.int .i64 x.type.o2.n)), (.sc (.int .i64 x.type.o3.kind)), (.sc (.int .i64 x.type.o3.n)), (.sc (.int .i64 0)), (.sc (.int .i64 0)), (.sc (.string ⟨#[]⟩)), (.ls none []), (.ls none (List.map Pn.encX x.args)), (.ls none []), (.ls none (List.map Pn.encS x.els)), (.sc (.int .i64 x.pos))]) ?_
                      rw [Pn.encS_eq]
                      simp [Pn.blX, Pn.blY, Pn.blN, Pn.blT, Pn.blE, Pn.noT, Pn.noX, Pn.Xp.kind, Pn.Xp.num, Pn.Xp.name, Pn.Xp.kids, Pn.bl_kind, Pn.bl_x, Pn.bl_y, Pn.bl_name, Pn.bl_type, Pn.bl_e, Pn.bl_args, Pn.bl_body, Pn.bl_els, Pn.bl_pos, h6, h7, h8, h9, h10, h11, h12, h13, h14, h15]
                      all_goals exact ⟨rfl, rfl⟩
                    · skip
                      refine Wp.sr [.g (show (decide ((x.kind : Int) = 1)) = false from (by simp [h6])), .g (show (decide ((x.kind : Int) = 3)) = false from (by simp [h12])), .g (show (decide ((x.kind : Int) = 6)) = false from (by simp [h10])), .g (show (decide ((x.kind : Int) = 9)) = false from (by simp [h14])), .g (show (decide ((x.kind : Int) = 10)) = false from (by simp [h15]))] ?_
                      refine Wp.cd (decide ((x.kind : Int) = 11)) (fun h16 => ?_) (fun h16 => ?_)
                      · have h16 := of_decide_eq_true h16
                        refine Wp.rg [] ?_
                        refine Wp.seq ?_
                        refine Wp.sr [] ?_
                        refine Wp.cf (B := (decide ((x.kind : Int) = 4))) (by simp [h8]) ?_
                        refine Wp.skip ?_
                        refine Wp.seq ?_
                        refine Wp.sr [.g (show (decide ((x.kind : Int) = 9)) = false from (by simp [h14]))] ?_
                        refine Wp.cf (B := (decide ((x.kind : Int) = 10))) (by simp [h15]) ?_
                        refine Wp.skip ?_
                        refine Wp.seq ?_
                        refine Wp.sr [] ?_
                        refine Wp.cf (B := (decide ((x.kind : Int) = 9))) (by simp [h14]) ?_
                        refine Wp.skip ?_
                        refine Wp.sr [] ?_
                        refine Wp.ret ?_
                        refine fin_r (.ag [(.sc (.int .i64 x.kind)), (.sc (.string x.x)), (.sc (.string x.y)), (.sc (.string x.name)), (.sc (.int .i64 x.type.kind)), (.sc (.string x.type.cls)), (.sc (.int .i64 x.type.n)), (.sc (.int .i64 x.type.o0.kind)), (.sc (.int .i64 x.type.o0.n)), (.sc (.int .i64 x.type.o1.kind)), (.sc (.int .i64 x.type.o1.n)), (.sc (.int .i64 x.type.o2.kind)), (.sc (.int .i64 x.type.o2.n)), (.sc (.int .i64 x.type.o3.kind)), (.sc (.int .i64 x.type.o3.n)), (.sc (.int .i64 0)), (.sc (.int .i64 0)), (.sc (.string ⟨#[]⟩)), (.ls none []), (.ls none (List.map Pn.encX x.args)), (.ls none (List.map Pn.encS x.body)), (.ls none (List.map Pn.encS x.els)), (.sc (.int .i64 x.pos))]) ?_
                        rw [Pn.encS_eq]
                        simp [Pn.blX, Pn.blY, Pn.blN, Pn.blT, Pn.blE, Pn.noT, Pn.noX, Pn.Xp.kind, Pn.Xp.num, Pn.Xp.name, Pn.Xp.kids, Pn.bl_kind, Pn.bl_x, Pn.bl_y, Pn.bl_name, Pn.bl_type, Pn.bl_e, Pn.bl_args, Pn.bl_body, Pn.bl_els, Pn.bl_pos, h6, h7, h8, h9, h10, h11, h12, h13, h14, h15, h16]
                        all_goals exact ⟨rfl, rfl⟩
                      · have h16 := of_decide_eq_false h16
                        refine Wp.skip ?_
                        refine Wp.seq ?_
                        refine Wp.sr [] ?_
                        refine Wp.cf (B := (decide ((x.kind : Int) = 4))) (by simp [h8]) ?_
                        refine Wp.skip ?_
                        refine Wp.seq ?_
                        refine Wp.sr [.g (show (decide ((x.kind : Int) = 9)) = false from (by simp [h14]))] ?_
                        refine Wp.cf (B := (decide ((x.kind : Int) = 10))) (by simp [h15]) ?_
                        refine Wp.skip ?_
                        refine Wp.seq ?_
                        refine Wp.sr [] ?_
                        refine Wp.cf (B := (decide ((x.kind : Int) = 9))) (by simp [h14]) ?_
                        refine Wp.skip ?_
                        refine Wp.sr [] ?_
                        refine Wp.ret ?_
                        refine fin_r (.ag (Pn.cS x)) ?_
                        rw [Pn.encS_eq]
                        simp [Pn.blX, Pn.blY, Pn.blN, Pn.blT, Pn.blE, Pn.noT, Pn.noX, Pn.Xp.kind, Pn.Xp.num, Pn.Xp.name, Pn.Xp.kids, Pn.bl_kind, Pn.bl_x, Pn.bl_y, Pn.bl_name, Pn.bl_type, Pn.bl_e, Pn.bl_args, Pn.bl_body, Pn.bl_els, Pn.bl_pos, h6, h7, h8, h9, h10, h11, h12, h13, h14, h15, h16]
                        all_goals exact ⟨rfl, rfl⟩
end Go.Proofs.YtjghgpmkepfdhaaGreatDoor
namespace Go.Proofs.YtjghgpmkepfdhaaGreatDoor
open Go.RowKit
set_option linter.unusedVariables false
set_option linter.unusedSimpArgs false
set_option maxRecDepth 100000
set_option maxHeartbeats 4000000
theorem only08 (x : Pn.Sm) (hb : x.args.length + x.body.length + x.els.length ≤ 4611686018427387904) : PCalls Tryz.prog 146 [(.ag (Pn.cS x))] (.sc (.bool (Pn.onlyS x))) := by
  have h1 := Pn.bl_la x
  have h2 := Pn.bl_lb x
  have h3 := Pn.bl_lc x
  refine pcalls_fine fun hfa => ?_
  have hR1 := hfa 0 _ rfl
  have hF2 : Fine (.ls none (List.map Pn.encX x.e.kids)) := hR1.at 18 rfl
  have hF2l := hF2.lenm
  have hF3 : Fine (.ls none (List.map Pn.encX x.args)) := hR1.at 19 rfl
  have hF3l := hF3.lenm
  have hF4 : Fine (.ls none (List.map Pn.encS x.body)) := hR1.at 20 rfl
  have hF4l := hF4.lenm
  have hF5 : Fine (.ls none (List.map Pn.encS x.els)) := hR1.at 21 rfl
  have hF5l := hF5.lenm
  refine pcalls_rf mixed Tryz.func146 rfl ?_
  refine Wp.sr [] ?_
  refine Wp.sr [.c (by have h := blank08 x; rw [Pn.encS_eq (Pn.blankS x)] at h; exact h)] ?_
  refine Wp.sr [.e (eqTy (Pn.blankS x).type (⟨0, ⟨#[]⟩, 0, ⟨0, 0⟩, ⟨0, 0⟩, ⟨0, 0⟩, ⟨0, 0⟩⟩ : Pn.Ty)), .c (sameX06 (Pn.blankS x).e (Pn.Xp.mk 0 0 ⟨#[]⟩ [])), .n (lenm Pn.encX (Pn.blankS x).args), .n (lenm Pn.encS (Pn.blankS x).body), .z (int_add (x := (((Pn.blankS x).args.length : Nat) : Int)) (y := (((Pn.blankS x).body.length : Nat) : Int)) (z := ((((Pn.blankS x).args.length + (Pn.blankS x).body.length) : Nat) : Int)) (by omega) (by omega) (by omega)), .n (lenm Pn.encS (Pn.blankS x).els), .z (int_add (x := ((((Pn.blankS x).args.length + (Pn.blankS x).body.length) : Nat) : Int)) (y := (((Pn.blankS x).els.length : Nat) : Int)) (z := (((((Pn.blankS x).args.length + (Pn.blankS x).body.length) + (Pn.blankS x).els.length) : Nat) : Int)) (by omega) (by omega) (by omega))] ?_
  refine Wp.ret ?_
  refine fin_r (.sc (.bool ((((((((decide ((x.kind : Int) ≥ 1)) && (decide ((x.kind : Int) ≤ 11))) && (decide ((Pn.blankS x).x = (⟨#[]⟩ : ByteArray)))) && (decide ((Pn.blankS x).y = (⟨#[]⟩ : ByteArray)))) && (decide ((Pn.blankS x).name = (⟨#[]⟩ : ByteArray)))) && (false ^^ (decide ((Pn.blankS x).type = (⟨0, ⟨#[]⟩, 0, ⟨0, 0⟩, ⟨0, 0⟩, ⟨0, 0⟩, ⟨0, 0⟩⟩ : Pn.Ty))))) && (Pn.sameX (Pn.blankS x).e (Pn.Xp.mk 0 0 ⟨#[]⟩ []))) && (decide (((((((Pn.blankS x).args.length + (Pn.blankS x).body.length) + (Pn.blankS x).els.length) : Nat) : Int) : Int) = 0))))) ?_
  unfold Pn.onlyS
  congr 2
  rw [Bool.eq_iff_iff]
  simp only [Bool.and_eq_true, decide_eq_true_eq, Bool.false_xor, and_assoc, ge_iff_le, Int.natCast_eq_zero]
  exact Iff.rfl
end Go.Proofs.YtjghgpmkepfdhaaGreatDoor
namespace Go.Proofs.YtjghgpmkepfdhaaGreatDoor
open Go.RowKit
set_option linter.unusedVariables false
set_option linter.unusedSimpArgs false
set_option maxRecDepth 100000
set_option maxHeartbeats 4000000
theorem tells08 (b : Low) (x : Pn.Sm) (hb : Pn.cntX x.e ≤ 4611686018427387904) (hc : Pn.cntXs x.args ≤ 4611686018427387904) : PCalls Tryz.prog 148 [(.ag (Pn.cS x))] (.sc (.bool (Pn.tellsS b.nm x))) := by
  refine pcalls_fine fun hfa => ?_
  have hR1 := hfa 0 _ rfl
  have hF2 : Fine (.ls none (List.map Pn.encX x.e.kids)) := hR1.at 18 rfl
  have hF2l := hF2.lenm
  have hF3 : Fine (.ls none (List.map Pn.encX x.args)) := hR1.at 19 rfl
  have hF3l := hF3.lenm
  have hF4 : Fine (.ls none (List.map Pn.encS x.body)) := hR1.at 20 rfl
  have hF4l := hF4.lenm
  have hF5 : Fine (.ls none (List.map Pn.encS x.els)) := hR1.at 21 rfl
  have hF5l := hF5.lenm
  refine pcalls_rf mixed Tryz.func148 rfl ?_
  refine Wp.sr [] ?_
  refine Wp.sr [] ?_
  refine Wp.sr [.c (sameX06 x.e (Pn.Xp.mk 0 0 ⟨#[]⟩ []))] ?_
  refine Wp.seq ?_
  refine Wp.sr [.c (right06 b x.e (by omega)), .n (lenm Pn.encX x.args)] ?_
  refine Wp.cd ((((!((((((decide ((x.kind : Int) = 2)) || (decide ((x.kind : Int) = 4))) || (decide ((x.kind : Int) = 5))) || (decide ((x.kind : Int) = 7))) || (decide ((x.kind : Int) = 8))) || ((decide ((x.kind : Int) = 11)) && (Pn.sameX x.e (Pn.Xp.mk 0 0 ⟨#[]⟩ []))))) && (!(Pn.rightX b.nm x.e))) || ((((decide ((x.kind : Int) = 6)) && (!decide ((x.e.kind : Int) = 2))) && (!decide ((x.e.kind : Int) = 3))) && (!decide ((x.e.kind : Int) = 4)))) || (decide ((((x.args.length : Nat) : Int) : Int) > 5))) (fun h6 => ?_) (fun h6 => ?_)
  · skip
    refine Wp.sr [] ?_
    refine Wp.ret ?_
    refine ⟨rfl, ?_⟩
    refine fin_r (.sc (.bool false)) ?_
    unfold Pn.tellsS Pn.noX
    rw [h6]
    rfl
  · have h6 := Bool.eq_false_iff.1 h6
    refine Wp.skip ?_
    refine Wp.seq ?_
    refine Wp.sr [] ?_
    refine Wp.block ?_
    refine Wp.lp (α := (Nat)) (fun | j => ⟨mk 86 [(0, (.ag (Pn.cS x))), (1, (.pt 1 0)), (3, (.sc (.int .i64 x.kind))), (4, (.sc (.bool ((((((decide ((x.kind : Int) = 2)) || (decide ((x.kind : Int) = 4))) || (decide ((x.kind : Int) = 5))) || (decide ((x.kind : Int) = 7))) || (decide ((x.kind : Int) = 8))) || ((decide ((x.kind : Int) = 11)) && (Pn.sameX x.e (Pn.Xp.mk 0 0 ⟨#[]⟩ []))))))), (5, (.sc (.int .i64 ((j : Nat) : Int)))), (71, (.sc (.bool ((((!((((((decide ((x.kind : Int) = 2)) || (decide ((x.kind : Int) = 4))) || (decide ((x.kind : Int) = 5))) || (decide ((x.kind : Int) = 7))) || (decide ((x.kind : Int) = 8))) || ((decide ((x.kind : Int) = 11)) && (Pn.sameX x.e (Pn.Xp.mk 0 0 ⟨#[]⟩ []))))) && (!(Pn.rightX b.nm x.e))) || ((((decide ((x.kind : Int) = 6)) && (!decide ((x.e.kind : Int) = 2))) && (!decide ((x.e.kind : Int) = 3))) && (!decide ((x.e.kind : Int) = 4)))) || (decide ((((x.args.length : Nat) : Int) : Int) > 5))))))], [(1, (Pn.cS x))], y0⟩) (fun | j => j ≤ x.args.length ∧ (x.args.take j).all (fun y => Pn.rightX b.nm y) = true) (fun | j => x.args.length - j) 0 ?_ ?_
    · exact ⟨Nat.zero_le _, by simp⟩
    rintro j hv7
    obtain ⟨hlj, htj⟩ := hv7
    refine Wp.seq ?_
    refine Wp.sr [.n (lenm Pn.encX x.args)] ?_
    refine Wp.cd (decide ((((j : Nat) : Int) : Int) < ((x.args.length : Nat) : Int))) (fun h8 => ?_) (fun h8 => ?_)
    · have h8 := of_decide_eq_true h8
      refine Wp.skip ?_
      refine Wp.seq ?_
      refine Wp.block ?_
      obtain ⟨x11, hx10⟩ : ∃ z0, (x.args)[j]? = some z0 := ⟨_, List.getElem?_eq_getElem (by omega)⟩
      have hR13 : Fine (.ag (Pn.cX x11)) := hF3.row hx10 (Pn.encX_eq x11)
      have hF14 : Fine (.ls none (List.map Pn.encX x11.kids)) := hR13.at 3 rfl
      have hF14l := hF14.lenm
      have hc_x11 := Pn.cntX_kid (List.mem_of_getElem? hx10)
      refine Wp.sr [.i (Pn.map_to hx10 (Pn.encX_eq x11)), .c (right06 b x11 (by omega))] ?_
      refine Wp.cd (!(Pn.rightX b.nm x11)) (fun h15 => ?_) (fun h15 => ?_)
      · have h15 : ¬ ((Pn.rightX b.nm x11) = true) := by simpa using h15
        refine Wp.sr [] ?_
        refine Wp.ret ?_
        refine ⟨rfl, ?_⟩
        refine ⟨rfl, ?_⟩
        refine ⟨rfl, ?_⟩
        refine fin_r (.sc (.bool false)) ?_
        unfold Pn.tellsS Pn.noX
        rw [Bool.eq_false_iff.2 h6]
        rw [Pn.all_false hx10 (by simp [h6, h8, h15])]
        rfl
      · have h15 : ((Pn.rightX b.nm x11) = true) := by simpa using h15
        refine Wp.skip ?_
        refine Wp.rg [.z (int_add (x := ((j : Nat) : Int)) (y := 1) (z := (((j + 1) : Nat) : Int)) (by omega) (by omega) (by omega))] ?_
        refine ⟨(j + 1), .rf, ?_, ?_⟩
        · exact ⟨Pn.len_lt hx10, Pn.all_next hx10 htj (by simp [h6, h8, h15])⟩
        · simp only; omega
    · have h8 := of_decide_eq_false h8
      refine Wp.exit ?_
      refine ⟨rfl, ?_⟩
      refine ⟨rfl, ?_⟩
      refine Wp.sr [] ?_
      refine Wp.ret ?_
      refine fin_r (.sc (.bool true)) ?_
      unfold Pn.tellsS Pn.noX
      rw [Bool.eq_false_iff.2 h6]
      rw [Pn.all_end htj (by assumption)]
      rfl
end Go.Proofs.YtjghgpmkepfdhaaGreatDoor
namespace Go.Proofs.YtjghgpmkepfdhaaGreatDoor
open Go.RowKit
set_option linter.unusedVariables false
set_option linter.unusedSimpArgs false
set_option maxRecDepth 100000
set_option maxHeartbeats 4000000
theorem formS_step (b : Low) (p : Int) (x : Pn.Sm) (hb : Pn.wS x ≤ 4611686018427387904) (IH : ∀ y ∈ x.body ++ x.els, PCalls Tryz.prog 127 [(.ag (Pn.cS y)), (.sc (.int .i64 p))] (.sc (.bool (Pn.formS b.nm b.rt p y)))) : PCalls Tryz.prog 127 [(.ag (Pn.cS x)), (.sc (.int .i64 p))] (.sc (.bool (Pn.formS b.nm b.rt p x))) := by
  have hw := Pn.wS_eq x
  have hw1 := Pn.wSs_len x.body
  have hw2 := Pn.wSs_len x.els
  refine pcalls_fine fun hfa => ?_
  have hR1 := hfa 0 _ rfl
  have hF2 : Fine (.ls none (List.map Pn.encX x.e.kids)) := hR1.at 18 rfl
  have hF2l := hF2.lenm
  have hF3 : Fine (.ls none (List.map Pn.encX x.args)) := hR1.at 19 rfl
  have hF3l := hF3.lenm
  have hF4 : Fine (.ls none (List.map Pn.encS x.body)) := hR1.at 20 rfl
  have hF4l := hF4.lenm
  have hF5 : Fine (.ls none (List.map Pn.encS x.els)) := hR1.at 21 rfl
  have hF5l := hF5.lenm
  refine pcalls_rf mixed Tryz.func127 rfl ?_
  refine Wp.sr [] ?_
  refine Wp.seq ?_
  by_cases h6 : (Pn.onlyS x) = true
  · skip
    by_cases h7 : (Pn.namesS b.nm b.rt x p) = true
    · skip
      refine Wp.sr [.c (only08 x (by omega)), .g (show (!(Pn.onlyS x)) = false from (by rw [h6]; rfl)), .c (names08 b x p), .g (show (!(Pn.namesS b.nm b.rt x p)) = false from (by rw [h7]; rfl)), .c (tells08 b x (by omega) (by omega))] ?_
      refine Wp.cd (!(Pn.tellsS b.nm x)) (fun h8 => ?_) (fun h8 => ?_)
      · have h8 : ¬ ((Pn.tellsS b.nm x) = true) := by simpa using h8
        refine Wp.sr [] ?_
        refine Wp.ret ?_
        refine ⟨rfl, ?_⟩
        refine fin_r (.sc (.bool false)) ?_
        rw [Pn.formS_eq]
        simp [h6, h7, h8]
      · have h8 : ((Pn.tellsS b.nm x) = true) := by simpa using h8
        refine Wp.skip ?_
        refine Wp.seq ?_
        refine Wp.sr [] ?_
        refine Wp.block ?_
        refine Wp.lp (α := (Nat)) (fun | j => ⟨mk 51 [(0, (.ag (Pn.cS x))), (1, (.sc (.int .i64 p))), (2, (.pt 2 0)), (5, (.sc (.int .i64 ((j : Nat) : Int)))), (20, (.sc (.bool (!(Pn.tellsS b.nm x)))))], [(2, (Pn.cS x))], y0⟩) (fun | j => j ≤ x.body.length ∧ (x.body.take j).all (fun y => Pn.formS b.nm b.rt p y) = true) (fun | j => x.body.length - j) 0 ?_ ?_
        · exact ⟨Nat.zero_le _, by simp⟩
        rintro j hv9
        obtain ⟨hlj, htj⟩ := hv9
        refine Wp.seq ?_
        refine Wp.sr [.n (lenm Pn.encS x.body)] ?_
        refine Wp.cd (decide ((((j : Nat) : Int) : Int) < ((x.body.length : Nat) : Int))) (fun h10 => ?_) (fun h10 => ?_)
        · have h10 := of_decide_eq_true h10
          refine Wp.skip ?_
          refine Wp.seq ?_
          refine Wp.block ?_
          obtain ⟨x13, hx12⟩ : ∃ z0, (x.body)[j]? = some z0 := ⟨_, List.getElem?_eq_getElem (by omega)⟩
          have hR15 : Fine (.ag (Pn.cS x13)) := hF4.row hx12 (Pn.encS_eq x13)
          have hF16 : Fine (.ls none (List.map Pn.encX x13.e.kids)) := hR15.at 18 rfl
          have hF16l := hF16.lenm
          have hF17 : Fine (.ls none (List.map Pn.encX x13.args)) := hR15.at 19 rfl
          have hF17l := hF17.lenm
          have hF18 : Fine (.ls none (List.map Pn.encS x13.body)) := hR15.at 20 rfl
          have hF18l := hF18.lenm
          have hF19 : Fine (.ls none (List.map Pn.encS x13.els)) := hR15.at 21 rfl
          have hF19l := hF19.lenm
          refine Wp.sr [.i (Pn.map_to hx12 (Pn.encS_eq x13)), .c (IH x13 (List.mem_append.2 (.inl (List.mem_of_getElem? hx12))))] ?_
          refine Wp.cd (!(Pn.formS b.nm b.rt p x13)) (fun h20 => ?_) (fun h20 => ?_)
          · have h20 : ¬ ((Pn.formS b.nm b.rt p x13) = true) := by simpa using h20
            refine Wp.sr [] ?_
            refine Wp.ret ?_
            refine ⟨rfl, ?_⟩
            refine ⟨rfl, ?_⟩
            refine ⟨rfl, ?_⟩
            refine fin_r (.sc (.bool false)) ?_
            rw [Pn.formS_eq]
            rw [Pn.all_false (l := x.body) hx12 (by simp [h6, h7, h8, h10, h20])]
            simp
          · have h20 : ((Pn.formS b.nm b.rt p x13) = true) := by simpa using h20
            refine Wp.skip ?_
            refine Wp.rg [.z (int_add (x := ((j : Nat) : Int)) (y := 1) (z := (((j + 1) : Nat) : Int)) (by omega) (by omega) (by omega))] ?_
            refine ⟨(j + 1), .rf, ?_, ?_⟩
            · exact ⟨Pn.len_lt hx12, Pn.all_next hx12 htj (by simp [h6, h7, h8, h10, h20])⟩
            · simp only; omega
        · have h10 := of_decide_eq_false h10
          refine Wp.exit ?_
          refine ⟨rfl, ?_⟩
          refine ⟨rfl, ?_⟩
          refine Wp.seq ?_
          refine Wp.sr [] ?_
          refine Wp.block ?_
          refine Wp.lp (α := (Nat)) (fun | k => ⟨mk 51 [(0, (.ag (Pn.cS x))), (1, (.sc (.int .i64 p))), (2, (.pt 2 0)), (5, (.sc (.int .i64 ((j : Nat) : Int)))), (6, (.sc (.int .i64 ((k : Nat) : Int)))), (20, (.sc (.bool (!(Pn.tellsS b.nm x))))), (25, (.sc (.bool (decide ((((j : Nat) : Int) : Int) < ((x.body.length : Nat) : Int))))))], [(2, (Pn.cS x))], y0⟩) (fun | k => k ≤ x.els.length ∧ (x.els.take k).all (fun y => Pn.formS b.nm b.rt p y) = true) (fun | k => x.els.length - k) 0 ?_ ?_
          · exact ⟨Nat.zero_le _, by simp⟩
          rintro k hv21
          obtain ⟨hlk, htk⟩ := hv21
          refine Wp.seq ?_
          refine Wp.sr [.n (lenm Pn.encS x.els)] ?_
          refine Wp.cd (decide ((((k : Nat) : Int) : Int) < ((x.els.length : Nat) : Int))) (fun h22 => ?_) (fun h22 => ?_)
          · have h22 := of_decide_eq_true h22
            refine Wp.skip ?_
            refine Wp.seq ?_
            refine Wp.block ?_
            obtain ⟨x25, hx24⟩ : ∃ z0, (x.els)[k]? = some z0 := ⟨_, List.getElem?_eq_getElem (by omega)⟩
            have hR27 : Fine (.ag (Pn.cS x25)) := hF5.row hx24 (Pn.encS_eq x25)
            have hF28 : Fine (.ls none (List.map Pn.encX x25.e.kids)) := hR27.at 18 rfl
            have hF28l := hF28.lenm
            have hF29 : Fine (.ls none (List.map Pn.encX x25.args)) := hR27.at 19 rfl
            have hF29l := hF29.lenm
            have hF30 : Fine (.ls none (List.map Pn.encS x25.body)) := hR27.at 20 rfl
            have hF30l := hF30.lenm
            have hF31 : Fine (.ls none (List.map Pn.encS x25.els)) := hR27.at 21 rfl
            have hF31l := hF31.lenm
            refine Wp.sr [.i (Pn.map_to hx24 (Pn.encS_eq x25)), .c (IH x25 (List.mem_append.2 (.inr (List.mem_of_getElem? hx24))))] ?_
            refine Wp.cd (!(Pn.formS b.nm b.rt p x25)) (fun h32 => ?_) (fun h32 => ?_)
            · have h32 : ¬ ((Pn.formS b.nm b.rt p x25) = true) := by simpa using h32
              refine Wp.sr [] ?_
              refine Wp.ret ?_
              refine ⟨rfl, ?_⟩
              refine ⟨rfl, ?_⟩
              refine ⟨rfl, ?_⟩
              refine fin_r (.sc (.bool false)) ?_
              rw [Pn.formS_eq]
              rw [Pn.all_false (l := x.els) hx24 (by simp [h6, h7, h8, h10, h22, h32])]
              simp
            · have h32 : ((Pn.formS b.nm b.rt p x25) = true) := by simpa using h32
              refine Wp.skip ?_
              refine Wp.rg [.z (int_add (x := ((k : Nat) : Int)) (y := 1) (z := (((k + 1) : Nat) : Int)) (by omega) (by omega) (by omega))] ?_
              refine ⟨(k + 1), .rf, ?_, ?_⟩
              · exact ⟨Pn.len_lt hx24, Pn.all_next hx24 htk (by simp [h6, h7, h8, h10, h22, h32])⟩
              · simp only; omega
          · have h22 := of_decide_eq_false h22
            refine Wp.exit ?_
            refine ⟨rfl, ?_⟩
            refine ⟨rfl, ?_⟩
            refine Wp.sr [] ?_
            refine Wp.ret ?_
            refine fin_r (.sc (.bool true)) ?_
            rw [Pn.formS_eq]
            rw [Pn.all_end htj (by assumption), Pn.all_end htk (by assumption)]
            simp [h6, h7, h8, h10, h22]
    · skip
      refine Wp.sr [.c (only08 x (by omega)), .g (show (!(Pn.onlyS x)) = false from (by rw [h6]; rfl)), .c (names08 b x p), .g (show (!(Pn.namesS b.nm b.rt x p)) = true from (by rw [(eq_false_of_ne_true h7)]; rfl))] ?_
      refine Wp.ct (B := true) rfl ?_
      refine Wp.sr [] ?_
      refine Wp.ret ?_
      refine ⟨rfl, ?_⟩
      refine fin_r (.sc (.bool false)) ?_
      rw [Pn.formS_eq]
      simp [h6, h7]
  · skip
    refine Wp.sr [.c (only08 x (by omega)), .g (show (!(Pn.onlyS x)) = true from (by rw [(eq_false_of_ne_true h6)]; rfl)), .g gT] ?_
    refine Wp.ct (B := true) rfl ?_
    refine Wp.sr [] ?_
    refine Wp.ret ?_
    refine ⟨rfl, ?_⟩
    refine fin_r (.sc (.bool false)) ?_
    rw [Pn.formS_eq]
    simp [h6]

theorem form08 (b : Low) (p : Int) (x : Pn.Sm) (hb : Pn.wS x ≤ 4611686018427387904) : PCalls Tryz.prog 127 [(.ag (Pn.cS x)), (.sc (.int .i64 p))] (.sc (.bool (Pn.formS b.nm b.rt p x))) := by
  have key : ∀ n (x : Pn.Sm), Pn.wS x ≤ n → n ≤ 4611686018427387904 → PCalls Tryz.prog 127 [(.ag (Pn.cS x)), (.sc (.int .i64 p))] (.sc (.bool (Pn.formS b.nm b.rt p x))) := by
    intro n
    induction n with
    | zero => intro x h _; have := Pn.wS_pos x; omega
    | succ n ih =>
      intro x h hn
      refine formS_step b p x (by omega) fun y hy => ih y ?_ (by omega)
      rw [Pn.wS_eq] at h
      rcases List.mem_append.1 hy with hy | hy
      · have := Pn.wS_in hy; omega
      · have := Pn.wS_in hy; omega
  exact key _ x (Nat.le_refl _) hb

theorem right08 (b : Low) (x : Pn.Sm) (p : Int) (hb : Pn.wS x ≤ 4611686018427387904) : PCalls Tryz.prog 101 [(.ag (Pn.cS x)), (.sc (.int .i64 p))] (.sc (.bool (Pn.rightS b.nm b.rt p x))) := by
  have hw := Pn.cntS_w x
  refine pcalls_fine fun hfa => ?_
  have hR1 := hfa 0 _ rfl
  have hF2 : Fine (.ls none (List.map Pn.encX x.e.kids)) := hR1.at 18 rfl
  have hF2l := hF2.lenm
  have hF3 : Fine (.ls none (List.map Pn.encX x.args)) := hR1.at 19 rfl
  have hF3l := hF3.lenm
  have hF4 : Fine (.ls none (List.map Pn.encS x.body)) := hR1.at 20 rfl
  have hF4l := hF4.lenm
  have hF5 : Fine (.ls none (List.map Pn.encS x.els)) := hR1.at 21 rfl
  have hF5l := hF5.lenm
  refine pcalls_rf mixed Tryz.func101 rfl ?_
  refine Wp.sr [] ?_
  by_cases h6 : (Pn.formS b.nm b.rt p x) = true
  · skip
    refine Wp.sr [.c (form08 b p x (by omega)), .g (show (Pn.formS b.nm b.rt p x) = true from (by exact h6)), .c (deep08 x (by omega))] ?_
    refine Wp.ret ?_
    refine fin_r (.sc (.bool (decide (((((Pn.deepS x) : Nat) : Int) : Int) ≤ 20)))) ?_
    unfold Pn.rightS
    simp [h6]
    try omega
  · skip
    refine Wp.sr [.c (form08 b p x (by omega)), .g (show (Pn.formS b.nm b.rt p x) = false from (by exact (eq_false_of_ne_true h6)))] ?_
    refine Wp.ret ?_
    refine fin_r (.sc (.bool false)) ?_
    unfold Pn.rightS
    simp [h6]
    try omega
end Go.Proofs.YtjghgpmkepfdhaaGreatDoor
namespace Go.Proofs.YtjghgpmkepfdhaaGreatDoor
open Go.RowKit
set_option linter.unusedVariables false
set_option linter.unusedSimpArgs false
set_option maxRecDepth 100000
set_option maxHeartbeats 4000000
theorem written10 (b : Low) (t : Pn.Ty) (p : Int) : PCalls Tryz.prog 102 [(.ag (Pn.cTy t)), (.sc (.int .i64 p))] (.sc (.bool (Pn.writT b.rt t p))) := by
  refine pcalls_rf mixed Tryz.func102 rfl ?_
  refine Wp.sr [] ?_
  refine Wp.sr [] ?_
  refine Wp.sr [.c (b.hrt t p)] ?_
  refine Wp.ret ?_
  refine fin_r (.sc (.bool (((((b.rt t p) && (!decide ((t.o1.kind : Int) = 7))) && (!decide ((t.o2.kind : Int) = 7))) && (!decide ((t.o3.kind : Int) = 7))) && ((!decide ((t.o0.kind : Int) = 7)) || (decide ((t.o0.n : Int) = 0)))))) ?_
  first
    | rfl
    | (unfold Pn.writT; simp [Bool.and_assoc, Bool.or_assoc])

theorem vars10 (b : Low) (l : List Pn.Vr) (n p : Int) : PCalls Tryz.prog 59 [(.ls none (List.map Pn.encVr l)), (.sc (.int .i64 n)), (.sc (.int .i64 p))] (.sc (.bool (Pn.varsB b.nm b.rt l n p))) := by
  refine pcalls_fine fun hfa => ?_
  have hF1 := hfa 0 _ rfl
  have hF1l := hF1.lenm
  refine pcalls_rf mixed Tryz.func59 rfl ?_
  refine Wp.sr [] ?_
  refine Wp.seq ?_
  refine Wp.sr [] ?_
  refine Wp.block ?_
  refine Wp.lp (α := (Nat)) (fun | j => ⟨mk 44 [(0, (.ls none (List.map Pn.encVr l))), (1, (.sc (.int .i64 n))), (2, (.sc (.int .i64 p))), (7, (.sc (.int .i64 ((j : Nat) : Int))))], [], y0⟩) (fun | j => j ≤ l.length ∧ (l.take j).all (fun v => Pn.varB b.nm b.rt p v) = true) (fun | j => l.length - j) 0 ?_ ?_
  · exact ⟨Nat.zero_le _, by simp⟩
  rintro j hv2
  obtain ⟨hlj, htj⟩ := hv2
  refine Wp.seq ?_
  refine Wp.sr [.n (lenm Pn.encVr l)] ?_
  refine Wp.cd (decide ((((j : Nat) : Int) : Int) < ((l.length : Nat) : Int))) (fun h3 => ?_) (fun h3 => ?_)
  · have h3 := of_decide_eq_true h3
    refine Wp.skip ?_
    refine Wp.seq ?_
    refine Wp.block ?_
    obtain ⟨x6, hx5⟩ : ∃ z0, (l)[j]? = some z0 := ⟨_, List.getElem?_eq_getElem (by omega)⟩
    by_cases h8 : (b.nm x6.name) = true
    · skip
      by_cases h9 : (x6.type.kind : Int) = 0
      · skip
        refine Wp.sr [.i (map_get Pn.encVr hx5), .c (b.hnm x6.name), .g (show (!(b.nm x6.name)) = false from (by rw [h8]; rfl)), .i (map_get Pn.encVr hx5), .g (show (decide ((x6.type.kind : Int) = 0)) = true from (by simp [h9]))] ?_
        refine Wp.ct (B := true) rfl ?_
        refine Wp.sr [] ?_
        refine Wp.ret ?_
        refine ⟨rfl, ?_⟩
        refine ⟨rfl, ?_⟩
        refine ⟨rfl, ?_⟩
        refine fin_r (.sc (.bool false)) ?_
        unfold Pn.varsB
        rw [Pn.all_false hx5 (by simp [Pn.varB, h3, h8, h9])]
        rfl
      · skip
        refine Wp.sr [.i (map_get Pn.encVr hx5), .c (b.hnm x6.name), .g (show (!(b.nm x6.name)) = false from (by rw [h8]; rfl)), .i (map_get Pn.encVr hx5), .g (show (decide ((x6.type.kind : Int) = 0)) = false from (by simp [h9])), .i (map_get Pn.encVr hx5), .c (written10 b x6.type p)] ?_
        refine Wp.cd (!(Pn.writT b.rt x6.type p)) (fun h10 => ?_) (fun h10 => ?_)
        · have h10 : ¬ ((Pn.writT b.rt x6.type p) = true) := by simpa using h10
          refine Wp.sr [] ?_
          refine Wp.ret ?_
          refine ⟨rfl, ?_⟩
          refine ⟨rfl, ?_⟩
          refine ⟨rfl, ?_⟩
          refine fin_r (.sc (.bool false)) ?_
          unfold Pn.varsB
          rw [Pn.all_false hx5 (by simp [Pn.varB, h3, h8, h9, h10])]
          rfl
        · have h10 : ((Pn.writT b.rt x6.type p) = true) := by simpa using h10
          refine Wp.skip ?_
          refine Wp.rg [.z (int_add (x := ((j : Nat) : Int)) (y := 1) (z := (((j + 1) : Nat) : Int)) (by omega) (by omega) (by omega))] ?_
          refine ⟨(j + 1), .rf, ?_, ?_⟩
          · exact ⟨Pn.len_lt hx5, Pn.all_next hx5 htj (by simp [Pn.varB, h3, h8, h9, h10])⟩
          · simp only; omega
    · skip
      refine Wp.sr [.i (map_get Pn.encVr hx5), .c (b.hnm x6.name), .g (show (!(b.nm x6.name)) = true from (by rw [(eq_false_of_ne_true h8)]; rfl)), .g gT] ?_
      refine Wp.ct (B := true) rfl ?_
      refine Wp.sr [] ?_
      refine Wp.ret ?_
      refine ⟨rfl, ?_⟩
      refine ⟨rfl, ?_⟩
      refine ⟨rfl, ?_⟩
      refine fin_r (.sc (.bool false)) ?_
      unfold Pn.varsB
      rw [Pn.all_false hx5 (by simp [Pn.varB, h3, h8])]
      rfl
  · have h3 := of_decide_eq_false h3
    refine Wp.exit ?_
    refine ⟨rfl, ?_⟩
    refine ⟨rfl, ?_⟩
    refine Wp.sr [.n (lenm Pn.encVr l)] ?_
    refine Wp.ret ?_
    refine fin_r (.sc (.bool (decide ((((l.length : Nat) : Int) : Int) ≤ n)))) ?_
    unfold Pn.varsB
    rw [Pn.all_end htj (by assumption)]
    simp

theorem open_step (b : Low) (p : Int) (a : List Pn.Sm) (IH : ∀ x ∈ a, ∀ l, (l = x.body ∨ l = x.els) → PCalls Tryz.prog 103 [(.ls none (List.map Pn.encS l)), (.sc (.int .i64 p))] (.sc (.bool (Pn.openL b.rt p l)))) : PCalls Tryz.prog 103 [(.ls none (List.map Pn.encS a)), (.sc (.int .i64 p))] (.sc (.bool (Pn.openL b.rt p a))) := by
  refine pcalls_fine fun hfa => ?_
  have hF1 := hfa 0 _ rfl
  have hF1l := hF1.lenm
  refine pcalls_rf mixed Tryz.func103 rfl ?_
  refine Wp.sr [] ?_
  refine Wp.seq ?_
  refine Wp.sr [] ?_
  refine Wp.block ?_
  refine Wp.lp (α := (Nat)) (fun | j => ⟨mk 49 [(0, (.ls none (List.map Pn.encS a))), (1, (.sc (.int .i64 p))), (5, (.sc (.int .i64 ((j : Nat) : Int))))], [], y0⟩) (fun | j => j ≤ a.length ∧ (a.take j).all (fun x => Pn.openS b.rt p x) = true) (fun | j => a.length - j) 0 ?_ ?_
  · exact ⟨Nat.zero_le _, by simp⟩
  rintro j hv2
  obtain ⟨hlj, htj⟩ := hv2
  refine Wp.seq ?_
  refine Wp.sr [.n (lenm Pn.encS a)] ?_
  refine Wp.cd (decide ((((j : Nat) : Int) : Int) < ((a.length : Nat) : Int))) (fun h3 => ?_) (fun h3 => ?_)
  · have h3 := of_decide_eq_true h3
    refine Wp.skip ?_
    refine Wp.seq ?_
    refine Wp.block ?_
    obtain ⟨x6, hx5⟩ : ∃ z0, (a)[j]? = some z0 := ⟨_, List.getElem?_eq_getElem (by omega)⟩
    have hR8 : Fine (.ag (Pn.cS x6)) := hF1.row hx5 (Pn.encS_eq x6)
    have hF9 : Fine (.ls none (List.map Pn.encX x6.e.kids)) := hR8.at 18 rfl
    have hF9l := hF9.lenm
    have hF10 : Fine (.ls none (List.map Pn.encX x6.args)) := hR8.at 19 rfl
    have hF10l := hF10.lenm
    have hF11 : Fine (.ls none (List.map Pn.encS x6.body)) := hR8.at 20 rfl
    have hF11l := hF11.lenm
    have hF12 : Fine (.ls none (List.map Pn.encS x6.els)) := hR8.at 21 rfl
    have hF12l := hF12.lenm
    by_cases h13 : (x6.type.kind : Int) = 2
    · skip
      by_cases h14 : (Pn.writT b.rt x6.type p) = true
      · skip
        by_cases h15 : (Pn.openL b.rt p x6.body) = true
        · skip
          refine Wp.sr [.i (Pn.map_to hx5 (Pn.encS_eq x6)), .g (show (decide ((x6.type.kind : Int) = 2)) = true from (by simp [h13])), .i (Pn.map_to hx5 (Pn.encS_eq x6)), .c (written10 b x6.type p), .g (show (!(Pn.writT b.rt x6.type p)) = false from (by rw [h14]; rfl)), .i (Pn.map_to hx5 (Pn.encS_eq x6)), .c (IH x6 (List.mem_of_getElem? hx5) x6.body (.inl rfl)), .g (show (!(Pn.openL b.rt p x6.body)) = false from (by rw [h15]; rfl)), .i (Pn.map_to hx5 (Pn.encS_eq x6)), .c (IH x6 (List.mem_of_getElem? hx5) x6.els (.inr rfl))] ?_
          refine Wp.cd (!(Pn.openL b.rt p x6.els)) (fun h16 => ?_) (fun h16 => ?_)
          · have h16 : ¬ ((Pn.openL b.rt p x6.els) = true) := by simpa using h16
            refine Wp.sr [] ?_
            refine Wp.ret ?_
            refine ⟨rfl, ?_⟩
            refine ⟨rfl, ?_⟩
            refine ⟨rfl, ?_⟩
            refine fin_r (.sc (.bool false)) ?_
            rw [Pn.openL_eq]
            rw [Pn.all_false hx5 (by simp [Pn.openS_eq, h3, h13, h14, h15, h16])]
          · have h16 : ((Pn.openL b.rt p x6.els) = true) := by simpa using h16
            refine Wp.skip ?_
            refine Wp.rg [.z (int_add (x := ((j : Nat) : Int)) (y := 1) (z := (((j + 1) : Nat) : Int)) (by omega) (by omega) (by omega))] ?_
            refine ⟨(j + 1), .rf, ?_, ?_⟩
            · exact ⟨Pn.len_lt hx5, Pn.all_next hx5 htj (by simp [Pn.openS_eq, h3, h13, h14, h15, h16])⟩
            · simp only; omega
        · skip
          refine Wp.sr [.i (Pn.map_to hx5 (Pn.encS_eq x6)), .g (show (decide ((x6.type.kind : Int) = 2)) = true from (by simp [h13])), .i (Pn.map_to hx5 (Pn.encS_eq x6)), .c (written10 b x6.type p), .g (show (!(Pn.writT b.rt x6.type p)) = false from (by rw [h14]; rfl)), .i (Pn.map_to hx5 (Pn.encS_eq x6)), .c (IH x6 (List.mem_of_getElem? hx5) x6.body (.inl rfl)), .g (show (!(Pn.openL b.rt p x6.body)) = true from (by rw [(eq_false_of_ne_true h15)]; rfl))] ?_
          refine Wp.ct (B := true) rfl ?_
          refine Wp.sr [] ?_
          refine Wp.ret ?_
          refine ⟨rfl, ?_⟩
          refine ⟨rfl, ?_⟩
          refine ⟨rfl, ?_⟩
          refine fin_r (.sc (.bool false)) ?_
          rw [Pn.openL_eq]
          rw [Pn.all_false hx5 (by simp [Pn.openS_eq, h3, h13, h14, h15])]
      · skip
        refine Wp.sr [.i (Pn.map_to hx5 (Pn.encS_eq x6)), .g (show (decide ((x6.type.kind : Int) = 2)) = true from (by simp [h13])), .i (Pn.map_to hx5 (Pn.encS_eq x6)), .c (written10 b x6.type p), .g (show (!(Pn.writT b.rt x6.type p)) = true from (by rw [(eq_false_of_ne_true h14)]; rfl)), .g gT] ?_
        refine Wp.ct (B := true) rfl ?_
        refine Wp.sr [] ?_
        refine Wp.ret ?_
        refine ⟨rfl, ?_⟩
        refine ⟨rfl, ?_⟩
        refine ⟨rfl, ?_⟩
        refine fin_r (.sc (.bool false)) ?_
        rw [Pn.openL_eq]
        rw [Pn.all_false hx5 (by simp [Pn.openS_eq, h3, h13, h14])]
    · skip
      by_cases h17 : (Pn.openL b.rt p x6.body) = true
      · skip
        refine Wp.sr [.i (Pn.map_to hx5 (Pn.encS_eq x6)), .g (show (decide ((x6.type.kind : Int) = 2)) = false from (by simp [h13])), .g gF, .i (Pn.map_to hx5 (Pn.encS_eq x6)), .c (IH x6 (List.mem_of_getElem? hx5) x6.body (.inl rfl)), .g (show (!(Pn.openL b.rt p x6.body)) = false from (by rw [h17]; rfl)), .i (Pn.map_to hx5 (Pn.encS_eq x6)), .c (IH x6 (List.mem_of_getElem? hx5) x6.els (.inr rfl))] ?_
        refine Wp.cd (!(Pn.openL b.rt p x6.els)) (fun h18 => ?_) (fun h18 => ?_)
        · have h18 : ¬ ((Pn.openL b.rt p x6.els) = true) := by simpa using h18
          refine Wp.sr [] ?_
          refine Wp.ret ?_
          refine ⟨rfl, ?_⟩
          refine ⟨rfl, ?_⟩
          refine ⟨rfl, ?_⟩
          refine fin_r (.sc (.bool false)) ?_
          rw [Pn.openL_eq]
          rw [Pn.all_false hx5 (by simp [Pn.openS_eq, h3, h13, h17, h18])]
        · have h18 : ((Pn.openL b.rt p x6.els) = true) := by simpa using h18
          refine Wp.skip ?_
          refine Wp.rg [.z (int_add (x := ((j : Nat) : Int)) (y := 1) (z := (((j + 1) : Nat) : Int)) (by omega) (by omega) (by omega))] ?_
          refine ⟨(j + 1), .rf, ?_, ?_⟩
          · exact ⟨Pn.len_lt hx5, Pn.all_next hx5 htj (by simp [Pn.openS_eq, h3, h13, h17, h18])⟩
          · simp only; omega
      · skip
        refine Wp.sr [.i (Pn.map_to hx5 (Pn.encS_eq x6)), .g (show (decide ((x6.type.kind : Int) = 2)) = false from (by simp [h13])), .g gF, .i (Pn.map_to hx5 (Pn.encS_eq x6)), .c (IH x6 (List.mem_of_getElem? hx5) x6.body (.inl rfl)), .g (show (!(Pn.openL b.rt p x6.body)) = true from (by rw [(eq_false_of_ne_true h17)]; rfl))] ?_
        refine Wp.ct (B := true) rfl ?_
        refine Wp.sr [] ?_
        refine Wp.ret ?_
        refine ⟨rfl, ?_⟩
        refine ⟨rfl, ?_⟩
        refine ⟨rfl, ?_⟩
        refine fin_r (.sc (.bool false)) ?_
        rw [Pn.openL_eq]
        rw [Pn.all_false hx5 (by simp [Pn.openS_eq, h3, h13, h17])]
  · have h3 := of_decide_eq_false h3
    refine Wp.exit ?_
    refine ⟨rfl, ?_⟩
    refine ⟨rfl, ?_⟩
    refine Wp.sr [] ?_
    refine Wp.ret ?_
    refine fin_r (.sc (.bool true)) ?_
    rw [Pn.openL_eq]
    rw [Pn.all_end htj (by assumption)]

theorem open10 (b : Low) (p : Int) (a : List Pn.Sm) : PCalls Tryz.prog 103 [(.ls none (List.map Pn.encS a)), (.sc (.int .i64 p))] (.sc (.bool (Pn.openL b.rt p a))) := by
  have key : ∀ n (a : List Pn.Sm), Pn.cntSs a ≤ n → PCalls Tryz.prog 103 [(.ls none (List.map Pn.encS a)), (.sc (.int .i64 p))] (.sc (.bool (Pn.openL b.rt p a))) := by
    intro n
    induction n with
    | zero =>
      intro a h
      refine open_step b p a fun x hx => ?_
      have h1 := Pn.cntS_in hx
      rw [Pn.cntS_eq] at h1
      omega
    | succ n ih =>
      intro a h
      refine open_step b p a fun x hx l hl => ih l ?_
      have h1 := Pn.cntS_in hx
      rw [Pn.cntS_eq] at h1
      rcases hl with rfl | rfl <;> omega
  exact key _ a (Nat.le_refl _)
end Go.Proofs.YtjghgpmkepfdhaaGreatDoor
namespace Go.Proofs.YtjghgpmkepfdhaaGreatDoor
open Go.RowKit
set_option linter.unusedVariables false
set_option linter.unusedSimpArgs false
set_option maxRecDepth 100000
set_option maxHeartbeats 4000000
theorem method10 (b : Low) (m : Pn.Me) (p : Int) (hb : Pn.wSs m.body ≤ 4611686018427387904) : PCalls Tryz.prog 58 [(.ag (Pn.cMe m)), (.sc (.int .i64 p))] (.sc (.bool (Pn.methB b.nm b.rt p m))) := by
  refine pcalls_fine fun hfa => ?_
  have hR1 := hfa 0 _ rfl
  have hF2 : Fine (.ls none (List.map Pn.encVr m.params)) := hR1.at 13 rfl
  have hF2l := hF2.lenm
  have hF3 : Fine (.ls none (List.map Pn.encVr m.locals)) := hR1.at 14 rfl
  have hF3l := hF3.lenm
  have hF4 : Fine (.ls none (List.map Pn.encS m.body)) := hR1.at 15 rfl
  have hF4l := hF4.lenm
  refine pcalls_rf mixed Tryz.func58 rfl ?_
  refine Wp.sr [] ?_
  refine Wp.seq ?_
  refine Wp.sr [] ?_
  refine Wp.block ?_
  refine Wp.lp (α := (Nat)) (fun | j => ⟨mk 48 [(0, (.ag (Pn.cMe m))), (1, (.sc (.int .i64 p))), (2, (.pt 2 0)), (5, (.sc (.int .i64 ((j : Nat) : Int))))], [(2, (Pn.cMe m))], y0⟩) (fun | j => j ≤ m.body.length ∧ (m.body.take j).all (fun x => Pn.rightS b.nm b.rt p x) = true) (fun | j => m.body.length - j) 0 ?_ ?_
  · exact ⟨Nat.zero_le _, by simp⟩
  rintro j hv5
  obtain ⟨hlj, htj⟩ := hv5
  refine Wp.seq ?_
  refine Wp.sr [.n (lenm Pn.encS m.body)] ?_
  refine Wp.cd (decide ((((j : Nat) : Int) : Int) < ((m.body.length : Nat) : Int))) (fun h6 => ?_) (fun h6 => ?_)
  · have h6 := of_decide_eq_true h6
    refine Wp.skip ?_
    refine Wp.seq ?_
    refine Wp.block ?_
    obtain ⟨x9, hx8⟩ : ∃ z0, (m.body)[j]? = some z0 := ⟨_, List.getElem?_eq_getElem (by omega)⟩
    have hR11 : Fine (.ag (Pn.cS x9)) := hF4.row hx8 (Pn.encS_eq x9)
    have hF12 : Fine (.ls none (List.map Pn.encX x9.e.kids)) := hR11.at 18 rfl
    have hF12l := hF12.lenm
    have hF13 : Fine (.ls none (List.map Pn.encX x9.args)) := hR11.at 19 rfl
    have hF13l := hF13.lenm
    have hF14 : Fine (.ls none (List.map Pn.encS x9.body)) := hR11.at 20 rfl
    have hF14l := hF14.lenm
    have hF15 : Fine (.ls none (List.map Pn.encS x9.els)) := hR11.at 21 rfl
    have hF15l := hF15.lenm
    have hw_x9 := Pn.wS_in (List.mem_of_getElem? hx8)
    refine Wp.sr [.i (Pn.map_to hx8 (Pn.encS_eq x9)), .c (right08 b x9 p (by omega))] ?_
    refine Wp.cd (!(Pn.rightS b.nm b.rt p x9)) (fun h16 => ?_) (fun h16 => ?_)
    · have h16 : ¬ ((Pn.rightS b.nm b.rt p x9) = true) := by simpa using h16
      refine Wp.sr [] ?_
      refine Wp.ret ?_
      refine ⟨rfl, ?_⟩
      refine ⟨rfl, ?_⟩
      refine ⟨rfl, ?_⟩
      refine fin_r (.sc (.bool false)) ?_
      unfold Pn.methB
      rw [Pn.all_false hx8 (by simp [h6, h16])]
      rfl
    · have h16 : ((Pn.rightS b.nm b.rt p x9) = true) := by simpa using h16
      refine Wp.skip ?_
      refine Wp.rg [.z (int_add (x := ((j : Nat) : Int)) (y := 1) (z := (((j + 1) : Nat) : Int)) (by omega) (by omega) (by omega))] ?_
      refine ⟨(j + 1), .rf, ?_, ?_⟩
      · exact ⟨Pn.len_lt hx8, Pn.all_next hx8 htj (by simp [h6, h16])⟩
      · simp only; omega
  · have h6 := of_decide_eq_false h6
    refine Wp.exit ?_
    refine ⟨rfl, ?_⟩
    refine ⟨rfl, ?_⟩
    refine Wp.sr [.c (b.hnm m.name), .c (written10 b m.ret p), .c (vars10 b m.params 5 p), .c (vars10 b m.locals 12 p), .c (open10 b p m.body)] ?_
    refine Wp.ret ?_
    refine fin_r (.sc (.bool (((((b.nm m.name) && (Pn.writT b.rt m.ret p)) && (Pn.varsB b.nm b.rt m.params 5 p)) && (Pn.varsB b.nm b.rt m.locals 12 p)) && (Pn.openL b.rt p m.body)))) ?_
    unfold Pn.methB
    rw [Pn.all_end htj (by assumption)]
    rfl
end Go.Proofs.YtjghgpmkepfdhaaGreatDoor
namespace Go.Proofs.YtjghgpmkepfdhaaGreatDoor
open Go.RowKit
set_option linter.unusedVariables false
set_option linter.unusedSimpArgs false
set_option maxRecDepth 100000
set_option maxHeartbeats 4000000
theorem class10 (b : Low) (c : Pn.Cl) (hb : Pn.wMs c.methods ≤ 4611686018427387904) : PCalls Tryz.prog 31 [(.ag (Pn.cCl c))] (.sc (.bool (Pn.classB b.nm b.rt b.ro c))) := by
  refine pcalls_fine fun hfa => ?_
  have hR1 := hfa 0 _ rfl
  have hF2 : Fine (.ls none (List.map Pn.encStr c.params)) := hR1.at 1 rfl
  have hF2l := hF2.lenm
  have hF3 : Fine (.ls none (List.map Pn.encOw c.above)) := hR1.at 3 rfl
  have hF3l := hF3.lenm
  have hF4 : Fine (.ls none (List.map Pn.encVr c.fields)) := hR1.at 4 rfl
  have hF4l := hF4.lenm
  have hF5 : Fine (.ls none (List.map Pn.encMe c.methods)) := hR1.at 5 rfl
  have hF5l := hF5.lenm
  refine pcalls_rf mixed Tryz.func31 rfl ?_
  refine Wp.sr [] ?_
  refine Wp.sr [.n (lenm Pn.encStr c.params)] ?_
  refine Wp.seq ?_
  refine Wp.sr [] ?_
  refine Wp.block ?_
  refine Wp.lp (α := (Nat)) (fun | j => ⟨mk 112 [(0, (.ag (Pn.cCl c))), (1, (.pt 1 0)), (3, (.sc (.int .i64 ((c.params.length : Nat) : Int)))), (4, (.sc (.int .i64 ((j : Nat) : Int))))], [(1, (Pn.cCl c))], y0⟩) (fun | j => j ≤ c.params.length ∧ (c.params.take j).all (fun s => b.nm s) = true) (fun | j => c.params.length - j) 0 ?_ ?_
  · exact ⟨Nat.zero_le _, by simp⟩
  rintro j hv6
  obtain ⟨hlj, htj⟩ := hv6
  refine Wp.seq ?_
  refine Wp.sr [] ?_
  refine Wp.cd (decide ((((j : Nat) : Int) : Int) < ((c.params.length : Nat) : Int))) (fun h7 => ?_) (fun h7 => ?_)
  · have h7 := of_decide_eq_true h7
    refine Wp.skip ?_
    refine Wp.seq ?_
    refine Wp.block ?_
    obtain ⟨x10, hx9⟩ : ∃ z0, (c.params)[j]? = some z0 := ⟨_, List.getElem?_eq_getElem (by omega)⟩
    refine Wp.sr [.i (map_get Pn.encStr hx9), .c (b.hnm x10)] ?_
    refine Wp.cd (!(b.nm x10)) (fun h12 => ?_) (fun h12 => ?_)
    · have h12 : ¬ ((b.nm x10) = true) := by simpa using h12
      refine Wp.sr [] ?_
      refine Wp.ret ?_
      refine ⟨rfl, ?_⟩
      refine ⟨rfl, ?_⟩
      refine ⟨rfl, ?_⟩
      refine fin_r (.sc (.bool false)) ?_
      unfold Pn.classB
      rw [Pn.all_false (l := c.params) hx9 (by simp [Pn.aboveB, h7, h12])]
      simp
    · have h12 : ((b.nm x10) = true) := by simpa using h12
      refine Wp.skip ?_
      refine Wp.rg [.z (int_add (x := ((j : Nat) : Int)) (y := 1) (z := (((j + 1) : Nat) : Int)) (by omega) (by omega) (by omega))] ?_
      refine ⟨(j + 1), .rf, ?_, ?_⟩
      · exact ⟨Pn.len_lt hx9, Pn.all_next hx9 htj (by simp [h7, h12])⟩
      · simp only; omega
  · have h7 := of_decide_eq_false h7
    refine Wp.exit ?_
    refine ⟨rfl, ?_⟩
    refine ⟨rfl, ?_⟩
    refine Wp.seq ?_
    refine Wp.sr [] ?_
    refine Wp.block ?_
    refine Wp.lp (α := (Nat)) (fun | k => ⟨mk 112 [(0, (.ag (Pn.cCl c))), (1, (.pt 1 0)), (3, (.sc (.int .i64 ((c.params.length : Nat) : Int)))), (4, (.sc (.int .i64 ((j : Nat) : Int)))), (5, (.sc (.int .i64 ((k : Nat) : Int)))), (13, (.sc (.bool (decide ((((j : Nat) : Int) : Int) < ((c.params.length : Nat) : Int))))))], [(1, (Pn.cCl c))], y0⟩) (fun | k => k ≤ c.above.length ∧ (c.above.take k).all (fun o => Pn.aboveB b.ro (c.params.length : Int) o) = true) (fun | k => c.above.length - k) 0 ?_ ?_
    · exact ⟨Nat.zero_le _, by simp⟩
    rintro k hv13
    obtain ⟨hlk, htk⟩ := hv13
    refine Wp.seq ?_
    refine Wp.sr [.n (lenm Pn.encOw c.above)] ?_
    refine Wp.cd (decide ((((k : Nat) : Int) : Int) < ((c.above.length : Nat) : Int))) (fun h14 => ?_) (fun h14 => ?_)
    · have h14 := of_decide_eq_true h14
      refine Wp.skip ?_
      refine Wp.seq ?_
      refine Wp.block ?_
      obtain ⟨x17, hx16⟩ : ∃ z0, (c.above)[k]? = some z0 := ⟨_, List.getElem?_eq_getElem (by omega)⟩
      refine Wp.sr [.i (map_get Pn.encOw hx16)] ?_
      by_cases h19 : (b.ro x17 ((c.params.length : Nat) : Int)) = true
      · skip
        by_cases h20 : (x17.kind : Int) = 2
        · skip
          refine Wp.sr [.i (map_get Pn.encOw hx16), .c (b.hro x17 ((c.params.length : Nat) : Int)), .g (show (!(b.ro x17 ((c.params.length : Nat) : Int))) = false from (by rw [h19]; rfl)), .g (show (!decide ((x17.kind : Int) = 2)) = false from (by simp [h20])), .g gF] ?_
          refine Wp.cf (B := false) rfl ?_
          refine Wp.skip ?_
          refine Wp.rg [.z (int_add (x := ((k : Nat) : Int)) (y := 1) (z := (((k + 1) : Nat) : Int)) (by omega) (by omega) (by omega))] ?_
          refine ⟨(k + 1), .rf, ?_, ?_⟩
          · exact ⟨Pn.len_lt hx16, Pn.all_next hx16 htk (by simp [Pn.aboveB, h7, h14, h19, h20])⟩
          · simp only; omega
        · skip
          by_cases h21 : (x17.kind : Int) = 3
          · skip
            refine Wp.sr [.i (map_get Pn.encOw hx16), .c (b.hro x17 ((c.params.length : Nat) : Int)), .g (show (!(b.ro x17 ((c.params.length : Nat) : Int))) = false from (by rw [h19]; rfl)), .g (show (!decide ((x17.kind : Int) = 2)) = true from (by simp [h20])), .g (show (!decide ((x17.kind : Int) = 3)) = false from (by simp [h21]))] ?_
            refine Wp.cf (B := false) rfl ?_
            refine Wp.skip ?_
            refine Wp.rg [.z (int_add (x := ((k : Nat) : Int)) (y := 1) (z := (((k + 1) : Nat) : Int)) (by omega) (by omega) (by omega))] ?_
            refine ⟨(k + 1), .rf, ?_, ?_⟩
            · exact ⟨Pn.len_lt hx16, Pn.all_next hx16 htk (by simp [Pn.aboveB, h7, h14, h19, h20, h21])⟩
            · simp only; omega
          · skip
            refine Wp.sr [.i (map_get Pn.encOw hx16), .c (b.hro x17 ((c.params.length : Nat) : Int)), .g (show (!(b.ro x17 ((c.params.length : Nat) : Int))) = false from (by rw [h19]; rfl)), .g (show (!decide ((x17.kind : Int) = 2)) = true from (by simp [h20])), .g (show (!decide ((x17.kind : Int) = 3)) = true from (by simp [h21]))] ?_
            refine Wp.cd (!decide ((x17.kind : Int) = 4)) (fun h22 => ?_) (fun h22 => ?_)
            · have h22 : ¬ ((x17.kind : Int) = 4) := by simpa using h22
              refine Wp.sr [] ?_
              refine Wp.ret ?_
              refine ⟨rfl, ?_⟩
              refine ⟨rfl, ?_⟩
              refine ⟨rfl, ?_⟩
              refine fin_r (.sc (.bool false)) ?_
              unfold Pn.classB
              rw [Pn.all_false (l := c.above) hx16 (by simp [Pn.aboveB, h7, h14, h19, h20, h21, h22])]
              simp
            · have h22 : ((x17.kind : Int) = 4) := by simpa using h22
              refine Wp.skip ?_
              refine Wp.rg [.z (int_add (x := ((k : Nat) : Int)) (y := 1) (z := (((k + 1) : Nat) : Int)) (by omega) (by omega) (by omega))] ?_
              refine ⟨(k + 1), .rf, ?_, ?_⟩
              · exact ⟨Pn.len_lt hx16, Pn.all_next hx16 htk (by simp [Pn.aboveB, h7, h14, h19, h20, h21, h22])⟩
              · simp only; omega
      · skip
        refine Wp.sr [.i (map_get Pn.encOw hx16), .c (b.hro x17 ((c.params.length : Nat) : Int)), .g (show (!(b.ro x17 ((c.params.length : Nat) : Int))) = true from (by rw [(eq_false_of_ne_true h19)]; rfl))] ?_
        refine Wp.ct (B := true) rfl ?_
        refine Wp.sr [] ?_
        refine Wp.ret ?_
        refine ⟨rfl, ?_⟩
        refine ⟨rfl, ?_⟩
        refine ⟨rfl, ?_⟩
        refine fin_r (.sc (.bool false)) ?_
        unfold Pn.classB
        rw [Pn.all_false (l := c.above) hx16 (by simp [Pn.aboveB, h7, h14, h19])]
        simp
    · have h14 := of_decide_eq_false h14
      refine Wp.exit ?_
      refine ⟨rfl, ?_⟩
      refine ⟨rfl, ?_⟩
      refine Wp.seq ?_
      refine Wp.sr [] ?_
      refine Wp.block ?_
      refine Wp.lp (α := (Nat)) (fun | q => ⟨mk 112 [(0, (.ag (Pn.cCl c))), (1, (.pt 1 0)), (3, (.sc (.int .i64 ((c.params.length : Nat) : Int)))), (4, (.sc (.int .i64 ((j : Nat) : Int)))), (5, (.sc (.int .i64 ((k : Nat) : Int)))), (7, (.sc (.int .i64 ((q : Nat) : Int)))), (13, (.sc (.bool (decide ((((j : Nat) : Int) : Int) < ((c.params.length : Nat) : Int)))))), (27, (.sc (.bool (decide ((((k : Nat) : Int) : Int) < ((c.above.length : Nat) : Int))))))], [(1, (Pn.cCl c))], y0⟩) (fun | q => q ≤ c.methods.length ∧ (c.methods.take q).all (fun m => Pn.methB b.nm b.rt (c.params.length : Int) m) = true) (fun | q => c.methods.length - q) 0 ?_ ?_
      · exact ⟨Nat.zero_le _, by simp⟩
      rintro q hv23
      obtain ⟨hlq, htq⟩ := hv23
      refine Wp.seq ?_
      refine Wp.sr [.n (lenm Pn.encMe c.methods)] ?_
      refine Wp.cd (decide ((((q : Nat) : Int) : Int) < ((c.methods.length : Nat) : Int))) (fun h24 => ?_) (fun h24 => ?_)
      · have h24 := of_decide_eq_true h24
        refine Wp.skip ?_
        refine Wp.seq ?_
        refine Wp.block ?_
        obtain ⟨x27, hx26⟩ : ∃ z0, (c.methods)[q]? = some z0 := ⟨_, List.getElem?_eq_getElem (by omega)⟩
        have hR29 : Fine (.ag (Pn.cMe x27)) := hF5.row hx26 rfl
        have hF30 : Fine (.ls none (List.map Pn.encVr x27.params)) := hR29.at 13 rfl
        have hF30l := hF30.lenm
        have hF31 : Fine (.ls none (List.map Pn.encVr x27.locals)) := hR29.at 14 rfl
        have hF31l := hF31.lenm
        have hF32 : Fine (.ls none (List.map Pn.encS x27.body)) := hR29.at 15 rfl
        have hF32l := hF32.lenm
        have hw_x27 := Pn.wMs_in (List.mem_of_getElem? hx26)
        refine Wp.sr [.i (map_get Pn.encMe hx26), .c (method10 b x27 ((c.params.length : Nat) : Int) (by omega))] ?_
        refine Wp.cd (!(Pn.methB b.nm b.rt ((c.params.length : Nat) : Int) x27)) (fun h33 => ?_) (fun h33 => ?_)
        · have h33 : ¬ ((Pn.methB b.nm b.rt ((c.params.length : Nat) : Int) x27) = true) := by simpa using h33
          refine Wp.sr [] ?_
          refine Wp.ret ?_
          refine ⟨rfl, ?_⟩
          refine ⟨rfl, ?_⟩
          refine ⟨rfl, ?_⟩
          refine fin_r (.sc (.bool false)) ?_
          unfold Pn.classB
          rw [Pn.all_false (l := c.methods) hx26 (by simp [Pn.aboveB, h7, h14, h24, h33])]
          simp
        · have h33 : ((Pn.methB b.nm b.rt ((c.params.length : Nat) : Int) x27) = true) := by simpa using h33
          refine Wp.skip ?_
          refine Wp.rg [.z (int_add (x := ((q : Nat) : Int)) (y := 1) (z := (((q + 1) : Nat) : Int)) (by omega) (by omega) (by omega))] ?_
          refine ⟨(q + 1), .rf, ?_, ?_⟩
          · exact ⟨Pn.len_lt hx26, Pn.all_next hx26 htq (by simp [h7, h14, h24, h33])⟩
          · simp only; omega
      · have h24 := of_decide_eq_false h24
        refine Wp.exit ?_
        refine ⟨rfl, ?_⟩
        refine ⟨rfl, ?_⟩
        refine Wp.sr [.c (b.hnm c.name), .n (lenm Pn.encOw c.above), .c (b.hnm c.super), .n (lenm Pn.encOw c.above), .c (vars10 b c.fields 12 ((c.params.length : Nat) : Int)), .n (lenm Pn.encMe c.methods)] ?_
        refine Wp.ret ?_
        refine fin_r (.sc (.bool (((((b.nm c.name) && (decide ((((c.params.length : Nat) : Int) : Int) ≤ 3))) && (((decide (c.super = (⟨#[]⟩ : ByteArray))) && (decide ((((c.above.length : Nat) : Int) : Int) = 0))) || ((b.nm c.super) && (decide ((((c.above.length : Nat) : Int) : Int) ≤ 3))))) && (Pn.varsB b.nm b.rt c.fields 12 ((c.params.length : Nat) : Int))) && (decide ((((c.methods.length : Nat) : Int) : Int) ≤ 12))))) ?_
        unfold Pn.classB
        rw [Pn.all_end htj (by assumption), Pn.all_end htk (by assumption), Pn.all_end htq (by assumption)]
        first
          | rfl
          | (simp [Bool.and_assoc]; done)
end Go.Proofs.YtjghgpmkepfdhaaGreatDoor
