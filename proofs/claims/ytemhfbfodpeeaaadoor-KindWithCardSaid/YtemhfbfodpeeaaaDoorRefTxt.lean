/- The text of a type, as the document's answer tells it. Conditions: at most 1000 parameters, of at most 2000000 bytes each. -/
import Derived.Test.YtemhfbfodpeeaaaDoorTxt
import Derived.Test.YtemhfbfodpeeaaaDoorRefRig
namespace Go.Proofs.YtemhfbfodpeeaaaDoor
open Go.RowKit
set_option linter.unusedVariables false

/-- What is written behind the class with so many owners. -/
def Ty.pre (t : Ty) (ps : List ByteArray) (k : Nat) : List UInt8 := if k = 0 then [] else 60 :: Lib.join (((t.otexts ps).take k).map (·.data.toList)) [44, 32]
theorem joinTail_app (r q : List (List UInt8)) : Lib.joinTail [44, 32] (r ++ q) = Lib.joinTail [44, 32] r ++ Lib.joinTail [44, 32] q := by
  unfold Lib.joinTail; simp
theorem join_snoc (xs : List (List UInt8)) (y : List UInt8) (h : xs ≠ []) : Lib.join (xs ++ [y]) [44, 32] = Lib.join xs [44, 32] ++ ([44, 32] ++ y) := by
  match xs, h with
  | x :: r, _ =>
    rw [List.cons_append, Lib.join_cons, Lib.join_cons, joinTail_app]
    simp [Lib.joinTail]
theorem pre_first {t : Ty} {ps : List ByteArray} {y : ByteArray} (h : (t.otexts ps)[0]? = some y) : t.pre ps 1 = [60] ++ y.data.toList := by
  unfold Ty.pre
  rw [if_neg (by omega), show (1 : Nat) = 0 + 1 from rfl, List.take_add_one, h]
  simp [Lib.join_one]
theorem pre_next {t : Ty} {ps : List ByteArray} {y : ByteArray} {k : Nat} (hk : 0 < k) (h : (t.otexts ps)[k]? = some y) : t.pre ps (k + 1) = t.pre ps k ++ [44, 32] ++ y.data.toList := by
  unfold Ty.pre
  have hl : k < (t.otexts ps).length := by
    rcases Nat.lt_or_ge k (t.otexts ps).length with h' | h'
    · exact h'
    · rw [List.getElem?_eq_none h'] at h; cases h
  rw [if_neg (by omega), if_neg (by omega), List.take_add_one, h, List.map_append]
  rw [show (((some y).toList).map (·.data.toList)) = [y.data.toList] from rfl, join_snoc]
  · simp
  · intro e
    have := congrArg List.length e
    rw [List.length_map, List.length_take, List.length_nil] at this
    omega
theorem pre_end {t : Ty} {ps : List ByteArray} (h : 0 < t.cnt) : t.behind ps = t.pre ps t.cnt ++ [62] := by
  rw [behind_some h]
  unfold Ty.pre
  rw [if_neg (by omega), List.take_of_length_le (by rw [otexts_len]; exact Nat.le_refl _)]
  simp
theorem pre_short {t : Ty} {ps : List ByteArray} (k : Nat) (hps : ∀ i, (hi : i < ps.length) → ps[i].size ≤ 2000000) : (t.pre ps k).length ≤ 6000005 := by
  unfold Ty.pre
  split
  · simp
  · have := join_short (l := (t.otexts ps).take k) (B := 2000000) (by have := otexts_len t ps; have := t.cnt_le; rw [List.length_take]; omega) (fun b hb => otexts_short (by omega) hps b (List.mem_of_mem_take hb))
    rw [List.length_cons]; omega
theorem ahead_short {t : Ty} {ps : List ByteArray} (hps : ∀ i, (hi : i < ps.length) → ps[i].size ≤ 2000000) : (t.ahead ps).length ≤ 2000001 := by
  unfold Ty.ahead
  split
  · simp
  · have : (t.o0.text ps).data.toList.length = (t.o0.text ps).size := rfl
    have := Ow.text_le (o := t.o0) (B := 2000000) (by omega) hps
    simp; omega

/-- The text so far. -/
def SoFar (t : Ty) (ps : List ByteArray) (k : Nat) (s : ByteArray) (W0 wr : World) : Prop := s.data.toList = t.ahead ps ++ (t.cls.data.toList ++ t.pre ps k) ∧ Below W0.heap.size W0 wr
theorem sofar_short {t : Ty} {ps : List ByteArray} {k : Nat} {s : ByteArray} {W0 wr : World} (h : SoFar t ps k s W0 wr) (hc : t.cls.size ≤ 20) (hps : ∀ i, (hi : i < ps.length) → ps[i].size ≤ 2000000) : s.size ≤ 8000100 := by
  have h1 : s.data.toList.length = s.size := rfl
  have h2 := congrArg List.length h.1
  have h3 := ahead_short (t := t) hps
  have h4 := pre_short (t := t) k hps
  have h5 : t.cls.data.toList.length = t.cls.size := rfl
  rw [List.length_append, List.length_append] at h2
  omega
theorem sofar_first {t : Ty} {ps : List ByteArray} {s y : ByteArray} {W0 wr w' : World} (h : SoFar t ps 0 s W0 wr) (hy : (t.otexts ps)[0]? = some y) (hb : Below wr.heap.size wr w') : SoFar t ps 1 (s ++ ⟨#[60]⟩ ++ y) W0 w' := by
  refine ⟨?_, h.2.trans (hb.mono h.2.size)⟩
  rw [app_data, app_data, h.1, pre_first hy]
  simp [Ty.pre]
theorem sofar_next {t : Ty} {ps : List ByteArray} {k : Nat} {s y : ByteArray} {W0 wr w' : World} (hk : 0 < k) (h : SoFar t ps k s W0 wr) (hy : (t.otexts ps)[k]? = some y) (hb : Below wr.heap.size wr w') : SoFar t ps (k + 1) (s ++ ⟨#[44, 32]⟩ ++ y) W0 w' := by
  refine ⟨?_, h.2.trans (hb.mono h.2.size)⟩
  rw [app_data, app_data, h.1, pre_next hk hy]
  simp
theorem sofar_none {t : Ty} {ps : List ByteArray} {s : ByteArray} {W0 wr : World} (hR : t.right ps.length = true) (h2 : t.kind = 2) (h0 : t.cnt = 0) (h : SoFar t ps 0 s W0 wr) : s = ⟨(t.txt ps).toArray⟩ := by
  apply ba_ext
  rw [h.1, Ty.txt_obj hR h2, behind_none h0]; rfl
theorem sofar_end {t : Ty} {ps : List ByteArray} {s : ByteArray} {W0 wr : World} (hR : t.right ps.length = true) (h2 : t.kind = 2) (h0 : 0 < t.cnt) (h : SoFar t ps t.cnt s W0 wr) : s ++ ⟨#[62]⟩ = ⟨(t.txt ps).toArray⟩ := by
  apply ba_ext
  rw [app_data, h.1, Ty.txt_obj hR h2, pre_end h0]; simp

set_option maxHeartbeats 4000000 in
theorem refText_any (t : Ty) (A : Option Addr) (c : Nat) (ps : List ByteArray) (w : World) (hr : RS w w.heap.size A ps) (hl : ps.length ≤ 1000) (hc : ps.length ≤ c)
    (hps : ∀ i, (hi : i < ps.length) → ps[i].size ≤ 2000000) :
    Calls Tryd.prog 10 #[.agg t.cells, .slice A ps.length c] w fun e w' => e = .returned (.string ⟨(t.txt ps).toArray⟩) ∧ Below w.heap.size w w' := by
  have HT : Hid (TyIn (w.alloc (.cells t.cells 26)) w.heap.size t) := Lib.hid (TyIn.new w t)
  have HR := Lib.hid hr
  have HP := Lib.hid hps
  clear hr hps
  obtain ⟨W0, hW0⟩ : ∃ W0, W0 = w.alloc (.cells t.cells 26) := ⟨_, rfl⟩
  have HB0 : Hid (Below w.heap.size w W0) := Lib.hid (by rw [hW0]; exact below1 w _)
  have HR0 : Hid (RS W0 W0.heap.size A ps) := Lib.hid ((HR.out.below HB0.out).more HB0.out.size)
  rw [← hW0] at HT
  obtain ⟨g, hg⟩ : ∃ g, g = w.heap.size := ⟨_, rfl⟩
  rw [← hg] at HT
  have hW0' := hW0
  unfold Ty.cells at hW0
  obtain ⟨f0, f1, f2, f3, f4, f5, f6, f7, f8, f9, f10⟩ := HT.out.eleven
  by_cases hR : t.right ps.length = true
  case neg =>
    have hF : t.right ps.length = false := by simpa using hR
    have HF := Lib.hid hF
    have HV := Lib.hid (Ty.txt_no hF)
    clear hR hF
    unfold Ty.cells
    go_enter Tryd.func10, Tryd.ntmps10
    go_wp2_with fail
    rw [← hW0, ← hg]
    clear hg
    refine (refRight_any t _ _).mono ?_
    rintro e w1 ⟨rfl, hb1⟩
    rw [HF.out]
    go_wp2
    go_ret
    exact ⟨by rw [HV.out]; rfl, HB0.out.trans (hb1.mono HB0.out.size)⟩
  case pos =>
    have HF := Lib.hid hR
    have hk := right_kinds hR
    have hRk := Lib.hid hR
    clear hR
    rcases hk with hk | hk | hk
    · have HV := Lib.hid (Ty.txt_void hRk.out hk)
      have HK := Lib.hid hk
      clear hk
      unfold Ty.cells
      go_enter Tryd.func10, Tryd.ntmps10
      go_wp2_with fail
      rw [← hW0, ← hg]
      clear hg
      refine (refRight_any t _ _).mono ?_
      rintro e w1 ⟨rfl, hb1⟩
      rw [HF.out]
      have HT1 := Lib.hid (HT.out.below hb1)
      have HB1 := Lib.hid (HB0.out.trans (hb1.mono HB0.out.size))
      clear hb1 f0 f1 f2 f3 f4 f5 f6 f7 f8 f9 f10 hW0 hW0'
      obtain ⟨f0, f1, f2, f3, f4, f5, f6, f7, f8, f9, f10⟩ := HT1.out.eleven
      rw [HK.out] at f0
      go_wp2
      go_ret
      exact ⟨by rw [HV.out]; rfl, HB1.out⟩
    · have HV := Lib.hid (Ty.txt_int hRk.out hk)
      have HK := Lib.hid hk
      clear hk
      unfold Ty.cells
      go_enter Tryd.func10, Tryd.ntmps10
      go_wp2_with fail
      rw [← hW0, ← hg]
      clear hg
      refine (refRight_any t _ _).mono ?_
      rintro e w1 ⟨rfl, hb1⟩
      rw [HF.out]
      have HT1 := Lib.hid (HT.out.below hb1)
      have HB1 := Lib.hid (HB0.out.trans (hb1.mono HB0.out.size))
      clear hb1 f0 f1 f2 f3 f4 f5 f6 f7 f8 f9 f10 hW0 hW0'
      obtain ⟨f0, f1, f2, f3, f4, f5, f6, f7, f8, f9, f10⟩ := HT1.out.eleven
      rw [HK.out] at f0
      go_wp2
      go_ret
      exact ⟨by rw [HV.out]; rfl, HB1.out⟩
    · obtain ⟨hnm, hn0, hn3, hok⟩ := right_parts hRk.out hk
      have hcs := name_le hnm
      have HCS := Lib.hid hcs
      have HK := Lib.hid hk
      have hcn := Ty.cnt_mid hn0 hn3
      have hc3 := t.cnt_le
      obtain ⟨m, hm⟩ : ∃ m, m = t.cnt := ⟨_, rfl⟩
      have HM := Lib.hid hm
      have HN : Hid (t.n = (m : Int)) := Lib.hid (by omega)
      rw [← hm] at hc3
      clear hk hnm hn0 hn3 hok hcn hm
      unfold Ty.cells
      go_enter Tryd.func10, Tryd.ntmps10
      go_wp2_with fail
      rw [← hW0, ← hg]
      clear hg
      refine (refRight_any t _ _).mono ?_
      rintro e w1 ⟨rfl, hb1⟩
      rw [HF.out]
      have HT1 := Lib.hid (HT.out.below hb1)
      have HB1 := Lib.hid (HB0.out.trans (hb1.mono HB0.out.size))
      have HR1 : Hid (RS w1 w1.heap.size A ps) := Lib.hid ((HR0.out.below hb1).more hb1.size)
      clear hb1 f0 f1 f2 f3 f4 f5 f6 f7 f8 f9 f10 hW0 hW0'
      obtain ⟨f0, f1, f2, f3, f4, f5, f6, f7, f8, f9, f10⟩ := HT1.out.eleven
      rw [HK.out] at f0
      rw [HN.out] at f2
      obtain ⟨W1, hW1⟩ : ∃ W1, W1 = w1 := ⟨_, rfl⟩
      subst hW1
      by_cases h7 : t.o0.kind = 7
      · have HS0 : Hid (SoFar t ps 0 t.cls W1 W1) := Lib.hid ⟨by unfold Ty.ahead Ty.pre; rw [if_pos h7]; simp, Below.refl _ _⟩
        rw [h7] at f3
        clear h7
        go_wp2
        go_loopw [5, 6] (fun s i wr => ∃ (j : Nat) (b : ByteArray), 1 ≤ j ∧ j ≤ m + 1 ∧ i = .int .i64 j ∧ s = .string b ∧ Hid (SoFar t ps (j - 1) b W1 wr)) (fun _ i _ => m + 1 - (intOf i).toNat)
        case atStart => exact ⟨1, _, by omega, by omega, rfl, rfl, HS0⟩
        case round =>
          obtain ⟨j, s, hj1, hj, rfl, rfl, hs⟩ := hrel
          clear f0 f1 f2 f3 f4 f5 f6 f7 f8 f9 f10
          have HTr := Lib.hid (HT1.out.below hs.out.2)
          obtain ⟨f0, f1, f2, f3, f4, f5, f6, f7, f8, f9, f10⟩ := HTr.out.eleven
          rw [HN.out] at f2
          have hgr := HTr.out.lt
          have hsz := hs.out.2.size
          have HRr : Hid (RS wr wr.heap.size A ps) := Lib.hid ((HR1.out.below hs.out.2).more hsz)
          have hss := sofar_short hs.out HCS.out HP.out
          have HBr := Lib.hid (HB1.out.trans (hs.out.2.mono HB1.out.size))
          by_cases hlt : j ≤ m
          · have HY : Hid ((t.otexts ps)[j - 1]? = some ((t.own j).text ps)) := Lib.hid (by
              have := otexts_at t ps (j - 1) (by rw [← HM.out]; omega)
              rw [show j - 1 + 1 = j by omega] at this
              exact this)
            by_cases h1 : j = 1
            · subst h1
              obtain ⟨q0, q1⟩ := HTr.out.own_at (i := 1) (off := 5) (by omega) (by omega)
              obtain ⟨x, hx⟩ : ∃ x, x = t.own 1 := ⟨_, rfl⟩
              rw [← hx] at q0 q1 HY
              clear hx
              have hys : (x.text ps).size ≤ 2000000 := Ow.text_le (by omega) HP.out
              have z1 : ¬ 9223372036854775807 < s.size + 1 := by omega
              clear f5 f6
              go_wp2_with fail
              refine (refOText_any x A c ps _ HRr.out hl hc).mono ?_
              rintro e w2 ⟨rfl, hb2⟩
              obtain ⟨y, hy⟩ : ∃ y, y = x.text ps := ⟨_, rfl⟩
              rw [← hy] at HY hys ⊢
              have HB2 := Lib.hid hb2
              have z2 : ¬ 9223372036854775807 < s.size + 1 + y.size := by omega
              clear hb2 hy
              go_wp2
              go_roundw
              case rel => exact ⟨2, _, by omega, by omega, rfl, rfl, Lib.hid (sofar_first hs.out HY.out HB2.out)⟩
              case measure => simp [intOf]; omega
            · obtain ⟨q0, q1⟩ := HTr.out.own_at (i := j) (off := 3 + j * 2) (by omega) (by omega)
              obtain ⟨x, hx⟩ : ∃ x, x = t.own j := ⟨_, rfl⟩
              rw [← hx] at q0 q1 HY
              clear hx
              have hys : (x.text ps).size ≤ 2000000 := Ow.text_le (by omega) HP.out
              have z1 : ¬ 9223372036854775807 < s.size + 2 := by omega
              have e1 : ((j : Int) == 1) = false := beq_no (by omega)
              clear h1
              go_wp2_with fail
              refine (refOText_any x A c ps _ HRr.out hl hc).mono ?_
              rintro e w2 ⟨rfl, hb2⟩
              obtain ⟨y, hy⟩ : ∃ y, y = x.text ps := ⟨_, rfl⟩
              rw [← hy] at HY hys ⊢
              have HB2 := Lib.hid hb2
              have HJ : Hid (1 < j) := Lib.hid (by have : ¬ (j : Int) = 1 := fun e => by rw [e] at e1; simp at e1
                                                   omega)
              have z2 : ¬ 9223372036854775807 < s.size + 2 + y.size := by omega
              clear hb2 hy
              go_wp2
              go_roundw
              case rel => exact ⟨j + 1, _, by omega, by omega, by go_num, rfl, Lib.hid (by
                have := sofar_next (by have := HJ.out; omega) hs.out HY.out HB2.out
                rw [show j - 1 + 1 = j + 1 - 1 by omega] at this
                exact this)⟩
              case measure => simp [intOf]; omega
          · obtain rfl : j = m + 1 := by omega
            by_cases hm0 : m = 0
            · subst hm0
              have HE := Lib.hid (sofar_none hRk.out HK.out HM.out.symm hs.out)
              go_wp2
              go_ret
              exact ⟨ret_s HE.out, HBr.out⟩
            · have HE := Lib.hid (sofar_end hRk.out HK.out (by rw [← HM.out]; omega) (by rw [← HM.out]; exact hs.out))
              have hm1 : 0 < m := by omega
              have z1 : ¬ 9223372036854775807 < s.size + 1 := by omega
              clear hm0
              go_wp2
              go_ret
              exact ⟨ret_s HE.out, HBr.out⟩
      · have e7 : (t.o0.kind != 7) = true := by simpa using h7
        have HA : Hid (t.ahead ps = (t.o0.text ps).data.toList ++ [32]) := Lib.hid (by unfold Ty.ahead; rw [if_neg h7])
        have hys : (t.o0.text ps).size ≤ 2000000 := Ow.text_le (by omega) HP.out
        clear h7
        have hgW := HT1.out.lt
        go_wp2_with fail
        refine (refOText_any t.o0 A c ps _ HR1.out hl hc).mono ?_
        rintro e w3 ⟨rfl, hb3⟩
        obtain ⟨y, hy⟩ : ∃ y, y = t.o0.text ps := ⟨_, rfl⟩
        rw [← hy] at HA hys ⊢
        have HT3 := Lib.hid (HT1.out.below hb3)
        have HB3 := Lib.hid (HB1.out.trans (hb3.mono HB1.out.size))
        have HR3 : Hid (RS w3 w3.heap.size A ps) := Lib.hid ((HR1.out.below hb3).more hb3.size)
        have HS0 : Hid (SoFar t ps 0 (y ++ ⟨#[32]⟩ ++ t.cls) w3 w3) := Lib.hid ⟨by rw [app_data, app_data, HA.out]; simp [Ty.pre], Below.refl _ _⟩
        have z2 : ¬ 9223372036854775807 < y.size + 1 := by omega
        have z3 : ¬ 9223372036854775807 < y.size + 1 + t.cls.size := by omega
        clear hy hb3 f0 f1 f2 f3 f4 f5 f6 f7 f8 f9 f10 HT1 HB1 HR1 hgW
        obtain ⟨f0, f1, f2, f3, f4, f5, f6, f7, f8, f9, f10⟩ := HT3.out.eleven
        rw [HN.out] at f2
        go_wp2
        clear z2 z3
        go_loopw [5, 6] (fun s i wr => ∃ (j : Nat) (b : ByteArray), 1 ≤ j ∧ j ≤ m + 1 ∧ i = .int .i64 j ∧ s = .string b ∧ Hid (SoFar t ps (j - 1) b w3 wr)) (fun _ i _ => m + 1 - (intOf i).toNat)
        case atStart => exact ⟨1, _, by omega, by omega, rfl, rfl, HS0⟩
        case round =>
          obtain ⟨j, s, hj1, hj, rfl, rfl, hs⟩ := hrel
          clear f0 f1 f2 f3 f4 f5 f6 f7 f8 f9 f10
          have HTr := Lib.hid (HT3.out.below hs.out.2)
          obtain ⟨f0, f1, f2, f3, f4, f5, f6, f7, f8, f9, f10⟩ := HTr.out.eleven
          rw [HN.out] at f2
          have hgr := HTr.out.lt
          have hsz := hs.out.2.size
          have HRr : Hid (RS wr wr.heap.size A ps) := Lib.hid ((HR3.out.below hs.out.2).more hsz)
          have hss := sofar_short hs.out HCS.out HP.out
          have HBr := Lib.hid (HB3.out.trans (hs.out.2.mono HB3.out.size))
          by_cases hlt : j ≤ m
          · have HY : Hid ((t.otexts ps)[j - 1]? = some ((t.own j).text ps)) := Lib.hid (by
              have := otexts_at t ps (j - 1) (by rw [← HM.out]; omega)
              rw [show j - 1 + 1 = j by omega] at this
              exact this)
            by_cases h1 : j = 1
            · subst h1
              obtain ⟨q0, q1⟩ := HTr.out.own_at (i := 1) (off := 5) (by omega) (by omega)
              obtain ⟨x, hx⟩ : ∃ x, x = t.own 1 := ⟨_, rfl⟩
              rw [← hx] at q0 q1 HY
              clear hx
              have hys : (x.text ps).size ≤ 2000000 := Ow.text_le (by omega) HP.out
              have z1 : ¬ 9223372036854775807 < s.size + 1 := by omega
              clear f5 f6
              go_wp2_with fail
              refine (refOText_any x A c ps _ HRr.out hl hc).mono ?_
              rintro e w2 ⟨rfl, hb2⟩
              obtain ⟨y, hy⟩ : ∃ y, y = x.text ps := ⟨_, rfl⟩
              rw [← hy] at HY hys ⊢
              have HB2 := Lib.hid hb2
              have z2 : ¬ 9223372036854775807 < s.size + 1 + y.size := by omega
              clear hb2 hy
              go_wp2
              go_roundw
              case rel => exact ⟨2, _, by omega, by omega, rfl, rfl, Lib.hid (sofar_first hs.out HY.out HB2.out)⟩
              case measure => simp [intOf]; omega
            · obtain ⟨q0, q1⟩ := HTr.out.own_at (i := j) (off := 3 + j * 2) (by omega) (by omega)
              obtain ⟨x, hx⟩ : ∃ x, x = t.own j := ⟨_, rfl⟩
              rw [← hx] at q0 q1 HY
              clear hx
              have hys : (x.text ps).size ≤ 2000000 := Ow.text_le (by omega) HP.out
              have z1 : ¬ 9223372036854775807 < s.size + 2 := by omega
              have e1 : ((j : Int) == 1) = false := beq_no (by omega)
              clear h1
              go_wp2_with fail
              refine (refOText_any x A c ps _ HRr.out hl hc).mono ?_
              rintro e w2 ⟨rfl, hb2⟩
              obtain ⟨y, hy⟩ : ∃ y, y = x.text ps := ⟨_, rfl⟩
              rw [← hy] at HY hys ⊢
              have HB2 := Lib.hid hb2
              have HJ : Hid (1 < j) := Lib.hid (by have : ¬ (j : Int) = 1 := fun e => by rw [e] at e1; simp at e1
                                                   omega)
              have z2 : ¬ 9223372036854775807 < s.size + 2 + y.size := by omega
              clear hb2 hy
              go_wp2
              go_roundw
              case rel => exact ⟨j + 1, _, by omega, by omega, by go_num, rfl, Lib.hid (by
                have := sofar_next (by have := HJ.out; omega) hs.out HY.out HB2.out
                rw [show j - 1 + 1 = j + 1 - 1 by omega] at this
                exact this)⟩
              case measure => simp [intOf]; omega
          · obtain rfl : j = m + 1 := by omega
            by_cases hm0 : m = 0
            · subst hm0
              have HE := Lib.hid (sofar_none hRk.out HK.out HM.out.symm hs.out)
              go_wp2
              go_ret
              exact ⟨ret_s HE.out, HBr.out⟩
            · have HE := Lib.hid (sofar_end hRk.out HK.out (by rw [← HM.out]; omega) (by rw [← HM.out]; exact hs.out))
              have hm1 : 0 < m := by omega
              have z1 : ¬ 9223372036854775807 < s.size + 1 := by omega
              clear hm0
              go_wp2
              go_ret
              exact ⟨ret_s HE.out, HBr.out⟩
end Go.Proofs.YtemhfbfodpeeaaaDoor
