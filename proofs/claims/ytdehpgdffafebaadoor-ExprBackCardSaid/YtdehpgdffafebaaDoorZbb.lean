/- ExprBack holds of any expression and any text. Conditions: the tables lie in memory. -/
import Derived.Test.YtdehpgdffafebaaDoorZba
import Derived.Test.YtdehpgdffafebaaDoorZay
namespace Go.Proofs.YtdehpgdffafebaaDoor
open Go.RowKit
set_option linter.unusedVariables false

theorem right_any0 (e : E) (v : Value) (w : World) (hv : InV w.heap.size w e v) (hL : Laid w) : Calls Tryd.prog 9 #[v] w fun x w' => x = .returned (.bool (E.right e)) ∧ Below w.heap.size w w' := by
  have HE := Lib.hid (E.right_eq e)
  obtain ⟨k, n, s, l, A, c, -, rfl, -, -, -, -⟩ := hv.open
  have hbx : Below w.heap.size w (w.alloc (.cells (cE k n s A l.length c) tE)) := (Below.refl _ _).alloc (Nat.le_refl _) _
  have HR := Lib.hid (rightD_any _ e _ 20 _ (Nat.le_refl _) ((hv.below hbx).more hbx.size) (by omega) (by omega) (hL.below hbx))
  clear hv
  go_enter Tryd.func9, Tryd.ntmps9
  go_wp2_with fail
  refine HR.out.mono ?_
  rintro e' w1 ⟨rfl, hb1⟩
  go_wp2_with fail
  go_ret
  exact ⟨by rw [← HE.out]; rfl, hbx.trans (hb1.mono hbx.size)⟩
set_option maxRecDepth 100000 in
theorem textTells0 (e : E) (v : Value) (w : World) (hv : InV w.heap.size w e v) (hlaid : Laid w) : Calls Tryd.prog 11 #[v] w fun x w' => x = .returned (.string (textB e)) ∧ Below w.heap.size w w' := by
  cases hr : E.right e with
  | true =>
    have h1 : E.count e + 1 ≤ 2 ^ 20 := by
      have hr' := hr
      unfold E.right at hr'
      simp only [Bool.and_eq_true, decide_eq_true_eq] at hr'
      exact right_count e 20 hr'.1 hr'.2
    exact textTells_any e v w (by omega) hv hlaid
  | false =>
    have HR : Hid (∀ W, Below w.heap.size w W → Calls Tryd.prog 9 #[v] W fun x w' => x = .returned (.bool (E.right e)) ∧ Below W.heap.size W w') := Lib.hid (fun W hb => right_any0 e v W ((hv.below hb).more hb.size) (hlaid.below hb))
    obtain ⟨k, n, s, l, A, c, -, rfl, -, -, -, -⟩ := hv.open
    have hbx : Below w.heap.size w (w.alloc (.cells (cE k n s A l.length c) tE)) := (Below.refl _ _).alloc (Nat.le_refl _) _
    have hbox := heap_new w (.cells (cE k n s A l.length c) tE)
    obtain ⟨W0, hW0⟩ : ∃ W0, W0 = w.alloc (.cells (cE k n s A l.length c) tE) := ⟨_, rfl⟩
    rw [← hW0] at hbx hbox
    have HR0 := Lib.hid (HR.out _ hbx)
    obtain ⟨L, hL⟩ : ∃ L, L = l.length := ⟨_, rfl⟩
    rw [← hL] at HR0 hbox hW0 ⊢
    clear hL hv hlaid HR
    obtain ⟨z0, z1, z2, z3⟩ := row4 hbox
    have HB := Lib.hid hbx
    clear hbox hbx
    rw [hr] at HR0
    have HT : Hid (textB e = ⟨#[]⟩) := Lib.hid (by unfold textB; rw [hr]; rfl)
    clear hr
    go_enter Tryd.func11, Tryd.ntmps11
    go_wp2_with fail
    rw [← hW0]
    clear hW0
    go_wp2_with fail
    refine HR0.out.mono ?_
    rintro e w1 ⟨rfl, hb1⟩
    go_wp2_with fail
    go_ret
    exact ⟨by rw [HT.out]; rfl, HB.out.trans (hb1.mono HB.out.size)⟩
theorem inV_zero (W : World) : InV W.heap.size W (.mk 0 0 ⟨#[]⟩ []) (.agg #[.int .i64 0, .int .i64 0, .string ⟨#[]⟩, .slice none 0 0]) := by
  rw [InV]
  exact ⟨none, 0, rfl, by omega, Nat.le_refl _, Nat.zero_le _, fun h => by simp at h⟩

set_option maxRecDepth 100000 in
set_option maxHeartbeats 8000000 in
theorem back_law (e : E) (v : Value) (t : ByteArray) (w : World) (hv : InV w.heap.size w e v) (hL : Laid w) :
    Calls Tryd.prog 4 #[v, .string t] w fun x w' => x = .returned (.bool true) ∧ Below w.heap.size w w' := by
  have hvo := hv
  obtain ⟨k, n, s, l, A, c, -, rfl, -, -, -, -⟩ := hvo.open
  have h0 := heap_new w (.cells (cE k n s A l.length c) tE)
  have hb : Below w.heap.size w (w.alloc (.cells (cE k n s A l.length c) tE)) := (Below.refl _ w).alloc (Nat.le_refl _) _
  obtain ⟨W0, hW0⟩ : ∃ W0, W0 = w.alloc (.cells (cE k n s A l.length c) tE) := ⟨_, rfl⟩
  rw [← hW0] at h0 hb
  obtain ⟨L, hLL⟩ : ∃ L, L = l.length := ⟨_, rfl⟩
  rw [← hLL] at h0 hv hW0 ⊢
  clear hLL hvo
  have HV : Hid (∀ W, Below w.heap.size w W → InV W.heap.size W e (.agg #[.int .i64 k, .int .i64 n, .string s, .slice A L c])) := Lib.hid (fun W hb => (hv.below hb).more hb.size)
  have H0 := Lib.hid h0
  have HB := Lib.hid hb
  have HLD : Hid (∀ W, Below w.heap.size w W → Laid W) := Lib.hid (fun W hb => hL.below hb)
  have HSE : Hid (∀ W, Below w.heap.size w W → Calls Tryd.prog 5 #[.agg #[.int .i64 k, .int .i64 n, .string s, .slice A L c]] W fun x w' => x = .returned (.int .i64 (sz e)) ∧ Below W.heap.size W w') := Lib.hid (fun W hb => size_any _ e _ W (Nat.le_refl _) (HV.out W hb))
  have HAW : Hid (∀ W, Below w.heap.size w W → Calls Tryd.prog 6 #[] W fun x w' => x = .returned (.bool true) ∧ Below W.heap.size W w') := Lib.hid (fun W hb => awake_any W (HLD.out W hb))
  have HRI : Hid (∀ W, Below w.heap.size w W → Calls Tryd.prog 9 #[.agg #[.int .i64 k, .int .i64 n, .string s, .slice A L c]] W fun x w' => x = .returned (.bool (E.right e)) ∧ Below W.heap.size W w') := Lib.hid (fun W hb => right_any0 e _ W (HV.out W hb) (HLD.out W hb))
  have HTX : Hid (∀ W, Below w.heap.size w W → Calls Tryd.prog 11 #[.agg #[.int .i64 k, .int .i64 n, .string s, .slice A L c]] W fun x w' => x = .returned (.string (textB e)) ∧ Below W.heap.size W w') := Lib.hid (fun W hb => textTells0 e _ W (HV.out W hb) (HLD.out W hb))
  have HPA : Hid (∀ (l : List Gt) (g c : Nat) (W : World), Below w.heap.size w W → RT W W.heap.size (some ⟨g, 0, none⟩) l → l.length ≤ 100000 → l.length ≤ c → c ≤ maxLen → Calls Tryd.prog 16 #[.slice (some ⟨g, 0, none⟩) l.length c, .int .i64 0] W (PaP W (parseP l))) := Lib.hid (fun l g c W hb hr h1 h2 h3 => parse_any' l (by omega) _ c W hr h2 h3 (HLD.out W hb).signs (HLD.out W hb).plains)
  obtain ⟨ze, hze⟩ : ∃ z, z = sz e := ⟨_, rfl⟩
  rw [← hze] at HSE
  have HZE := Lib.hid hze
  clear hv h0 hb hL hze
  obtain ⟨z0, z1, z2, z3⟩ := row4 H0.out
  go_enter Tryd.func4, Tryd.ntmps4
  by_cases he2 : 200 < ze
  · have d1 : decide (200 < ze) = true := by simpa using he2
    go_upto_region 1 with fail
    rw [← hW0]
    clear hW0
    go_wp2_with fail
    refine (HSE.out W0 HB.out).mono ?_
    rintro x w1 ⟨rfl, hb1⟩
    have HB1 := Lib.hid (HB.out.trans (hb1.mono HB.out.size))
    clear z0 z1 z2 z3
    go_wp2_with fail
    refine (HAW.out w1 HB1.out).mono ?_
    rintro x w2 ⟨rfl, hb2⟩
    have HB2 := Lib.hid (HB1.out.trans (hb2.mono HB1.out.size))
    go_wp2_with fail
    go_ret
    exact ⟨rfl, HB2.out⟩
  · have d1 : decide (200 < ze) = false := by simpa using he2
    have HZ2 := Lib.hid he2
    go_upto_region 1 with fail
    rw [← hW0]
    clear hW0
    go_wp2_with fail
    refine (HSE.out W0 HB.out).mono ?_
    rintro x w1 ⟨rfl, hb1⟩
    have HB1 := Lib.hid (HB.out.trans (hb1.mono HB.out.size))
    have H01 := Lib.hid ((hb1.block _ (heap_lt H0.out)).trans H0.out)
    clear z0 z1 z2 z3 hb1
    by_cases ht : 400 < t.size
    · have d2 : decide ((400 : Int) < (t.size : Int)) = true := by simp; omega
      go_wp2_with fail
      refine (HAW.out w1 HB1.out).mono ?_
      rintro x w2 ⟨rfl, hb2⟩
      have HB2 := Lib.hid (HB1.out.trans (hb2.mono HB1.out.size))
      go_wp2_with fail
      go_ret
      exact ⟨rfl, HB2.out⟩
    · have d2 : decide ((400 : Int) < (t.size : Int)) = false := by simp; omega
      go_wp2_with fail
      refine (refOf_any t (by omega) w1).mono ?_
      rintro x w2 hp2
      cases hr : Tk.ofL t.data.toList with
      | err xe xa =>
        obtain ⟨rfl, hb2⟩ := of_err hp2 hr
        have hxe : xe ≠ 0 := by
          have := (Tk.ofL_err (s := t.data.toList) (by show t.size ≤ 16384; omega) hr).2
          omega
        have d3 : (((xe : Int) == 0) : Bool) = false := by simp; omega
        have hb3 := boxed w2 (.cells #[.int .i64 (xe : Int), .int .i64 (xa : Int)] 35)
        have hn3 := heap_new w2 (.cells #[.int .i64 (xe : Int), .int .i64 (xa : Int)] 35)
        have hr2 := (hb2.block _ (heap_lt H01.out)).trans H01.out
        have HB2 := Lib.hid (HB1.out.trans (hb2.mono HB1.out.size))
        obtain ⟨W3, hW3⟩ : ∃ W, W = w2.alloc (.cells #[.int .i64 (xe : Int), .int .i64 (xa : Int)] 35) := ⟨_, rfl⟩
        rw [← hW3] at hb3 hn3
        have HB3 := Lib.hid (HB2.out.trans (hb3.mono HB2.out.size))
        have H03 := Lib.hid ((hb3.block _ (heap_lt hr2)).trans hr2)
        obtain ⟨q0, q1⟩ := row2 hn3
        clear hp2 hr hb2 hb3 hn3 hr2 hxe
        go_upto_region 4 with fail
        rw [← hW3]
        clear hW3
        go_upto_region 8 with fail
        clear q0 q1 d3
        obtain ⟨z0, z1, z2, z3⟩ := row4 H03.out
        go_wp2_with fail
        refine (HRI.out W3 HB3.out).mono ?_
        rintro x y1 ⟨rfl, hc1⟩
        have HC1 := Lib.hid (HB3.out.trans (hc1.mono HB3.out.size))
        have G01 := Lib.hid ((hc1.block _ (heap_lt H03.out)).trans H03.out)
        clear z0 z1 z2 z3 hc1
        cases hrt : E.right e with
        | false =>
          have HTX1 := Lib.hid (HTX.out y1 HC1.out)
          rw [show textB e = ⟨#[]⟩ by unfold textB; rw [hrt]; rfl] at HTX1
          clear hrt
          obtain ⟨z0, z1, z2, z3⟩ := row4 G01.out
          go_wp2_with fail
          refine HTX1.out.mono ?_
          rintro x y2 ⟨rfl, hc2⟩
          have HC2 := Lib.hid (HC1.out.trans (hc2.mono HC1.out.size))
          clear z0 z1 z2 z3 hc2
          go_wp2_with fail
          refine (HAW.out y2 HC2.out).mono ?_
          rintro x y3 ⟨rfl, hc3⟩
          have HC3 := Lib.hid (HC2.out.trans (hc3.mono HC2.out.size))
          go_wp2_with fail
          go_ret
          exact ⟨rfl, HC3.out⟩
        | true =>
          have hsm := small_text hrt (by have := HZE.out; have := HZ2.out; omega)
          obtain ⟨rr, rd, hof, hpa⟩ := text_back e hrt hsm.2
          have HTX1 := Lib.hid (HTX.out y1 HC1.out)
          rw [show textB e = txB e by unfold textB; rw [if_pos hrt]] at HTX1
          have HPB := Lib.hid hpa
          have hof' : Tk.ofL (txB e).data.toList = .ok rr := by rw [txB_list]; exact hof
          have hsz : (txB e).size ≤ 16384 := by
            show (tx e).toArray.size ≤ 16384
            simpa using hsm.2
          have HOF : Hid (∀ W, Calls Tryd.prog 15 #[.string (txB e)] W (OfPost (txB e).data.toList W)) := Lib.hid (fun W => refOf_any (txB e) hsz W)
          have HOK := Lib.hid hof'
          have HRN : Hid (rr ≠ [] ∧ rr.length ≤ 16385) := Lib.hid ⟨Tk.toks_ne (Tk.ofL_toks hof).2, by
            have := Tk.ofL_len hof
            omega⟩
          generalize txB e = tb at HTX1 HOF HOK
          clear hrt hsm hof hpa hof' hsz
          obtain ⟨z0, z1, z2, z3⟩ := row4 G01.out
          go_wp2_with fail
          refine HTX1.out.mono ?_
          rintro x y2 ⟨rfl, hc2⟩
          have HC2 := Lib.hid (HC1.out.trans (hc2.mono HC1.out.size))
          have G02 := Lib.hid ((hc2.block _ (heap_lt G01.out)).trans G01.out)
          clear z0 z1 z2 z3 hc2
          go_wp2_with fail
          refine (HOF.out y2).mono ?_
          rintro x y3 hp3
          obtain ⟨g3, c3, rfl, hg3, hl3, hc3, hm3, hcell3, hb3⟩ := of_ok hp3 HOK.out
          have hrt3 := rt_of hcell3 hl3
          have hb4 := boxed y3 (.cells #[.int .i64 0, .int .i64 0] 35)
          have hn4 := heap_new y3 (.cells #[.int .i64 0, .int .i64 0] 35)
          have hr3 := (hb3.block _ (heap_lt G02.out)).trans G02.out
          have HC3 := Lib.hid (HC2.out.trans (hb3.mono HC2.out.size))
          obtain ⟨Y4, hY4⟩ : ∃ W, W = y3.alloc (.cells #[.int .i64 0, .int .i64 0] 35) := ⟨_, rfl⟩
          rw [← hY4] at hb4 hn4
          have HC4 := Lib.hid (HC3.out.trans (hb4.mono HC3.out.size))
          have G04 := Lib.hid ((hb4.block _ (heap_lt hr3)).trans hr3)
          obtain ⟨l4, hl4⟩ : ∃ ll, ll = rr.map Gt.ofTok := ⟨_, rfl⟩
          have hle4 : rr.length = l4.length := by rw [hl4, List.length_map]
          rw [← hl4] at HPB
          rw [hle4] at hc3 HPB ⊢
          have hln := HRN.out.2
          have hl0 : 0 < l4.length := by
            rw [← hle4]
            exact List.length_pos_iff.2 HRN.out.1
          rw [hle4] at hln
          have HK4 := Lib.hid (HPA.out l4 g3 c3 Y4 HC4.out (by rw [hl4]; exact (hrt3.below hb4).more hb4.size) (by omega) hc3 hm3)
          rw [HPB.out] at HK4
          obtain ⟨n4, hn4'⟩ : ∃ n0, n0 = l4.length := ⟨_, rfl⟩
          rw [← hn4'] at HK4 hl0 hln ⊢
          obtain ⟨q0, q1⟩ := row2 hn4
          clear hp3 hb3 hb4 hr3 hn4 hrt3 hcell3 hl4 hle4 hn4' hc3
          go_upto_region 12 with fail
          rw [← hY4]
          clear hY4
          go_wp2_with fail
          refine HK4.out.mono ?_
          rintro x y5 ⟨hb5, k5, n5, s5, A5, L5, C5, rfl, hi5⟩
          have hi6 := hi5.inV (B := y5.heap.size) (fun b h => h.2)
          have hb6 : Below y5.heap.size y5 ((y5.alloc (.cells #[.int .i64 k5, .int .i64 n5, .string s5, .slice A5 L5 C5] tE)).alloc (.cells #[.int .i64 0, .int .i64 0] 35)) := ((Below.refl _ y5).alloc (Nat.le_refl _) _).alloc (by simp only [World.size_alloc]; omega) _
          have h60 := (Below.heap_alloc (y5.alloc (.cells #[.int .i64 k5, .int .i64 n5, .string s5, .slice A5 L5 C5] tE)) (.cells #[.int .i64 0, .int .i64 0] 35) y5.heap.size (by simp only [World.size_alloc]; omega)).trans (heap_new y5 (.cells #[.int .i64 k5, .int .i64 n5, .string s5, .slice A5 L5 C5] tE))
          have h61 := heap_new (y5.alloc (.cells #[.int .i64 k5, .int .i64 n5, .string s5, .slice A5 L5 C5] tE)) (.cells #[.int .i64 0, .int .i64 0] 35)
          simp only [World.size_alloc] at h61
          have h05 := (hb5.block _ (heap_lt G04.out)).trans G04.out
          have HC5 := Lib.hid (HC4.out.trans (hb5.mono HC4.out.size))
          obtain ⟨Y6, hY6⟩ : ∃ W, W = (y5.alloc (.cells #[.int .i64 k5, .int .i64 n5, .string s5, .slice A5 L5 C5] tE)).alloc (.cells #[.int .i64 0, .int .i64 0] 35) := ⟨_, rfl⟩
          rw [← hY6] at hb6 h60 h61
          have HC6 := Lib.hid (HC5.out.trans (hb6.mono HC5.out.size))
          have g06 := (hb6.block _ (heap_lt h05)).trans h05
          have HSM := Lib.hid (same_any _ e e _ _ Y6 (Nat.le_refl _) ((hi6.below hb6).more hb6.size) (HV.out Y6 HC6.out))
          rw [E.same_self] at HSM
          obtain ⟨z0, z1, z2, z3⟩ := row4 h60
          obtain ⟨u0, u1, u2, u3⟩ := row4 g06
          obtain ⟨q2, q3⟩ := row2 h61
          clear hb5 hb6 h60 h61 h05 g06 hi5 hi6 q0 q1
          go_upto_region 15 with fail
          rw [← hY6]
          clear hY6
          go_wp2_with fail
          refine HSM.out.mono ?_
          rintro x y7 ⟨rfl, hb7⟩
          have HC7 := Lib.hid (HC6.out.trans (hb7.mono HC6.out.size))
          clear z0 z1 z2 z3 u0 u1 u2 u3 q2 q3 hb7
          go_wp2_with fail
          refine (HAW.out y7 HC7.out).mono ?_
          rintro x y8 ⟨rfl, hb8⟩
          have HC8 := Lib.hid (HC7.out.trans (hb8.mono HC7.out.size))
          go_wp2_with fail
          go_ret
          exact ⟨rfl, HC8.out⟩
      | ok r =>
        obtain ⟨g1, c1, rfl, hg1, hl1, hc1, hm1, hcell1, hb2⟩ := of_ok hp2 hr
        have hrt1 := rt_of hcell1 hl1
        have hlen := Tk.ofL_len hr
        have HRL : Hid (r.length ≤ 401) := Lib.hid (by have : t.data.toList.length = t.size := rfl; omega)
        have HFI := Lib.hid (fine_of hr)
        have hb3 := boxed w2 (.cells #[.int .i64 0, .int .i64 0] 35)
        have hn3 := heap_new w2 (.cells #[.int .i64 0, .int .i64 0] 35)
        have hr2 := (hb2.block _ (heap_lt H01.out)).trans H01.out
        have HB2 := Lib.hid (HB1.out.trans (hb2.mono HB1.out.size))
        obtain ⟨W3, hW3⟩ : ∃ W, W = w2.alloc (.cells #[.int .i64 0, .int .i64 0] 35) := ⟨_, rfl⟩
        rw [← hW3] at hb3 hn3
        have HB3 := Lib.hid (HB2.out.trans (hb3.mono HB2.out.size))
        have H03 := Lib.hid ((hb3.block _ (heap_lt hr2)).trans hr2)
        obtain ⟨ll, hll⟩ : ∃ ll, ll = r.map Gt.ofTok := ⟨_, rfl⟩
        have hle : r.length = ll.length := by rw [hll, List.length_map]
        rw [← hll] at HFI
        rw [hle] at hc1 HRL ⊢
        have HK3 := Lib.hid (HPA.out ll g1 c1 W3 HB3.out (by rw [hll]; exact (hrt1.below hb3).more hb3.size) (by have := HRL.out; omega) hc1 hm1)
        obtain ⟨n0, hn0⟩ : ∃ n0, n0 = ll.length := ⟨_, rfl⟩
        have HN0 := Lib.hid hn0
        rw [← hn0] at HK3 ⊢
        obtain ⟨q0, q1⟩ := row2 hn3
        clear hp2 hr hb2 hb3 hr2 hn3 hrt1 hlen hcell1 hll hle hn0 hc1
        go_upto_region 4 with fail
        rw [← hW3]
        clear hW3
        go_wp2_with fail
        refine HK3.out.mono ?_
        rintro x w4 hp4
        obtain ⟨pr, hpr⟩ : ∃ pr, pr = parseP ll := ⟨_, rfl⟩
        have HPR := Lib.hid hpr
        rw [← hpr] at hp4
        clear q0 q1 hpr
        cases pr with
        | err xe xp =>
          obtain ⟨hb4, rfl, hne⟩ := hp4
          have hne0 : (xe == 0) = false := by simpa using hne
          have hne1 : (xe != 0) = true := by simpa using hne
          have hb5 : Below w4.heap.size w4 ((w4.alloc (.cells #[.int .i64 0, .int .i64 0, .string ⟨#[]⟩, .slice none 0 0] tE)).alloc (.cells #[.int .i64 xe, .int .i64 xp] 35)) := ((Below.refl _ w4).alloc (Nat.le_refl _) _).alloc (by simp only [World.size_alloc]; omega) _
          have h50 := (Below.heap_alloc (w4.alloc (.cells #[.int .i64 0, .int .i64 0, .string ⟨#[]⟩, .slice none 0 0] tE)) (.cells #[.int .i64 xe, .int .i64 xp] 35) w4.heap.size (by simp only [World.size_alloc]; omega)).trans (heap_new w4 (.cells #[.int .i64 0, .int .i64 0, .string ⟨#[]⟩, .slice none 0 0] tE))
          have h51 := heap_new (w4.alloc (.cells #[.int .i64 0, .int .i64 0, .string ⟨#[]⟩, .slice none 0 0] tE)) (.cells #[.int .i64 xe, .int .i64 xp] 35)
          simp only [World.size_alloc] at h51
          have h04 := (hb4.block _ (heap_lt H03.out)).trans H03.out
          have HB4 := Lib.hid (HB3.out.trans (hb4.mono HB3.out.size))
          obtain ⟨W5, hW5⟩ : ∃ W, W = (w4.alloc (.cells #[.int .i64 0, .int .i64 0, .string ⟨#[]⟩, .slice none 0 0] tE)).alloc (.cells #[.int .i64 xe, .int .i64 xp] 35) := ⟨_, rfl⟩
          rw [← hW5] at hb5 h50 h51
          have HB5 := Lib.hid (HB4.out.trans (hb5.mono HB4.out.size))
          have H05 := Lib.hid ((hb5.block _ (heap_lt h04)).trans h04)
          have HSM := Lib.hid (same_any _ (.mk 0 0 ⟨#[]⟩ []) (.mk 0 0 ⟨#[]⟩ []) _ _ W5 (Nat.le_refl _) (inV_zero W5) (inV_zero W5))
          rw [E.same_self] at HSM
          obtain ⟨z0, z1, z2, z3⟩ := row4 h50
          obtain ⟨q0, q1⟩ := row2 h51
          clear hb4 hb5 h50 h51 h04 hne
          go_upto_region 6 with fail
          rw [← hW5]
          clear hW5
          go_wp2_with fail
          refine HSM.out.mono ?_
          rintro x w6 ⟨rfl, hb6⟩
          have HB6 := Lib.hid (HB5.out.trans (hb6.mono HB5.out.size))
          have H06 := Lib.hid ((hb6.block _ (heap_lt H05.out)).trans H05.out)
          clear z0 z1 z2 z3 q0 q1 hb6 hne0 hne1
          go_upto_region 8 with fail
          obtain ⟨z0, z1, z2, z3⟩ := row4 H06.out
          go_wp2_with fail
          refine (HRI.out w6 HB6.out).mono ?_
          rintro x y1 ⟨rfl, hc1⟩
          have HC1 := Lib.hid (HB6.out.trans (hc1.mono HB6.out.size))
          have G01 := Lib.hid ((hc1.block _ (heap_lt H06.out)).trans H06.out)
          clear z0 z1 z2 z3 hc1
          cases hrt : E.right e with
          | false =>
            have HTX1 := Lib.hid (HTX.out y1 HC1.out)
            rw [show textB e = ⟨#[]⟩ by unfold textB; rw [hrt]; rfl] at HTX1
            clear hrt
            obtain ⟨z0, z1, z2, z3⟩ := row4 G01.out
            go_wp2_with fail
            refine HTX1.out.mono ?_
            rintro x y2 ⟨rfl, hc2⟩
            have HC2 := Lib.hid (HC1.out.trans (hc2.mono HC1.out.size))
            clear z0 z1 z2 z3 hc2
            go_wp2_with fail
            refine (HAW.out y2 HC2.out).mono ?_
            rintro x y3 ⟨rfl, hc3⟩
            have HC3 := Lib.hid (HC2.out.trans (hc3.mono HC2.out.size))
            go_wp2_with fail
            go_ret
            exact ⟨rfl, HC3.out⟩
          | true =>
            have hsm := small_text hrt (by have := HZE.out; have := HZ2.out; omega)
            obtain ⟨rr, rd, hof, hpa⟩ := text_back e hrt hsm.2
            have HTX1 := Lib.hid (HTX.out y1 HC1.out)
            rw [show textB e = txB e by unfold textB; rw [if_pos hrt]] at HTX1
            have HPB := Lib.hid hpa
            have hof' : Tk.ofL (txB e).data.toList = .ok rr := by rw [txB_list]; exact hof
            have hsz : (txB e).size ≤ 16384 := by
              show (tx e).toArray.size ≤ 16384
              simpa using hsm.2
            have HOF : Hid (∀ W, Calls Tryd.prog 15 #[.string (txB e)] W (OfPost (txB e).data.toList W)) := Lib.hid (fun W => refOf_any (txB e) hsz W)
            have HOK := Lib.hid hof'
            have HRN : Hid (rr ≠ [] ∧ rr.length ≤ 16385) := Lib.hid ⟨Tk.toks_ne (Tk.ofL_toks hof).2, by
              have := Tk.ofL_len hof
              omega⟩
            generalize txB e = tb at HTX1 HOF HOK
            clear hrt hsm hof hpa hof' hsz
            obtain ⟨z0, z1, z2, z3⟩ := row4 G01.out
            go_wp2_with fail
            refine HTX1.out.mono ?_
            rintro x y2 ⟨rfl, hc2⟩
            have HC2 := Lib.hid (HC1.out.trans (hc2.mono HC1.out.size))
            have G02 := Lib.hid ((hc2.block _ (heap_lt G01.out)).trans G01.out)
            clear z0 z1 z2 z3 hc2
            go_wp2_with fail
            refine (HOF.out y2).mono ?_
            rintro x y3 hp3
            obtain ⟨g3, c3, rfl, hg3, hl3, hc3, hm3, hcell3, hb3⟩ := of_ok hp3 HOK.out
            have hrt3 := rt_of hcell3 hl3
            have hb4 := boxed y3 (.cells #[.int .i64 0, .int .i64 0] 35)
            have hn4 := heap_new y3 (.cells #[.int .i64 0, .int .i64 0] 35)
            have hr3 := (hb3.block _ (heap_lt G02.out)).trans G02.out
            have HC3 := Lib.hid (HC2.out.trans (hb3.mono HC2.out.size))
            obtain ⟨Y4, hY4⟩ : ∃ W, W = y3.alloc (.cells #[.int .i64 0, .int .i64 0] 35) := ⟨_, rfl⟩
            rw [← hY4] at hb4 hn4
            have HC4 := Lib.hid (HC3.out.trans (hb4.mono HC3.out.size))
            have G04 := Lib.hid ((hb4.block _ (heap_lt hr3)).trans hr3)
            obtain ⟨l4, hl4⟩ : ∃ ll, ll = rr.map Gt.ofTok := ⟨_, rfl⟩
            have hle4 : rr.length = l4.length := by rw [hl4, List.length_map]
            rw [← hl4] at HPB
            rw [hle4] at hc3 HPB ⊢
            have hln := HRN.out.2
            have hl0 : 0 < l4.length := by
              rw [← hle4]
              exact List.length_pos_iff.2 HRN.out.1
            rw [hle4] at hln
            have HK4 := Lib.hid (HPA.out l4 g3 c3 Y4 HC4.out (by rw [hl4]; exact (hrt3.below hb4).more hb4.size) (by omega) hc3 hm3)
            rw [HPB.out] at HK4
            obtain ⟨n4, hn4'⟩ : ∃ n0, n0 = l4.length := ⟨_, rfl⟩
            rw [← hn4'] at HK4 hl0 hln ⊢
            obtain ⟨q0, q1⟩ := row2 hn4
            clear hp3 hb3 hb4 hr3 hn4 hrt3 hcell3 hl4 hle4 hn4' hc3
            go_upto_region 12 with fail
            rw [← hY4]
            clear hY4
            go_wp2_with fail
            refine HK4.out.mono ?_
            rintro x y5 ⟨hb5, k5, n5, s5, A5, L5, C5, rfl, hi5⟩
            have hi6 := hi5.inV (B := y5.heap.size) (fun b h => h.2)
            have hb6 : Below y5.heap.size y5 ((y5.alloc (.cells #[.int .i64 k5, .int .i64 n5, .string s5, .slice A5 L5 C5] tE)).alloc (.cells #[.int .i64 0, .int .i64 0] 35)) := ((Below.refl _ y5).alloc (Nat.le_refl _) _).alloc (by simp only [World.size_alloc]; omega) _
            have h60 := (Below.heap_alloc (y5.alloc (.cells #[.int .i64 k5, .int .i64 n5, .string s5, .slice A5 L5 C5] tE)) (.cells #[.int .i64 0, .int .i64 0] 35) y5.heap.size (by simp only [World.size_alloc]; omega)).trans (heap_new y5 (.cells #[.int .i64 k5, .int .i64 n5, .string s5, .slice A5 L5 C5] tE))
            have h61 := heap_new (y5.alloc (.cells #[.int .i64 k5, .int .i64 n5, .string s5, .slice A5 L5 C5] tE)) (.cells #[.int .i64 0, .int .i64 0] 35)
            simp only [World.size_alloc] at h61
            have h05 := (hb5.block _ (heap_lt G04.out)).trans G04.out
            have HC5 := Lib.hid (HC4.out.trans (hb5.mono HC4.out.size))
            obtain ⟨Y6, hY6⟩ : ∃ W, W = (y5.alloc (.cells #[.int .i64 k5, .int .i64 n5, .string s5, .slice A5 L5 C5] tE)).alloc (.cells #[.int .i64 0, .int .i64 0] 35) := ⟨_, rfl⟩
            rw [← hY6] at hb6 h60 h61
            have HC6 := Lib.hid (HC5.out.trans (hb6.mono HC5.out.size))
            have g06 := (hb6.block _ (heap_lt h05)).trans h05
            have HSM := Lib.hid (same_any _ e e _ _ Y6 (Nat.le_refl _) ((hi6.below hb6).more hb6.size) (HV.out Y6 HC6.out))
            rw [E.same_self] at HSM
            obtain ⟨z0, z1, z2, z3⟩ := row4 h60
            obtain ⟨u0, u1, u2, u3⟩ := row4 g06
            obtain ⟨q2, q3⟩ := row2 h61
            clear hb5 hb6 h60 h61 h05 g06 hi5 hi6 q0 q1
            go_upto_region 15 with fail
            rw [← hY6]
            clear hY6
            go_wp2_with fail
            refine HSM.out.mono ?_
            rintro x y7 ⟨rfl, hb7⟩
            have HC7 := Lib.hid (HC6.out.trans (hb7.mono HC6.out.size))
            clear z0 z1 z2 z3 u0 u1 u2 u3 q2 q3 hb7
            go_wp2_with fail
            refine (HAW.out y7 HC7.out).mono ?_
            rintro x y8 ⟨rfl, hb8⟩
            have HC8 := Lib.hid (HC7.out.trans (hb8.mono HC7.out.size))
            go_wp2_with fail
            go_ret
            exact ⟨rfl, HC8.out⟩
        | ok e2 d2 a2 =>
          obtain ⟨hb4, k2, n2, s2, A2, L2, C2, rfl, hi4⟩ := hp4
          obtain ⟨ha1, ha2, hri⟩ := parse_good HFI.out HPR.out.symm
          have hxa : 1 ≤ (a2 : Int) ∧ (a2 : Int) < (n0 : Int) := by have := HN0.out; omega
          generalize (a2 : Int) = xa at hxa
          have e1 : decide (xa < 1) = false := by simp; omega
          have e3 : decide ((n0 : Int) ≤ xa) = false := by simp; omega
          have hi5 := hi4.inV (B := w4.heap.size) (fun b h => h.2)
          have hb5 : Below w4.heap.size w4 ((w4.alloc (.cells #[.int .i64 k2, .int .i64 n2, .string s2, .slice A2 L2 C2] tE)).alloc (.cells #[.int .i64 0, .int .i64 0] 35)) := ((Below.refl _ w4).alloc (Nat.le_refl _) _).alloc (by simp only [World.size_alloc]; omega) _
          have h50 := (Below.heap_alloc (w4.alloc (.cells #[.int .i64 k2, .int .i64 n2, .string s2, .slice A2 L2 C2] tE)) (.cells #[.int .i64 0, .int .i64 0] 35) w4.heap.size (by simp only [World.size_alloc]; omega)).trans (heap_new w4 (.cells #[.int .i64 k2, .int .i64 n2, .string s2, .slice A2 L2 C2] tE))
          have h51 := heap_new (w4.alloc (.cells #[.int .i64 k2, .int .i64 n2, .string s2, .slice A2 L2 C2] tE)) (.cells #[.int .i64 0, .int .i64 0] 35)
          simp only [World.size_alloc] at h51
          have h04 := (hb4.block _ (heap_lt H03.out)).trans H03.out
          have HB4 := Lib.hid (HB3.out.trans (hb4.mono HB3.out.size))
          obtain ⟨W5, hW5⟩ : ∃ W, W = (w4.alloc (.cells #[.int .i64 k2, .int .i64 n2, .string s2, .slice A2 L2 C2] tE)).alloc (.cells #[.int .i64 0, .int .i64 0] 35) := ⟨_, rfl⟩
          rw [← hW5] at hb5 h50 h51
          have HB5 := Lib.hid (HB4.out.trans (hb5.mono HB4.out.size))
          have H05 := Lib.hid ((hb5.block _ (heap_lt h04)).trans h04)
          have HRG := Lib.hid (right_any0 e2 _ W5 ((hi5.below hb5).more hb5.size) (HLD.out W5 HB5.out))
          rw [hri] at HRG
          have H50 := Lib.hid h50
          have H51 := Lib.hid h51
          obtain ⟨z0, z1, z2, z3⟩ := row4 h50
          obtain ⟨q0, q1⟩ := row2 h51
          clear hb4 hb5 h50 h51 h04 hi4 hi5 hri ha1 ha2
          go_upto_region 6 with fail
          rw [← hW5]
          clear hW5
          go_wp2_with fail
          refine HRG.out.mono ?_
          rintro x w6 ⟨rfl, hb6⟩
          have HB6 := Lib.hid (HB5.out.trans (hb6.mono HB5.out.size))
          have H06 := Lib.hid ((hb6.block _ (heap_lt H05.out)).trans H05.out)
          have h61 := (hb6.block _ (heap_lt H51.out)).trans H51.out
          clear z0 z1 z2 z3 q0 q1 hb6
          obtain ⟨q0, q1⟩ := row2 h61
          clear h61
          go_upto_region 8 with fail
          clear q0 q1
          obtain ⟨z0, z1, z2, z3⟩ := row4 H06.out
          go_wp2_with fail
          refine (HRI.out w6 HB6.out).mono ?_
          rintro x y1 ⟨rfl, hc1⟩
          have HC1 := Lib.hid (HB6.out.trans (hc1.mono HB6.out.size))
          have G01 := Lib.hid ((hc1.block _ (heap_lt H06.out)).trans H06.out)
          clear z0 z1 z2 z3 hc1
          cases hrt : E.right e with
          | false =>
            have HTX1 := Lib.hid (HTX.out y1 HC1.out)
            rw [show textB e = ⟨#[]⟩ by unfold textB; rw [hrt]; rfl] at HTX1
            clear hrt
            obtain ⟨z0, z1, z2, z3⟩ := row4 G01.out
            go_wp2_with fail
            refine HTX1.out.mono ?_
            rintro x y2 ⟨rfl, hc2⟩
            have HC2 := Lib.hid (HC1.out.trans (hc2.mono HC1.out.size))
            clear z0 z1 z2 z3 hc2
            go_wp2_with fail
            refine (HAW.out y2 HC2.out).mono ?_
            rintro x y3 ⟨rfl, hc3⟩
            have HC3 := Lib.hid (HC2.out.trans (hc3.mono HC2.out.size))
            go_wp2_with fail
            go_ret
            exact ⟨rfl, HC3.out⟩
          | true =>
            have hsm := small_text hrt (by have := HZE.out; have := HZ2.out; omega)
            obtain ⟨rr, rd, hof, hpa⟩ := text_back e hrt hsm.2
            have HTX1 := Lib.hid (HTX.out y1 HC1.out)
            rw [show textB e = txB e by unfold textB; rw [if_pos hrt]] at HTX1
            have HPB := Lib.hid hpa
            have hof' : Tk.ofL (txB e).data.toList = .ok rr := by rw [txB_list]; exact hof
            have hsz : (txB e).size ≤ 16384 := by
              show (tx e).toArray.size ≤ 16384
              simpa using hsm.2
            have HOF : Hid (∀ W, Calls Tryd.prog 15 #[.string (txB e)] W (OfPost (txB e).data.toList W)) := Lib.hid (fun W => refOf_any (txB e) hsz W)
            have HOK := Lib.hid hof'
            have HRN : Hid (rr ≠ [] ∧ rr.length ≤ 16385) := Lib.hid ⟨Tk.toks_ne (Tk.ofL_toks hof).2, by
              have := Tk.ofL_len hof
              omega⟩
            generalize txB e = tb at HTX1 HOF HOK
            clear hrt hsm hof hpa hof' hsz
            obtain ⟨z0, z1, z2, z3⟩ := row4 G01.out
            go_wp2_with fail
            refine HTX1.out.mono ?_
            rintro x y2 ⟨rfl, hc2⟩
            have HC2 := Lib.hid (HC1.out.trans (hc2.mono HC1.out.size))
            have G02 := Lib.hid ((hc2.block _ (heap_lt G01.out)).trans G01.out)
            clear z0 z1 z2 z3 hc2
            go_wp2_with fail
            refine (HOF.out y2).mono ?_
            rintro x y3 hp3
            obtain ⟨g3, c3, rfl, hg3, hl3, hc3, hm3, hcell3, hb3⟩ := of_ok hp3 HOK.out
            have hrt3 := rt_of hcell3 hl3
            have hb4 := boxed y3 (.cells #[.int .i64 0, .int .i64 0] 35)
            have hn4 := heap_new y3 (.cells #[.int .i64 0, .int .i64 0] 35)
            have hr3 := (hb3.block _ (heap_lt G02.out)).trans G02.out
            have HC3 := Lib.hid (HC2.out.trans (hb3.mono HC2.out.size))
            obtain ⟨Y4, hY4⟩ : ∃ W, W = y3.alloc (.cells #[.int .i64 0, .int .i64 0] 35) := ⟨_, rfl⟩
            rw [← hY4] at hb4 hn4
            have HC4 := Lib.hid (HC3.out.trans (hb4.mono HC3.out.size))
            have G04 := Lib.hid ((hb4.block _ (heap_lt hr3)).trans hr3)
            obtain ⟨l4, hl4⟩ : ∃ ll, ll = rr.map Gt.ofTok := ⟨_, rfl⟩
            have hle4 : rr.length = l4.length := by rw [hl4, List.length_map]
            rw [← hl4] at HPB
            rw [hle4] at hc3 HPB ⊢
            have hln := HRN.out.2
            have hl0 : 0 < l4.length := by
              rw [← hle4]
              exact List.length_pos_iff.2 HRN.out.1
            rw [hle4] at hln
            have HK4 := Lib.hid (HPA.out l4 g3 c3 Y4 HC4.out (by rw [hl4]; exact (hrt3.below hb4).more hb4.size) (by omega) hc3 hm3)
            rw [HPB.out] at HK4
            obtain ⟨n4, hn4'⟩ : ∃ n0, n0 = l4.length := ⟨_, rfl⟩
            rw [← hn4'] at HK4 hl0 hln ⊢
            obtain ⟨q0, q1⟩ := row2 hn4
            clear hp3 hb3 hb4 hr3 hn4 hrt3 hcell3 hl4 hle4 hn4' hc3
            go_upto_region 12 with fail
            rw [← hY4]
            clear hY4
            go_wp2_with fail
            refine HK4.out.mono ?_
            rintro x y5 ⟨hb5, k5, n5, s5, A5, L5, C5, rfl, hi5⟩
            have hi6 := hi5.inV (B := y5.heap.size) (fun b h => h.2)
            have hb6 : Below y5.heap.size y5 ((y5.alloc (.cells #[.int .i64 k5, .int .i64 n5, .string s5, .slice A5 L5 C5] tE)).alloc (.cells #[.int .i64 0, .int .i64 0] 35)) := ((Below.refl _ y5).alloc (Nat.le_refl _) _).alloc (by simp only [World.size_alloc]; omega) _
            have h60 := (Below.heap_alloc (y5.alloc (.cells #[.int .i64 k5, .int .i64 n5, .string s5, .slice A5 L5 C5] tE)) (.cells #[.int .i64 0, .int .i64 0] 35) y5.heap.size (by simp only [World.size_alloc]; omega)).trans (heap_new y5 (.cells #[.int .i64 k5, .int .i64 n5, .string s5, .slice A5 L5 C5] tE))
            have h61 := heap_new (y5.alloc (.cells #[.int .i64 k5, .int .i64 n5, .string s5, .slice A5 L5 C5] tE)) (.cells #[.int .i64 0, .int .i64 0] 35)
            simp only [World.size_alloc] at h61
            have h05 := (hb5.block _ (heap_lt G04.out)).trans G04.out
            have HC5 := Lib.hid (HC4.out.trans (hb5.mono HC4.out.size))
            obtain ⟨Y6, hY6⟩ : ∃ W, W = (y5.alloc (.cells #[.int .i64 k5, .int .i64 n5, .string s5, .slice A5 L5 C5] tE)).alloc (.cells #[.int .i64 0, .int .i64 0] 35) := ⟨_, rfl⟩
            rw [← hY6] at hb6 h60 h61
            have HC6 := Lib.hid (HC5.out.trans (hb6.mono HC5.out.size))
            have g06 := (hb6.block _ (heap_lt h05)).trans h05
            have HSM := Lib.hid (same_any _ e e _ _ Y6 (Nat.le_refl _) ((hi6.below hb6).more hb6.size) (HV.out Y6 HC6.out))
            rw [E.same_self] at HSM
            obtain ⟨z0, z1, z2, z3⟩ := row4 h60
            obtain ⟨u0, u1, u2, u3⟩ := row4 g06
            obtain ⟨q2, q3⟩ := row2 h61
            clear hb5 hb6 h60 h61 h05 g06 hi5 hi6 q0 q1
            go_upto_region 15 with fail
            rw [← hY6]
            clear hY6
            go_wp2_with fail
            refine HSM.out.mono ?_
            rintro x y7 ⟨rfl, hb7⟩
            have HC7 := Lib.hid (HC6.out.trans (hb7.mono HC6.out.size))
            clear z0 z1 z2 z3 u0 u1 u2 u3 q2 q3 hb7
            go_wp2_with fail
            refine (HAW.out y7 HC7.out).mono ?_
            rintro x y8 ⟨rfl, hb8⟩
            have HC8 := Lib.hid (HC7.out.trans (hb8.mono HC7.out.size))
            go_wp2_with fail
            go_ret
            exact ⟨rfl, HC8.out⟩
end Go.Proofs.YtdehpgdffafebaaDoor
