/- The document's answer: owners between two signs. Conditions: at most 1000 parameters, and at most 1000000 tokens. -/
import Derived.Test.YtbcgooofelnkoaaBg
namespace Go.Proofs.Ytbcgooofelnkoaa
open Go.RowKit
set_option linter.unusedVariables false

/-- What the document's answer hands back of owners. -/
def RwP (r : Rz (List Ow)) (w : World) (x : Ending) (w' : World) : Prop :=
  Below w.heap.size w w' ∧ match r with
    | .ok y a => ∃ v, x = .returned (gotV v ty0 ⟨#[]⟩ ty0 0 a 0 0) ∧ w'.ownsRow w.heap.size 33 2 v y.length (ocells y)
    | .err e p => x = .returned (gotE e p)
theorem rwP_err {r : Rz (List Ow)} {w w' : World} {x : Ending} {e p : Int} (hb : Below w.heap.size w w') (hr : r = .err e p) (hx : x = .returned (gotE e p)) : RwP r w x w' := by
  subst hr; exact ⟨hb, hx⟩
/-- What the call has in memory. -/
structure Og (w W : World) : Prop where
  b0 : W.heap[w.heap.size]? = some (.cells (gotL (.slice none 0 0) ty0 ⟨#[]⟩ ty0 0 0 0 0).toArray 43 (0, 0))
  bel : Below w.heap.size w W
theorem Og.step {w W W' : World} (h : Og w W) (hb : Below W.heap.size W W') : Og w W' := ⟨(hb.block _ (heap_lt h.b0)).trans h.b0, h.bel.trans (hb.mono h.bel.size)⟩
theorem Og.grow {w W W' : World} (h : Og w W) {v : Value} {e : TypeId} {size n : Nat} {xs : List Value} (ho : W.ownsRow (w.heap.size + 1) e size v n xs) (hg : W.grownBy W' v.ownBlock) : Og w W' :=
  ⟨(hg.block _ (heap_lt h.b0) (fun e => by have := (ho.lt _ e.symm).1; omega)).trans h.b0, h.bel.grown hg h.bel.size (fun k e => by have := (ho.lt k e).1; omega)⟩
/-- The loop. -/
def OgAt (w : World) (l : List Gt) (ps : List ByteArray) (res : Rz (List Ow)) (g : Nat) (i v : Value) (wr : World) : Prop :=
  ∃ acc a n, g = n ∧ i = .int .i64 a ∧ acc.length + n = 3 ∧ ownersGo l ps n (a + 1) acc = res ∧ (0 ≤ a ∧ a < l.length) ∧ Og w wr ∧ wr.ownsRow (w.heap.size + 1) 33 2 v acc.length (ocells acc)
theorem gt_comma {t : Gt} (h : t.is sGt = true) : t.is sComma = false := by
  cases hb : t.is sComma with
  | false => rfl
  | true =>
    unfold Gt.is at h hb
    simp only [Bool.and_eq_true, decide_eq_true_eq] at h hb
    have := h.2.symm.trans hb.2
    unfold sGt sComma at this
    exact absurd this (by decide)

set_option maxRecDepth 100000 in
set_option maxHeartbeats 2000000 in
theorem refOwners_any (l : List Gt) (A : Option Addr) (c : Nat) (PA : Option Addr) (ps : List ByteArray) (pc : Nat) (a : Int) (w : World) (hr : RT w w.heap.size A l) (hp : RS w w.heap.size PA ps) (hlc : l.length ≤ c) (hcm : c ≤ maxLen) (hlp : ps.length ≤ 1000) (hpc : ps.length ≤ pc) (hbd : l.length ≤ 1000000) :
    Calls Try.prog 10 #[.slice A l.length c, .int .i64 a, .slice PA ps.length pc] w (RwP (ownersP l ps a) w) := by
  obtain ⟨i0, hi, hz0, hz1, hz2⟩ := info_parts own_info
  have hn0 := heap_new w got0
  have hb0 := boxed w got0
  have HRT : Hid (∀ W, Below w.heap.size w W → RT W W.heap.size A l) := Lib.hid (fun W hb => (hr.below hb).more hb.size)
  have HRS : Hid (∀ W, Below w.heap.size w W → RS W W.heap.size PA ps) := Lib.hid (fun W hb => (hp.below hb).more hb.size)
  obtain ⟨W0, hW0⟩ : ∃ W0, W0 = w.alloc got0 := ⟨_, rfl⟩
  rw [← hW0] at hn0 hb0
  have HOG : Hid (Og w W0) := Lib.hid ⟨hn0, hb0⟩
  have HTK : Hid (∀ a W, Below w.heap.size w W → Calls Try.prog 21 #[.slice A l.length c, .int .i64 a] W fun x w' => x = .returned (tokI l a).val ∧ Below W.heap.size W w') := Lib.hid (fun a W hW => refTok_any l A c a W (HRT.out W hW) hlc hcm)
  have HWR : Hid (∀ e a W, Below w.heap.size w W → Calls Try.prog 26 #[.int .i64 e, .slice A l.length c, .int .i64 a] W fun x w' => x = .returned (gotE e (tokI l a).pos) ∧ Below W.heap.size W w') := Lib.hid (fun e a W hW => refWrong_any e l A c a W (HRT.out W hW) hlc hcm)
  have HIS : Hid (∀ t s W, Calls Try.prog 22 #[Gt.val t, .string s] W fun e w' => e = .returned (.bool (Gt.is t s)) ∧ Below W.heap.size W w') := Lib.hid (fun t s W => refIs_any t s W)
  have HWO : Hid (∀ t W, Calls Try.prog 23 #[Gt.val t] W fun x w' => x = .returned (.agg #[.int .i64 (wOw t), .int .i64 0]) ∧ Below W.heap.size W w') := Lib.hid (fun t W => refWord_any t W)
  have HNM : Hid (∀ t W, Below w.heap.size w W → Calls Try.prog 25 #[Gt.val t, .slice PA ps.length pc] W fun x w' => x = .returned (.agg #[.int .i64 (namedO t.text ps).kind, .int .i64 (namedO t.text ps).n]) ∧ Below W.heap.size W w') := Lib.hid (fun t W hW => refNamed_any t PA pc ps W (HRS.out W hW) hlp hpc)
  obtain ⟨res, hres⟩ : ∃ res, res = ownersP l ps a := ⟨_, rfl⟩
  rw [← hres]
  have htk := Lib.hid (HTK.out a W0 hb0)
  obtain ⟨t, ht⟩ : ∃ t, t = tokI l a := ⟨_, rfl⟩
  have HT := Lib.hid ht
  rw [← ht] at htk
  have hisL := Lib.hid (HIS.out t ⟨#[60]⟩)
  obtain ⟨b, hb⟩ : ∃ b, b = t.is ⟨#[60]⟩ := ⟨_, rfl⟩
  have HRES : Hid (res = if b = true then ownersGo l ps 3 (a + 1) [] else .err 3 t.pos) := Lib.hid (by rw [hres, hb, ht]; rfl)
  have HIN : Hid (b = true → 0 ≤ a ∧ a < l.length) := Lib.hid (fun h => is_in (s := ⟨#[60]⟩) (by rw [← ht, ← hb]; exact h))
  rw [← hb] at hisL
  clear hres hb ht hr hp hn0 hb0
  obtain ⟨tk, tx, tp⟩ := t
  rw [val_eq] at htk hisL
  dsimp only at htk hisL HRES
  cases b with
  | false =>
    have HR2 : Hid (res = .err 3 tp) := HRES
    go_enter Try.func10, Try.ntmps10
    go_upto_region 1 with fail
    change Code.wp _ _ _ _ (w.alloc got0)
    rw [← hW0]
    clear hW0
    go_wp2_with fail
    refine htk.out.mono ?_
    rintro x w1 ⟨rfl, hb1⟩
    have HO1 := Lib.hid (HOG.out.step hb1)
    clear hb1
    go_wp2_with fail
    refine (hisL.out _).mono ?_
    rintro x w2 ⟨rfl, hb2⟩
    have HO2 := Lib.hid (HO1.out.step hb2)
    clear hb2
    go_wp2_with fail
    refine (HWR.out 3 a _ HO2.out.bel).mono ?_
    rintro x w3 ⟨rfl, hb3⟩
    have HO3 := Lib.hid (HO2.out.step hb3)
    clear hb3
    rw [← HT.out]
    dsimp only
    obtain ⟨CL, hCL⟩ : ∃ CL, CL = gotL (.slice none 0 0) ty0 ⟨#[]⟩ ty0 0 0 (3) (tp) := ⟨_, rfl⟩
    have hcz : CL.toArray.size = 28 := by rw [hCL]; rfl
    have hinf2 : (Try.prog.info? 43).map (·.size) = some CL.toArray.size := by rw [hcz]; kernel_rfl
    have hone : CL.toArray.all (·.oneCell') = true := by rw [hCL]; exact got_ones _ _ _ _ _ _ _ _ _ _
    have hth0 : World.there _ w.heap.size 0 CL.toArray.size := there_row HO3.out.b0 hcz
    have hlt := heap_lt HO3.out.b0
    have HEV : Hid (gotE (3) (tp) = .agg CL.toArray) := Lib.hid (by rw [hCL]; rfl)
    have HLL : Hid (28 = CL.length) := Lib.hid (by rw [hCL]; rfl)
    clear hCL hcz
    go_wp2_with (refine wpList_store_mid rfl 43 (.tmp 6) (.tmp 17) rfl w.heap.size 0 CL.toArray rfl HEV.out hth0 hinf2 hone ?_)
    have hs := set_all HO3.out.b0 CL HLL.out
    exact bodyPost_ret (v := .agg CL.toArray) (results_cell_row Try.results10 _ _ w.heap.size 43 _ (0, 0) _ rfl hs Try.underlying43 rfl hinf2) rfl ⟨setCells_below _ (Nat.le_refl _) _ _ _ HO3.out.bel, by rw [HR2.out]; exact congrArg Ending.returned HEV.out.symm⟩
  | true =>
    have HR2 : Hid (res = ownersGo l ps 3 (a + 1) []) := HRES
    have hina := HIN.out rfl
    go_enter Try.func10, Try.ntmps10
    go_upto_region 1 with fail
    change Code.wp _ _ _ _ (w.alloc got0)
    rw [← hW0]
    clear hW0
    go_wp2_with fail
    refine htk.out.mono ?_
    rintro x w1 ⟨rfl, hb1⟩
    have HO1 := Lib.hid (HOG.out.step hb1)
    clear hb1
    go_wp2_with fail
    refine (hisL.out _).mono ?_
    rintro x w2 ⟨rfl, hb2⟩
    have HO2 := Lib.hid (HO1.out.step hb2)
    have HL0 : Hid (OgAt w l ps res 3 (.int .i64 a) (.slice none 0 0) w2) := Lib.hid ⟨[], a, 3, rfl, rfl, rfl, HR2.out.symm, hina, HO2.out, World.ownsRow_nil _ _ _ _⟩
    clear hb2
    go_wp2_with fail
    go_loopg [1, 7] 3 (fun g i v wr => Hid (OgAt w l ps res g i v wr))
    case atStart => exact HL0
    case round =>
      obtain ⟨acc, a', g, hgn, rfl, hacc, hres, hin, hog, hown⟩ := hrel.out
      have HGN := Lib.hid hgn
      obtain ⟨VA, vc, rfl⟩ := own_slice hown
      have HRR := Lib.hid hres
      have HOR := Lib.hid hog
      have HWN := Lib.hid hown
      have hov1 : a' + 1 ≤ 9223372036854775807 := by omega
      have hov2 : a' + 1 + 1 ≤ 9223372036854775807 := by omega
      have hov3 : a' + 1 + 1 + 1 ≤ 9223372036854775807 := by omega
      have hov4 : -9223372036854775808 ≤ a' + 1 := by omega
      have hov5 : -9223372036854775808 ≤ a' + 1 + 1 := by omega
      have hov6 : -9223372036854775808 ≤ a' + 1 + 1 + 1 := by omega
      clear hres hog hown HL0 hgn
      have htk5 := Lib.hid (HTK.out (a' + 1) wr HOR.out.bel)
      obtain ⟨u, hu⟩ : ∃ u, u = tokI l (a' + 1) := ⟨_, rfl⟩
      have HU := Lib.hid hu
      rw [← hu] at htk5
      have HWO5 := Lib.hid (fun W => HWO.out u W)
      have HNM5 := Lib.hid (fun W hW => HNM.out u W hW)
      have HWN0 := Lib.hid (@wOw_no u)
      have HWW : Hid (wOw u = (if wordK u = 0 then (if u.is wUnique = true then 6 else 0) else wordK u)) := Lib.hid rfl
      have HOP : Hid (ownP l ps (a' + 1) = if u.kind = 1 then (if findP u.text ps = 0 then .err 4 u.pos else .ok ⟨3, (findP u.text ps : Nat)⟩ (a' + 1 + 1)) else if wordK u = 0 then .err 3 u.pos else .ok ⟨wordK u, 0⟩ (a' + 1 + 1)) := Lib.hid (by rw [hu]; rfl)
      have HNO : Hid (namedO u.text ps = if findP u.text ps = 0 then ⟨0, 0⟩ else ⟨3, (findP u.text ps : Nat)⟩) := Lib.hid rfl
      obtain ⟨wk, hwk⟩ : ∃ wk, wk = wOw u := ⟨_, rfl⟩
      rw [← hwk] at HWO5 HWN0 HWW
      obtain ⟨kk, hkk⟩ : ∃ kk, kk = wordK u := ⟨_, rfl⟩
      rw [← hkk] at HWW HOP
      obtain ⟨uq, huq⟩ : ∃ uq, uq = u.is wUnique := ⟨_, rfl⟩
      rw [← huq] at HWW
      obtain ⟨no, hno⟩ : ∃ no, no = namedO u.text ps := ⟨_, rfl⟩
      rw [← hno] at HNM5 HNO
      obtain ⟨fp, hfp⟩ : ∃ fp, fp = findP u.text ps := ⟨_, rfl⟩
      rw [← hfp] at HOP HNO
      have HW6K : Hid (¬ wordK u = 6) := Lib.hid (by unfold wordK; repeat' split
                                                     all_goals decide)
      rw [← hkk] at HW6K
      clear hu hwk hkk huq hno hfp
      obtain ⟨uk, ux, up⟩ := u
      rw [val_eq] at htk5 HWO5 HNM5
      dsimp only at htk5 HWO5 HNM5 HWN0 HOP
      by_cases hk : uk = 1
      · subst hk
        have hw0 := HWN0.out rfl
        subst hw0
        rw [if_pos rfl] at HOP
        rcases Nat.eq_zero_or_pos fp with h0 | h0
        · subst h0
          have HNO2 : Hid (no = ⟨0, 0⟩) := HNO
          have hno := HNO2.out
          subst hno
          have HOK : Hid (ownP l ps (a' + 1) = .err 4 up) := HOP
          have HRE : Hid (res = .err 4 up) := Lib.hid (by rw [← HRR.out]; exact go_err HOK.out)
          go_wp2_with fail
          refine htk5.out.mono ?_
          rintro x w3 ⟨rfl, hb3⟩
          have hb4 := boxed w3 (.cells #[.int .i64 1, .string ux, .int .i64 up] 55)
          have ht4 := heap_new w3 (.cells #[.int .i64 1, .string ux, .int .i64 up] 55)
          have hw4 := (own_apart HWN.out (gb_below hb3 (some w.heap.size)) (Nat.lt_succ_self _)).alloc (.cells #[.int .i64 1, .string ux, .int .i64 up] 55)
          obtain ⟨W4, hW4⟩ : ∃ W4, W4 = w3.alloc (.cells #[.int .i64 1, .string ux, .int .i64 up] 55) := ⟨_, rfl⟩
          go_upto_region 6 with fail
          rw [← hW4] at hb4 ht4 hw4 ⊢
          clear hW4
          have HO4 := Lib.hid ((HOR.out.step hb3).step hb4)
          have HT4 := Lib.hid ht4
          have HW4 := Lib.hid hw4
          obtain ⟨q0, q1, q2⟩ := row3 ht4
          clear hb3 hb4 ht4 hw4
          go_wp2_with fail
          refine (HWO5.out _).mono ?_
          rintro x w5 ⟨rfl, hb5⟩
          have hb6 := boxed w5 (.cells #[.int .i64 0, .int .i64 0] 33)
          have hn6 := heap_new w5 (.cells #[.int .i64 0, .int .i64 0] 33)
          have hw6 := (own_apart HW4.out (gb_below hb5 (some w.heap.size)) (Nat.lt_succ_self _)).alloc (.cells #[.int .i64 0, .int .i64 0] 33)
          have hls5 := HO4.out.bel.size
          have hls6 := hb5.size
          have hlt4 := heap_lt HT4.out
          have hl04 := heap_lt HO4.out.b0
          obtain ⟨W6, hW6⟩ : ∃ W6, W6 = w5.alloc (.cells #[.int .i64 0, .int .i64 0] 33) := ⟨_, rfl⟩
          go_upto_region 7 with fail
          rw [← hW6] at hb6 hn6 hw6 ⊢
          clear hW6 q0 q1 q2
          have HO6 := Lib.hid ((HO4.out.step hb5).step hb6)
          have ht6 := (hb6.block _ (by omega)).trans ((hb5.block _ (heap_lt HT4.out)).trans HT4.out)
          have HT6 := Lib.hid ht6
          have HN6 := Lib.hid hn6
          have HW6 := Lib.hid hw6
          obtain ⟨q0, q1, q2⟩ := row3 ht6
          obtain ⟨m0, m1⟩ := row2 hn6
          clear hb5 hb6 hn6 hw6 ht6
          go_wp2_with fail
          refine (HNM5.out _ HO6.out.bel).mono ?_
          rintro x w7 ⟨rfl, hb7⟩
          have HO7 := Lib.hid (HO6.out.step hb7)
          have hn7 := (hb7.block _ (heap_lt HN6.out)).trans HN6.out
          have hw7 := own_apart HW6.out (gb_below hb7 (some w.heap.size)) (Nat.lt_succ_self _)
          have HN7 := Lib.hid hn7
          have HW7 := Lib.hid hw7
          have hth := there_row (n := 2) hn7 rfl
          have hls7 := hb7.size
          clear hb7 hn7 hw7 q0 q1 q2 m0 m1
          go_upto_region 9 with (refine wpList_store_mid rfl 33 _ _ rfl w5.heap.size 0 #[.int .i64 (0), .int .i64 (0)] rfl rfl hth (by kernel_rfl) (one2 _ _) ?_)
          have hnx := set_all HN7.out [.int .i64 (0), .int .i64 (0)] rfl
          have hbx : Below w.heap.size w (w7.setCells w5.heap.size 0 [.int .i64 (0), .int .i64 (0)]) := setCells_below _ (by omega) _ _ _ HO7.out.bel
          have h0x := (setCells_other w5.heap.size w.heap.size (by omega) [.int .i64 (0), .int .i64 (0)] 0 w7).trans HO7.out.b0
          have hwx := HW7.out.kept (setCells_gb w5.heap.size [.int .i64 (0), .int .i64 (0)] 0 w7) (by
            cases hv : (Value.slice VA acc.length vc).ownBlock with
            | none => exact .inl rfl
            | some q => exact .inr (fun e => by
              have h1 := (HW4.out.lt q hv).2
              have h2 := Option.some.inj e
              omega))
          obtain ⟨W8, hW8⟩ : ∃ W8, W8 = w7.setCells w5.heap.size 0 [.int .i64 (0), .int .i64 (0)] := ⟨_, rfl⟩
          rw [← hW8] at hnx hbx h0x hwx ⊢
          clear hW8 hth
          have HO8 : Hid (Og w W8) := Lib.hid ⟨h0x, hbx⟩
          have HW8 := Lib.hid hwx
          have HN8 := Lib.hid hnx
          obtain ⟨m0, m1⟩ := row2 hnx
          clear hnx hbx h0x hwx
          go_wp2_with fail
          refine (HWR.out 4 (a' + 1) _ HO8.out.bel).mono ?_
          rintro x w9 ⟨rfl, hb9⟩
          have HO9 := Lib.hid (HO8.out.step hb9)
          clear hb9 m0 m1
          rw [← HU.out]
          dsimp only
          obtain ⟨CL, hCL⟩ : ∃ CL, CL = gotL (.slice none 0 0) ty0 ⟨#[]⟩ ty0 0 0 (4) (up) := ⟨_, rfl⟩
          have hcz : CL.toArray.size = 28 := by rw [hCL]; rfl
          have hinf2 : (Try.prog.info? 43).map (·.size) = some CL.toArray.size := by rw [hcz]; kernel_rfl
          have hone : CL.toArray.all (·.oneCell') = true := by rw [hCL]; exact got_ones _ _ _ _ _ _ _ _ _ _
          have hth0 : World.there _ w.heap.size 0 CL.toArray.size := there_row HO9.out.b0 hcz
          have hlt := heap_lt HO9.out.b0
          have HEV : Hid (gotE (4) (up) = .agg CL.toArray) := Lib.hid (by rw [hCL]; rfl)
          have HLL : Hid (28 = CL.length) := Lib.hid (by rw [hCL]; rfl)
          clear hCL hcz
          go_wp2_with (refine wpList_store_mid rfl 43 (.tmp 6) (.tmp 36) rfl w.heap.size 0 CL.toArray rfl HEV.out hth0 hinf2 hone ?_)
          have hs := set_all HO9.out.b0 CL HLL.out
          exact bodyPost_ret (v := .agg CL.toArray) (results_cell_row Try.results10 _ _ w.heap.size 43 _ (0, 0) _ rfl hs Try.underlying43 rfl hinf2) rfl ⟨setCells_below _ (Nat.le_refl _) _ _ _ HO9.out.bel, by rw [HRE.out]; exact congrArg Ending.returned HEV.out.symm⟩
        · have HNO2 : Hid (no = ⟨3, (fp : Nat)⟩) := Lib.hid (by rw [HNO.out, if_neg (by omega)])
          have hno := HNO2.out
          subst hno
          have HOK : Hid (ownP l ps (a' + 1) = .ok ⟨3, (fp : Nat)⟩ (a' + 1 + 1)) := Lib.hid (by rw [HOP.out, if_neg (by omega)])
          go_wp2_with fail
          refine htk5.out.mono ?_
          rintro x w3 ⟨rfl, hb3⟩
          have hb4 := boxed w3 (.cells #[.int .i64 1, .string ux, .int .i64 up] 55)
          have ht4 := heap_new w3 (.cells #[.int .i64 1, .string ux, .int .i64 up] 55)
          have hw4 := (own_apart HWN.out (gb_below hb3 (some w.heap.size)) (Nat.lt_succ_self _)).alloc (.cells #[.int .i64 1, .string ux, .int .i64 up] 55)
          obtain ⟨W4, hW4⟩ : ∃ W4, W4 = w3.alloc (.cells #[.int .i64 1, .string ux, .int .i64 up] 55) := ⟨_, rfl⟩
          go_upto_region 6 with fail
          rw [← hW4] at hb4 ht4 hw4 ⊢
          clear hW4
          have HO4 := Lib.hid ((HOR.out.step hb3).step hb4)
          have HT4 := Lib.hid ht4
          have HW4 := Lib.hid hw4
          obtain ⟨q0, q1, q2⟩ := row3 ht4
          clear hb3 hb4 ht4 hw4
          go_wp2_with fail
          refine (HWO5.out _).mono ?_
          rintro x w5 ⟨rfl, hb5⟩
          have hb6 := boxed w5 (.cells #[.int .i64 0, .int .i64 0] 33)
          have hn6 := heap_new w5 (.cells #[.int .i64 0, .int .i64 0] 33)
          have hw6 := (own_apart HW4.out (gb_below hb5 (some w.heap.size)) (Nat.lt_succ_self _)).alloc (.cells #[.int .i64 0, .int .i64 0] 33)
          have hls5 := HO4.out.bel.size
          have hls6 := hb5.size
          have hlt4 := heap_lt HT4.out
          have hl04 := heap_lt HO4.out.b0
          obtain ⟨W6, hW6⟩ : ∃ W6, W6 = w5.alloc (.cells #[.int .i64 0, .int .i64 0] 33) := ⟨_, rfl⟩
          go_upto_region 7 with fail
          rw [← hW6] at hb6 hn6 hw6 ⊢
          clear hW6 q0 q1 q2
          have HO6 := Lib.hid ((HO4.out.step hb5).step hb6)
          have ht6 := (hb6.block _ (by omega)).trans ((hb5.block _ (heap_lt HT4.out)).trans HT4.out)
          have HT6 := Lib.hid ht6
          have HN6 := Lib.hid hn6
          have HW6 := Lib.hid hw6
          obtain ⟨q0, q1, q2⟩ := row3 ht6
          obtain ⟨m0, m1⟩ := row2 hn6
          clear hb5 hb6 hn6 hw6 ht6
          go_wp2_with fail
          refine (HNM5.out _ HO6.out.bel).mono ?_
          rintro x w7 ⟨rfl, hb7⟩
          have HO7 := Lib.hid (HO6.out.step hb7)
          have hn7 := (hb7.block _ (heap_lt HN6.out)).trans HN6.out
          have hw7 := own_apart HW6.out (gb_below hb7 (some w.heap.size)) (Nat.lt_succ_self _)
          have HN7 := Lib.hid hn7
          have HW7 := Lib.hid hw7
          have hth := there_row (n := 2) hn7 rfl
          have hls7 := hb7.size
          clear hb7 hn7 hw7 q0 q1 q2 m0 m1
          go_upto_region 9 with (refine wpList_store_mid rfl 33 _ _ rfl w5.heap.size 0 #[.int .i64 (3), .int .i64 (fp)] rfl rfl hth (by kernel_rfl) (one2 _ _) ?_)
          have hnx := set_all HN7.out [.int .i64 (3), .int .i64 (fp)] rfl
          have hbx : Below w.heap.size w (w7.setCells w5.heap.size 0 [.int .i64 (3), .int .i64 (fp)]) := setCells_below _ (by omega) _ _ _ HO7.out.bel
          have h0x := (setCells_other w5.heap.size w.heap.size (by omega) [.int .i64 (3), .int .i64 (fp)] 0 w7).trans HO7.out.b0
          have hwx := HW7.out.kept (setCells_gb w5.heap.size [.int .i64 (3), .int .i64 (fp)] 0 w7) (by
            cases hv : (Value.slice VA acc.length vc).ownBlock with
            | none => exact .inl rfl
            | some q => exact .inr (fun e => by
              have h1 := (HW4.out.lt q hv).2
              have h2 := Option.some.inj e
              omega))
          obtain ⟨W8, hW8⟩ : ∃ W8, W8 = w7.setCells w5.heap.size 0 [.int .i64 (3), .int .i64 (fp)] := ⟨_, rfl⟩
          rw [← hW8] at hnx hbx h0x hwx ⊢
          clear hW8 hth
          have HO8 : Hid (Og w W8) := Lib.hid ⟨h0x, hbx⟩
          have HW8 := Lib.hid hwx
          have HN8 := Lib.hid hnx
          obtain ⟨m0, m1⟩ := row2 hnx
          clear hnx hbx h0x hwx
          rcases Nat.eq_zero_or_pos g with hg0 | hg0
          · subst hg0
            have h3 : ((acc.length : Int) == 3) = true := by simp; omega
            have HRE : Hid (res = .err 10 up) := Lib.hid (by rw [← HRR.out, go_full HOK.out, ← HU.out])
            go_wp2_with fail
            refine (HWR.out 10 (a' + 1) _ HO8.out.bel).mono ?_
            rintro x w9 ⟨rfl, hb9⟩
            have HO9 := Lib.hid (HO8.out.step hb9)
            clear hb9 m0 m1
            rw [← HU.out]
            dsimp only
            obtain ⟨CL, hCL⟩ : ∃ CL, CL = gotL (.slice none 0 0) ty0 ⟨#[]⟩ ty0 0 0 (10) (up) := ⟨_, rfl⟩
            have hcz : CL.toArray.size = 28 := by rw [hCL]; rfl
            have hinf2 : (Try.prog.info? 43).map (·.size) = some CL.toArray.size := by rw [hcz]; kernel_rfl
            have hone : CL.toArray.all (·.oneCell') = true := by rw [hCL]; exact got_ones _ _ _ _ _ _ _ _ _ _
            have hth0 : World.there _ w.heap.size 0 CL.toArray.size := there_row HO9.out.b0 hcz
            have hlt := heap_lt HO9.out.b0
            have HEV : Hid (gotE (10) (up) = .agg CL.toArray) := Lib.hid (by rw [hCL]; rfl)
            have HLL : Hid (28 = CL.length) := Lib.hid (by rw [hCL]; rfl)
            clear hCL hcz
            go_wp2_with (refine wpList_store_mid rfl 43 (.tmp 6) (.tmp 53) rfl w.heap.size 0 CL.toArray rfl HEV.out hth0 hinf2 hone ?_)
            have hs := set_all HO9.out.b0 CL HLL.out
            exact bodyPost_ret (v := .agg CL.toArray) (results_cell_row Try.results10 _ _ w.heap.size 43 _ (0, 0) _ rfl hs Try.underlying43 rfl hinf2) rfl ⟨setCells_below _ (Nat.le_refl _) _ _ _ HO9.out.bel, by rw [HRE.out]; exact congrArg Ending.returned HEV.out.symm⟩
          · obtain ⟨n', rfl⟩ : ∃ n', g = n' + 1 := ⟨g - 1, by omega⟩
            have h3 : ((acc.length : Int) == 3) = false := by simp; omega
            have HRE : Hid (res = if (tokI l (a' + 1 + 1)).is sComma = true then ownersGo l ps n' (a' + 1 + 2) (acc ++ [⟨3, fp⟩]) else if (tokI l (a' + 1 + 1)).is sGt = true then .ok (acc ++ [⟨3, fp⟩]) (a' + 1 + 2) else .err 3 (tokI l (a' + 1 + 1)).pos) := Lib.hid (by rw [← HRR.out]; exact go_more HOK.out)
            have hls8 := HO8.out.bel.size
            have hl0 := heap_lt HO8.out.b0
            go_upto_region 16 with (at_builtin; refine wpList_append_own _ rfl (.tmp 54) (.tmp 56) 39 rfl (w.heap.size + 1) 33 i0 (.agg #[.int .i64 0, .int .i64 0]) 2 16 Try.underlying39 hi hz0 hz1 hz2 rfl (by decide) _ _ _ rfl (HW8.out.alloc _) ⟨W8.heap.size, 0, none⟩ 1 1 [.int .i64 (3), .int .i64 (fp)] rfl rfl (new2 _ _ _ _ _ rfl) (ones2 _ _) (by unfold maxLen; omega) (by omega) (by simp; omega) ?_; intro v' w' hown' hgrow' hiff; clear hiff; have HO' := Lib.hid hown'; have HOG9 := Lib.hid ((HO8.out.step (boxed W8 (.cells #[.int .i64 (3), .int .i64 (fp)] 33))).grow (HW8.out.alloc _) hgrow'); clear hown' hgrow')
            have htk9 := Lib.hid (fun W hW => HTK.out (a' + 1 + 1) W hW)
            have HIN9 : Hid (∀ s, (tokI l (a' + 1 + 1)).is s = true → 0 ≤ a' + 1 + 1 ∧ a' + 1 + 1 < l.length) := Lib.hid (fun s h => is_in h)
            have HGC : Hid ((tokI l (a' + 1 + 1)).is sGt = true → (tokI l (a' + 1 + 1)).is sComma = false) := Lib.hid gt_comma
            obtain ⟨x9, hx9⟩ : ∃ x, x = tokI l (a' + 1 + 1) := ⟨_, rfl⟩
            have HX9 := Lib.hid hx9
            rw [← hx9] at HRE htk9 HIN9 HGC
            have HISG := Lib.hid (fun W => HIS.out x9 ⟨#[62]⟩ W)
            have HISC := Lib.hid (fun W => HIS.out x9 ⟨#[44]⟩ W)
            obtain ⟨bg, hbg⟩ : ∃ b, b = x9.is ⟨#[62]⟩ := ⟨_, rfl⟩
            obtain ⟨bc, hbc⟩ : ∃ b, b = x9.is ⟨#[44]⟩ := ⟨_, rfl⟩
            have HRE2 : Hid (res = if bc = true then ownersGo l ps n' (a' + 1 + 2) (acc ++ [⟨3, fp⟩]) else if bg = true then .ok (acc ++ [⟨3, fp⟩]) (a' + 1 + 2) else .err 3 x9.pos) := Lib.hid (by rw [hbg, hbc]; exact HRE.out)
            have HGC2 : Hid (bg = true → bc = false) := Lib.hid (fun h => by rw [hbc]; exact HGC.out (by rw [← h, hbg]; rfl))
            have HIN92 : Hid (bc = true → 0 ≤ a' + 1 + 1 ∧ a' + 1 + 1 < l.length) := Lib.hid (fun h => HIN9.out ⟨#[44]⟩ (by rw [← hbc]; exact h))
            rw [← hbg] at HISG
            rw [← hbc] at HISC
            clear hx9 hbg hbc HRE HGC HIN9
            obtain ⟨xk, xx, xp⟩ := x9
            rw [val_eq] at htk9 HISG HISC
            dsimp only at htk9 HISG HISC HRE2
            go_wp2_with fail
            refine (htk9.out _ HOG9.out.bel).mono ?_
            rintro x wa ⟨rfl, hba⟩
            have HOa := Lib.hid (HOG9.out.step hba)
            have hwa := own_apart HO'.out (gb_below hba (some w.heap.size)) (Nat.lt_succ_self _)
            have HWa := Lib.hid hwa
            clear hba hwa
            go_wp2_with fail
            refine (HISG.out _).mono ?_
            rintro x wb ⟨rfl, hbb⟩
            have HOb := Lib.hid (HOa.out.step hbb)
            have hwb := own_apart HWa.out (gb_below hbb (some w.heap.size)) (Nat.lt_succ_self _)
            have HWb := Lib.hid hwb
            clear hbb hwb
            obtain ⟨VB, vb, rfl⟩ := own_slice HWb.out
            cases bg with
            | true =>
              have hbc0 := HGC2.out rfl
              subst hbc0
              have HR5 : Hid (res = .ok (acc ++ [⟨3, fp⟩]) (a' + 1 + 2)) := HRE2
              obtain ⟨CL, hCL⟩ : ∃ CL, CL = gotL (.slice VB (acc.length + 1) vb) ty0 ⟨#[]⟩ ty0 0 (a' + 1 + 1 + 1) 0 0 := ⟨_, rfl⟩
              have hcz : CL.toArray.size = 28 := by rw [hCL]; rfl
              have hinf2 : (Try.prog.info? 43).map (·.size) = some CL.toArray.size := by rw [hcz]; kernel_rfl
              have hone : CL.toArray.all (·.oneCell') = true := by rw [hCL]; exact got_ones _ _ _ _ _ _ _ _ _ _
              have hth0 : World.there _ w.heap.size 0 CL.toArray.size := there_row HOb.out.b0 hcz
              have hlt := heap_lt HOb.out.b0
              have HEV : Hid ((Value.agg #[.slice VB (acc.length + 1) vb, .int .i64 0, .string ⟨#[]⟩, .int .i64 0, .int .i64 0, .int .i64 0, .int .i64 0, .int .i64 0, .int .i64 0, .int .i64 0, .int .i64 0, .int .i64 0, .string ⟨#[]⟩, .int .i64 0, .string ⟨#[]⟩, .int .i64 0, .int .i64 0, .int .i64 0, .int .i64 0, .int .i64 0, .int .i64 0, .int .i64 0, .int .i64 0, .int .i64 0, .int .i64 0, .int .i64 (a' + 1 + 1 + 1), .int .i64 0, .int .i64 0]) = .agg CL.toArray) := Lib.hid (by rw [hCL]; rfl)
              have HLL : Hid (28 = CL.length) := Lib.hid (by rw [hCL]; rfl)
              have HGV : Hid (gotV (.slice VB (acc.length + 1) vb) ty0 ⟨#[]⟩ ty0 0 (a' + 1 + 2) 0 0 = .agg CL.toArray) := Lib.hid (by rw [hCL, show a' + 1 + 2 = a' + 1 + 1 + 1 by omega]; rfl)
              clear hCL hcz
              go_wp2_with (refine wpList_store_mid rfl 43 (.tmp 6) (.tmp 67) rfl w.heap.size 0 CL.toArray rfl HEV.out hth0 hinf2 hone ?_)
              have hs := set_all HOb.out.b0 CL HLL.out
              have hof := own_base (own_apart HWb.out (setCells_gb w.heap.size CL 0 wb) (Nat.lt_succ_self _)) (Nat.le_succ _)
              refine bodyPost_ret (v := .agg CL.toArray) (results_cell_row Try.results10 _ _ w.heap.size 43 _ (0, 0) _ rfl hs Try.underlying43 rfl hinf2) rfl ⟨setCells_below _ (Nat.le_refl _) _ _ _ HOb.out.bel, ?_⟩
              rw [HR5.out]
              exact ⟨_, congrArg Ending.returned HGV.out.symm, by rw [ocells_snoc, List.length_append]; exact hof⟩
            | false =>
              go_wp2_with fail
              refine (htk9.out _ HOb.out.bel).mono ?_
              rintro x wc0 ⟨rfl, hbc0⟩
              have HOc := Lib.hid (HOb.out.step hbc0)
              have hwc := own_apart HWb.out (gb_below hbc0 (some w.heap.size)) (Nat.lt_succ_self _)
              have HWc := Lib.hid hwc
              clear hbc0 hwc
              go_wp2_with fail
              refine (HISC.out _).mono ?_
              rintro x wd ⟨rfl, hbd0⟩
              have HOd := Lib.hid (HOc.out.step hbd0)
              have hwd := own_apart HWc.out (gb_below hbd0 (some w.heap.size)) (Nat.lt_succ_self _)
              have HWd := Lib.hid hwd
              clear hbd0 hwd
              cases bc with
              | true =>
                have HR5 : Hid (res = ownersGo l ps n' (a' + 1 + 2) (acc ++ [⟨3, fp⟩])) := HRE2
                have hin5 := HIN92.out rfl
                go_wp2_with fail
                go_roundg n'
                case rel => exact Lib.hid ⟨acc ++ [⟨3, fp⟩], a' + 1 + 1, n', rfl, rfl, by simp; omega, by rw [HR5.out, show a' + 1 + 1 + 1 = a' + 1 + 2 by omega], hin5, HOd.out, by rw [ocells_snoc, List.length_append]; exact HWd.out⟩
                case measure =>
                  have := HGN.out
                  omega
              | false =>
                have HR5 : Hid (res = .err 3 xp) := HRE2
                go_wp2_with fail
                refine (HWR.out 3 (a' + 1 + 1) _ HOd.out.bel).mono ?_
                rintro x we ⟨rfl, hbe⟩
                have HOe := Lib.hid (HOd.out.step hbe)
                clear hbe
                rw [← HX9.out]
                dsimp only
                obtain ⟨CL, hCL⟩ : ∃ CL, CL = gotL (.slice none 0 0) ty0 ⟨#[]⟩ ty0 0 0 (3) (xp) := ⟨_, rfl⟩
                have hcz : CL.toArray.size = 28 := by rw [hCL]; rfl
                have hinf2 : (Try.prog.info? 43).map (·.size) = some CL.toArray.size := by rw [hcz]; kernel_rfl
                have hone : CL.toArray.all (·.oneCell') = true := by rw [hCL]; exact got_ones _ _ _ _ _ _ _ _ _ _
                have hth0 : World.there _ w.heap.size 0 CL.toArray.size := there_row HOe.out.b0 hcz
                have hlt := heap_lt HOe.out.b0
                have HEV : Hid (gotE (3) (xp) = .agg CL.toArray) := Lib.hid (by rw [hCL]; rfl)
                have HLL : Hid (28 = CL.length) := Lib.hid (by rw [hCL]; rfl)
                clear hCL hcz
                go_wp2_with (refine wpList_store_mid rfl 43 (.tmp 6) (.tmp 75) rfl w.heap.size 0 CL.toArray rfl HEV.out hth0 hinf2 hone ?_)
                have hs := set_all HOe.out.b0 CL HLL.out
                exact bodyPost_ret (v := .agg CL.toArray) (results_cell_row Try.results10 _ _ w.heap.size 43 _ (0, 0) _ rfl hs Try.underlying43 rfl hinf2) rfl ⟨setCells_below _ (Nat.le_refl _) _ _ _ HOe.out.bel, by rw [HR5.out]; exact congrArg Ending.returned HEV.out.symm⟩
      · rw [if_neg hk] at HOP
        have hk0 : (uk == 1) = false := by simpa using hk
        by_cases h0 : kk = 0
        · subst h0
          have HOK : Hid (ownP l ps (a' + 1) = .err 3 up) := HOP
          have HRE : Hid (res = .err 3 up) := Lib.hid (by rw [← HRR.out]; exact go_err HOK.out)
          have hways : wk = 0 ∨ wk = 6 := by
            have := HWW.out
            rw [if_pos rfl] at this
            rw [this]
            cases uq
            · exact .inl rfl
            · exact .inr rfl
          rcases hways with rfl | rfl
          · -- none
            go_wp2_with fail
            refine htk5.out.mono ?_
            rintro x w3 ⟨rfl, hb3⟩
            have hb4 := boxed w3 (.cells #[.int .i64 uk, .string ux, .int .i64 up] 55)
            have ht4 := heap_new w3 (.cells #[.int .i64 uk, .string ux, .int .i64 up] 55)
            have hw4 := (own_apart HWN.out (gb_below hb3 (some w.heap.size)) (Nat.lt_succ_self _)).alloc (.cells #[.int .i64 uk, .string ux, .int .i64 up] 55)
            obtain ⟨W4, hW4⟩ : ∃ W4, W4 = w3.alloc (.cells #[.int .i64 uk, .string ux, .int .i64 up] 55) := ⟨_, rfl⟩
            go_upto_region 6 with fail
            rw [← hW4] at hb4 ht4 hw4 ⊢
            clear hW4
            have HO4 := Lib.hid ((HOR.out.step hb3).step hb4)
            have HT4 := Lib.hid ht4
            have HW4 := Lib.hid hw4
            obtain ⟨q0, q1, q2⟩ := row3 ht4
            clear hb3 hb4 ht4 hw4
            go_wp2_with fail
            refine (HWO5.out _).mono ?_
            rintro x w5 ⟨rfl, hb5⟩
            have hb6 := boxed w5 (.cells #[.int .i64 0, .int .i64 0] 33)
            have hn6 := heap_new w5 (.cells #[.int .i64 0, .int .i64 0] 33)
            have hw6 := (own_apart HW4.out (gb_below hb5 (some w.heap.size)) (Nat.lt_succ_self _)).alloc (.cells #[.int .i64 0, .int .i64 0] 33)
            have hls5 := HO4.out.bel.size
            have hls6 := hb5.size
            have hlt4 := heap_lt HT4.out
            have hl04 := heap_lt HO4.out.b0
            obtain ⟨W6, hW6⟩ : ∃ W6, W6 = w5.alloc (.cells #[.int .i64 0, .int .i64 0] 33) := ⟨_, rfl⟩
            go_upto_region 7 with fail
            rw [← hW6] at hb6 hn6 hw6 ⊢
            clear hW6 q0 q1 q2
            have HO6 := Lib.hid ((HO4.out.step hb5).step hb6)
            have ht6 := (hb6.block _ (by omega)).trans ((hb5.block _ (heap_lt HT4.out)).trans HT4.out)
            have HT6 := Lib.hid ht6
            have HN6 := Lib.hid hn6
            have HW6 := Lib.hid hw6
            obtain ⟨q0, q1, q2⟩ := row3 ht6
            obtain ⟨m0, m1⟩ := row2 hn6
            clear hb5 hb6 hn6 hw6 ht6
            go_wp2_with fail
            refine (HWR.out 3 (a' + 1) _ HO6.out.bel).mono ?_
            rintro x w9 ⟨rfl, hb9⟩
            have HO9 := Lib.hid (HO6.out.step hb9)
            clear hb9 m0 m1 q0 q1 q2
            rw [← HU.out]
            dsimp only
            obtain ⟨CL, hCL⟩ : ∃ CL, CL = gotL (.slice none 0 0) ty0 ⟨#[]⟩ ty0 0 0 (3) (up) := ⟨_, rfl⟩
            have hcz : CL.toArray.size = 28 := by rw [hCL]; rfl
            have hinf2 : (Try.prog.info? 43).map (·.size) = some CL.toArray.size := by rw [hcz]; kernel_rfl
            have hone : CL.toArray.all (·.oneCell') = true := by rw [hCL]; exact got_ones _ _ _ _ _ _ _ _ _ _
            have hth0 : World.there _ w.heap.size 0 CL.toArray.size := there_row HO9.out.b0 hcz
            have hlt := heap_lt HO9.out.b0
            have HEV : Hid (gotE (3) (up) = .agg CL.toArray) := Lib.hid (by rw [hCL]; rfl)
            have HLL : Hid (28 = CL.length) := Lib.hid (by rw [hCL]; rfl)
            clear hCL hcz
            go_wp2_with (refine wpList_store_mid rfl 43 (.tmp 6) (.tmp 47) rfl w.heap.size 0 CL.toArray rfl HEV.out hth0 hinf2 hone ?_)
            have hs := set_all HO9.out.b0 CL HLL.out
            exact bodyPost_ret (v := .agg CL.toArray) (results_cell_row Try.results10 _ _ w.heap.size 43 _ (0, 0) _ rfl hs Try.underlying43 rfl hinf2) rfl ⟨setCells_below _ (Nat.le_refl _) _ _ _ HO9.out.bel, by rw [HRE.out]; exact congrArg Ending.returned HEV.out.symm⟩
          · -- unique
            go_wp2_with fail
            refine htk5.out.mono ?_
            rintro x w3 ⟨rfl, hb3⟩
            have hb4 := boxed w3 (.cells #[.int .i64 uk, .string ux, .int .i64 up] 55)
            have ht4 := heap_new w3 (.cells #[.int .i64 uk, .string ux, .int .i64 up] 55)
            have hw4 := (own_apart HWN.out (gb_below hb3 (some w.heap.size)) (Nat.lt_succ_self _)).alloc (.cells #[.int .i64 uk, .string ux, .int .i64 up] 55)
            obtain ⟨W4, hW4⟩ : ∃ W4, W4 = w3.alloc (.cells #[.int .i64 uk, .string ux, .int .i64 up] 55) := ⟨_, rfl⟩
            go_upto_region 6 with fail
            rw [← hW4] at hb4 ht4 hw4 ⊢
            clear hW4
            have HO4 := Lib.hid ((HOR.out.step hb3).step hb4)
            have HT4 := Lib.hid ht4
            have HW4 := Lib.hid hw4
            obtain ⟨q0, q1, q2⟩ := row3 ht4
            clear hb3 hb4 ht4 hw4
            go_wp2_with fail
            refine (HWO5.out _).mono ?_
            rintro x w5 ⟨rfl, hb5⟩
            have hb6 := boxed w5 (.cells #[.int .i64 6, .int .i64 0] 33)
            have hn6 := heap_new w5 (.cells #[.int .i64 6, .int .i64 0] 33)
            have hw6 := (own_apart HW4.out (gb_below hb5 (some w.heap.size)) (Nat.lt_succ_self _)).alloc (.cells #[.int .i64 6, .int .i64 0] 33)
            have hls5 := HO4.out.bel.size
            have hls6 := hb5.size
            have hlt4 := heap_lt HT4.out
            have hl04 := heap_lt HO4.out.b0
            obtain ⟨W6, hW6⟩ : ∃ W6, W6 = w5.alloc (.cells #[.int .i64 6, .int .i64 0] 33) := ⟨_, rfl⟩
            go_upto_region 7 with fail
            rw [← hW6] at hb6 hn6 hw6 ⊢
            clear hW6 q0 q1 q2
            have HO6 := Lib.hid ((HO4.out.step hb5).step hb6)
            have ht6 := (hb6.block _ (by omega)).trans ((hb5.block _ (heap_lt HT4.out)).trans HT4.out)
            have HT6 := Lib.hid ht6
            have HN6 := Lib.hid hn6
            have HW6 := Lib.hid hw6
            obtain ⟨q0, q1, q2⟩ := row3 ht6
            obtain ⟨m0, m1⟩ := row2 hn6
            clear hb5 hb6 hn6 hw6 ht6
            go_wp2_with fail
            refine (HWR.out 3 (a' + 1) _ HO6.out.bel).mono ?_
            rintro x w9 ⟨rfl, hb9⟩
            have HO9 := Lib.hid (HO6.out.step hb9)
            clear hb9 m0 m1 q0 q1 q2
            rw [← HU.out]
            dsimp only
            obtain ⟨CL, hCL⟩ : ∃ CL, CL = gotL (.slice none 0 0) ty0 ⟨#[]⟩ ty0 0 0 (3) (up) := ⟨_, rfl⟩
            have hcz : CL.toArray.size = 28 := by rw [hCL]; rfl
            have hinf2 : (Try.prog.info? 43).map (·.size) = some CL.toArray.size := by rw [hcz]; kernel_rfl
            have hone : CL.toArray.all (·.oneCell') = true := by rw [hCL]; exact got_ones _ _ _ _ _ _ _ _ _ _
            have hth0 : World.there _ w.heap.size 0 CL.toArray.size := there_row HO9.out.b0 hcz
            have hlt := heap_lt HO9.out.b0
            have HEV : Hid (gotE (3) (up) = .agg CL.toArray) := Lib.hid (by rw [hCL]; rfl)
            have HLL : Hid (28 = CL.length) := Lib.hid (by rw [hCL]; rfl)
            clear hCL hcz
            go_wp2_with (refine wpList_store_mid rfl 43 (.tmp 6) (.tmp 47) rfl w.heap.size 0 CL.toArray rfl HEV.out hth0 hinf2 hone ?_)
            have hs := set_all HO9.out.b0 CL HLL.out
            exact bodyPost_ret (v := .agg CL.toArray) (results_cell_row Try.results10 _ _ w.heap.size 43 _ (0, 0) _ rfl hs Try.underlying43 rfl hinf2) rfl ⟨setCells_below _ (Nat.le_refl _) _ _ _ HO9.out.bel, by rw [HRE.out]; exact congrArg Ending.returned HEV.out.symm⟩
        · rw [if_neg h0] at HOP
          have HWW2 : Hid (wk = kk) := Lib.hid (by rw [HWW.out, if_neg h0])
          have hwk := HWW2.out
          subst hwk
          have HOK : Hid (ownP l ps (a' + 1) = .ok ⟨wk, 0⟩ (a' + 1 + 1)) := HOP
          have hk1 : (wk == 0) = false := by simpa using h0
          have hk6 : (wk == 6) = false := by
            have := HW6K.out
            simpa using this
          go_wp2_with fail
          refine htk5.out.mono ?_
          rintro x w3 ⟨rfl, hb3⟩
          have hb4 := boxed w3 (.cells #[.int .i64 uk, .string ux, .int .i64 up] 55)
          have ht4 := heap_new w3 (.cells #[.int .i64 uk, .string ux, .int .i64 up] 55)
          have hw4 := (own_apart HWN.out (gb_below hb3 (some w.heap.size)) (Nat.lt_succ_self _)).alloc (.cells #[.int .i64 uk, .string ux, .int .i64 up] 55)
          obtain ⟨W4, hW4⟩ : ∃ W4, W4 = w3.alloc (.cells #[.int .i64 uk, .string ux, .int .i64 up] 55) := ⟨_, rfl⟩
          go_upto_region 6 with fail
          rw [← hW4] at hb4 ht4 hw4 ⊢
          clear hW4
          have HO4 := Lib.hid ((HOR.out.step hb3).step hb4)
          have HT4 := Lib.hid ht4
          have HW4 := Lib.hid hw4
          obtain ⟨q0, q1, q2⟩ := row3 ht4
          clear hb3 hb4 ht4 hw4
          go_wp2_with fail
          refine (HWO5.out _).mono ?_
          rintro x w5 ⟨rfl, hb5⟩
          have hb6 := boxed w5 (.cells #[.int .i64 wk, .int .i64 0] 33)
          have hn6 := heap_new w5 (.cells #[.int .i64 wk, .int .i64 0] 33)
          have hw6 := (own_apart HW4.out (gb_below hb5 (some w.heap.size)) (Nat.lt_succ_self _)).alloc (.cells #[.int .i64 wk, .int .i64 0] 33)
          have hls5 := HO4.out.bel.size
          have hls6 := hb5.size
          have hlt4 := heap_lt HT4.out
          have hl04 := heap_lt HO4.out.b0
          obtain ⟨W6, hW6⟩ : ∃ W6, W6 = w5.alloc (.cells #[.int .i64 wk, .int .i64 0] 33) := ⟨_, rfl⟩
          go_upto_region 7 with fail
          rw [← hW6] at hb6 hn6 hw6 ⊢
          clear hW6 q0 q1 q2
          have HO6 := Lib.hid ((HO4.out.step hb5).step hb6)
          have ht6 := (hb6.block _ (by omega)).trans ((hb5.block _ (heap_lt HT4.out)).trans HT4.out)
          have HT6 := Lib.hid ht6
          have HN6 := Lib.hid hn6
          have HW6 := Lib.hid hw6
          obtain ⟨q0, q1, q2⟩ := row3 ht6
          obtain ⟨m0, m1⟩ := row2 hn6
          clear hb5 hb6 hn6 hw6 ht6
          rcases Nat.eq_zero_or_pos g with hg0 | hg0
          · subst hg0
            have h3 : ((acc.length : Int) == 3) = true := by simp; omega
            have HRE : Hid (res = .err 10 up) := Lib.hid (by rw [← HRR.out, go_full HOK.out, ← HU.out])
            go_wp2_with fail
            refine (HWR.out 10 (a' + 1) _ HO6.out.bel).mono ?_
            rintro x w9 ⟨rfl, hb9⟩
            have HO9 := Lib.hid (HO6.out.step hb9)
            clear hb9 m0 m1
            rw [← HU.out]
            dsimp only
            obtain ⟨CL, hCL⟩ : ∃ CL, CL = gotL (.slice none 0 0) ty0 ⟨#[]⟩ ty0 0 0 (10) (up) := ⟨_, rfl⟩
            have hcz : CL.toArray.size = 28 := by rw [hCL]; rfl
            have hinf2 : (Try.prog.info? 43).map (·.size) = some CL.toArray.size := by rw [hcz]; kernel_rfl
            have hone : CL.toArray.all (·.oneCell') = true := by rw [hCL]; exact got_ones _ _ _ _ _ _ _ _ _ _
            have hth0 : World.there _ w.heap.size 0 CL.toArray.size := there_row HO9.out.b0 hcz
            have hlt := heap_lt HO9.out.b0
            have HEV : Hid (gotE (10) (up) = .agg CL.toArray) := Lib.hid (by rw [hCL]; rfl)
            have HLL : Hid (28 = CL.length) := Lib.hid (by rw [hCL]; rfl)
            clear hCL hcz
            go_wp2_with (refine wpList_store_mid rfl 43 (.tmp 6) (.tmp 53) rfl w.heap.size 0 CL.toArray rfl HEV.out hth0 hinf2 hone ?_)
            have hs := set_all HO9.out.b0 CL HLL.out
            exact bodyPost_ret (v := .agg CL.toArray) (results_cell_row Try.results10 _ _ w.heap.size 43 _ (0, 0) _ rfl hs Try.underlying43 rfl hinf2) rfl ⟨setCells_below _ (Nat.le_refl _) _ _ _ HO9.out.bel, by rw [HRE.out]; exact congrArg Ending.returned HEV.out.symm⟩
          · obtain ⟨n', rfl⟩ : ∃ n', g = n' + 1 := ⟨g - 1, by omega⟩
            have h3 : ((acc.length : Int) == 3) = false := by simp; omega
            have HRE : Hid (res = if (tokI l (a' + 1 + 1)).is sComma = true then ownersGo l ps n' (a' + 1 + 2) (acc ++ [⟨wk, 0⟩]) else if (tokI l (a' + 1 + 1)).is sGt = true then .ok (acc ++ [⟨wk, 0⟩]) (a' + 1 + 2) else .err 3 (tokI l (a' + 1 + 1)).pos) := Lib.hid (by rw [← HRR.out]; exact go_more HOK.out)
            have hls8 := HO6.out.bel.size
            have hl0 := heap_lt HO6.out.b0
            go_upto_region 16 with (at_builtin; refine wpList_append_own _ rfl (.tmp 54) (.tmp 56) 39 rfl (w.heap.size + 1) 33 i0 (.agg #[.int .i64 0, .int .i64 0]) 2 16 Try.underlying39 hi hz0 hz1 hz2 rfl (by decide) _ _ _ rfl (HW6.out.alloc _) ⟨W6.heap.size, 0, none⟩ 1 1 [.int .i64 (wk), .int .i64 (0)] rfl rfl (new2 _ _ _ _ _ rfl) (ones2 _ _) (by unfold maxLen; omega) (by omega) (by simp; omega) ?_; intro v' w' hown' hgrow' hiff; clear hiff; have HO' := Lib.hid hown'; have HOG9 := Lib.hid ((HO6.out.step (boxed W6 (.cells #[.int .i64 (wk), .int .i64 (0)] 33))).grow (HW6.out.alloc _) hgrow'); clear hown' hgrow')
            have htk9 := Lib.hid (fun W hW => HTK.out (a' + 1 + 1) W hW)
            have HIN9 : Hid (∀ s, (tokI l (a' + 1 + 1)).is s = true → 0 ≤ a' + 1 + 1 ∧ a' + 1 + 1 < l.length) := Lib.hid (fun s h => is_in h)
            have HGC : Hid ((tokI l (a' + 1 + 1)).is sGt = true → (tokI l (a' + 1 + 1)).is sComma = false) := Lib.hid gt_comma
            obtain ⟨x9, hx9⟩ : ∃ x, x = tokI l (a' + 1 + 1) := ⟨_, rfl⟩
            have HX9 := Lib.hid hx9
            rw [← hx9] at HRE htk9 HIN9 HGC
            have HISG := Lib.hid (fun W => HIS.out x9 ⟨#[62]⟩ W)
            have HISC := Lib.hid (fun W => HIS.out x9 ⟨#[44]⟩ W)
            obtain ⟨bg, hbg⟩ : ∃ b, b = x9.is ⟨#[62]⟩ := ⟨_, rfl⟩
            obtain ⟨bc, hbc⟩ : ∃ b, b = x9.is ⟨#[44]⟩ := ⟨_, rfl⟩
            have HRE2 : Hid (res = if bc = true then ownersGo l ps n' (a' + 1 + 2) (acc ++ [⟨wk, 0⟩]) else if bg = true then .ok (acc ++ [⟨wk, 0⟩]) (a' + 1 + 2) else .err 3 x9.pos) := Lib.hid (by rw [hbg, hbc]; exact HRE.out)
            have HGC2 : Hid (bg = true → bc = false) := Lib.hid (fun h => by rw [hbc]; exact HGC.out (by rw [← h, hbg]; rfl))
            have HIN92 : Hid (bc = true → 0 ≤ a' + 1 + 1 ∧ a' + 1 + 1 < l.length) := Lib.hid (fun h => HIN9.out ⟨#[44]⟩ (by rw [← hbc]; exact h))
            rw [← hbg] at HISG
            rw [← hbc] at HISC
            clear hx9 hbg hbc HRE HGC HIN9
            obtain ⟨xk, xx, xp⟩ := x9
            rw [val_eq] at htk9 HISG HISC
            dsimp only at htk9 HISG HISC HRE2
            go_wp2_with fail
            refine (htk9.out _ HOG9.out.bel).mono ?_
            rintro x wa ⟨rfl, hba⟩
            have HOa := Lib.hid (HOG9.out.step hba)
            have hwa := own_apart HO'.out (gb_below hba (some w.heap.size)) (Nat.lt_succ_self _)
            have HWa := Lib.hid hwa
            clear hba hwa
            go_wp2_with fail
            refine (HISG.out _).mono ?_
            rintro x wb ⟨rfl, hbb⟩
            have HOb := Lib.hid (HOa.out.step hbb)
            have hwb := own_apart HWa.out (gb_below hbb (some w.heap.size)) (Nat.lt_succ_self _)
            have HWb := Lib.hid hwb
            clear hbb hwb
            obtain ⟨VB, vb, rfl⟩ := own_slice HWb.out
            cases bg with
            | true =>
              have hbc0 := HGC2.out rfl
              subst hbc0
              have HR5 : Hid (res = .ok (acc ++ [⟨wk, 0⟩]) (a' + 1 + 2)) := HRE2
              obtain ⟨CL, hCL⟩ : ∃ CL, CL = gotL (.slice VB (acc.length + 1) vb) ty0 ⟨#[]⟩ ty0 0 (a' + 1 + 1 + 1) 0 0 := ⟨_, rfl⟩
              have hcz : CL.toArray.size = 28 := by rw [hCL]; rfl
              have hinf2 : (Try.prog.info? 43).map (·.size) = some CL.toArray.size := by rw [hcz]; kernel_rfl
              have hone : CL.toArray.all (·.oneCell') = true := by rw [hCL]; exact got_ones _ _ _ _ _ _ _ _ _ _
              have hth0 : World.there _ w.heap.size 0 CL.toArray.size := there_row HOb.out.b0 hcz
              have hlt := heap_lt HOb.out.b0
              have HEV : Hid ((Value.agg #[.slice VB (acc.length + 1) vb, .int .i64 0, .string ⟨#[]⟩, .int .i64 0, .int .i64 0, .int .i64 0, .int .i64 0, .int .i64 0, .int .i64 0, .int .i64 0, .int .i64 0, .int .i64 0, .string ⟨#[]⟩, .int .i64 0, .string ⟨#[]⟩, .int .i64 0, .int .i64 0, .int .i64 0, .int .i64 0, .int .i64 0, .int .i64 0, .int .i64 0, .int .i64 0, .int .i64 0, .int .i64 0, .int .i64 (a' + 1 + 1 + 1), .int .i64 0, .int .i64 0]) = .agg CL.toArray) := Lib.hid (by rw [hCL]; rfl)
              have HLL : Hid (28 = CL.length) := Lib.hid (by rw [hCL]; rfl)
              have HGV : Hid (gotV (.slice VB (acc.length + 1) vb) ty0 ⟨#[]⟩ ty0 0 (a' + 1 + 2) 0 0 = .agg CL.toArray) := Lib.hid (by rw [hCL, show a' + 1 + 2 = a' + 1 + 1 + 1 by omega]; rfl)
              clear hCL hcz
              go_wp2_with (refine wpList_store_mid rfl 43 (.tmp 6) (.tmp 67) rfl w.heap.size 0 CL.toArray rfl HEV.out hth0 hinf2 hone ?_)
              have hs := set_all HOb.out.b0 CL HLL.out
              have hof := own_base (own_apart HWb.out (setCells_gb w.heap.size CL 0 wb) (Nat.lt_succ_self _)) (Nat.le_succ _)
              refine bodyPost_ret (v := .agg CL.toArray) (results_cell_row Try.results10 _ _ w.heap.size 43 _ (0, 0) _ rfl hs Try.underlying43 rfl hinf2) rfl ⟨setCells_below _ (Nat.le_refl _) _ _ _ HOb.out.bel, ?_⟩
              rw [HR5.out]
              exact ⟨_, congrArg Ending.returned HGV.out.symm, by rw [ocells_snoc, List.length_append]; exact hof⟩
            | false =>
              go_wp2_with fail
              refine (htk9.out _ HOb.out.bel).mono ?_
              rintro x wc0 ⟨rfl, hbc0⟩
              have HOc := Lib.hid (HOb.out.step hbc0)
              have hwc := own_apart HWb.out (gb_below hbc0 (some w.heap.size)) (Nat.lt_succ_self _)
              have HWc := Lib.hid hwc
              clear hbc0 hwc
              go_wp2_with fail
              refine (HISC.out _).mono ?_
              rintro x wd ⟨rfl, hbd0⟩
              have HOd := Lib.hid (HOc.out.step hbd0)
              have hwd := own_apart HWc.out (gb_below hbd0 (some w.heap.size)) (Nat.lt_succ_self _)
              have HWd := Lib.hid hwd
              clear hbd0 hwd
              cases bc with
              | true =>
                have HR5 : Hid (res = ownersGo l ps n' (a' + 1 + 2) (acc ++ [⟨wk, 0⟩])) := HRE2
                have hin5 := HIN92.out rfl
                go_wp2_with fail
                go_roundg n'
                case rel => exact Lib.hid ⟨acc ++ [⟨wk, 0⟩], a' + 1 + 1, n', rfl, rfl, by simp; omega, by rw [HR5.out, show a' + 1 + 1 + 1 = a' + 1 + 2 by omega], hin5, HOd.out, by rw [ocells_snoc, List.length_append]; exact HWd.out⟩
                case measure =>
                  have := HGN.out
                  omega
              | false =>
                have HR5 : Hid (res = .err 3 xp) := HRE2
                go_wp2_with fail
                refine (HWR.out 3 (a' + 1 + 1) _ HOd.out.bel).mono ?_
                rintro x we ⟨rfl, hbe⟩
                have HOe := Lib.hid (HOd.out.step hbe)
                clear hbe
                rw [← HX9.out]
                dsimp only
                obtain ⟨CL, hCL⟩ : ∃ CL, CL = gotL (.slice none 0 0) ty0 ⟨#[]⟩ ty0 0 0 (3) (xp) := ⟨_, rfl⟩
                have hcz : CL.toArray.size = 28 := by rw [hCL]; rfl
                have hinf2 : (Try.prog.info? 43).map (·.size) = some CL.toArray.size := by rw [hcz]; kernel_rfl
                have hone : CL.toArray.all (·.oneCell') = true := by rw [hCL]; exact got_ones _ _ _ _ _ _ _ _ _ _
                have hth0 : World.there _ w.heap.size 0 CL.toArray.size := there_row HOe.out.b0 hcz
                have hlt := heap_lt HOe.out.b0
                have HEV : Hid (gotE (3) (xp) = .agg CL.toArray) := Lib.hid (by rw [hCL]; rfl)
                have HLL : Hid (28 = CL.length) := Lib.hid (by rw [hCL]; rfl)
                clear hCL hcz
                go_wp2_with (refine wpList_store_mid rfl 43 (.tmp 6) (.tmp 75) rfl w.heap.size 0 CL.toArray rfl HEV.out hth0 hinf2 hone ?_)
                have hs := set_all HOe.out.b0 CL HLL.out
                exact bodyPost_ret (v := .agg CL.toArray) (results_cell_row Try.results10 _ _ w.heap.size 43 _ (0, 0) _ rfl hs Try.underlying43 rfl hinf2) rfl ⟨setCells_below _ (Nat.le_refl _) _ _ _ HOe.out.bel, by rw [HR5.out]; exact congrArg Ending.returned HEV.out.symm⟩
end Go.Proofs.Ytbcgooofelnkoaa
