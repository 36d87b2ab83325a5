/- What is read as an object's type, by the program. Conditions: at most 1000 parameters, and at most 1000000 tokens. -/
import Derived.Test.YtbcgooofelnkoaaOc
namespace Go.Proofs.Ytbcgooofelnkoaa
open Go.RowKit
set_option linter.unusedVariables false

set_option maxRecDepth 100000 in
set_option maxHeartbeats 4000000 in
theorem object_any (R B : Nat) (l : List Gt) (A : Option Addr) (c : Nat) (PA : Option Addr) (ps : List ByteArray) (pc : Nat) (a : Int) (f : Bool) (w : World) (h : An R B l A c PA ps pc a w) (hlp : ps.length ≤ 1000) (hpc : ps.length ≤ pc) (hbd : l.length ≤ 1000000) :
    Calls Try.prog 40 #[pR R, .bool f] w (RzP R B l A c PA ps pc tyZ tyV (objectP l ps a f) w) := by
  have hfr := Fr.new h 36 28 ty0.cellL [.int .i64 0, .int .i64 0]
  have hRw := hfr.hR
  obtain ⟨W0, hW0⟩ : ∃ W0, W0 = (w.alloc (.cells #[.int .i64 0, .string ⟨#[]⟩, .int .i64 0, .int .i64 0, .int .i64 0, .int .i64 0, .int .i64 0, .int .i64 0, .int .i64 0, .int .i64 0, .int .i64 0] 36)).alloc (.cells #[.int .i64 0, .int .i64 0] 28) := ⟨_, rfl⟩
  have hfr : Fr R B l A c PA ps pc w 36 28 ty0.cellL [.int .i64 0, .int .i64 0] a W0 := by rw [hW0]; exact hfr
  have HF := Lib.hid hfr
  have HFI := Lib.hid (first_any R B l A c PA ps pc a f W0 hfr.an hlp hpc hbd)
  have HNM : Hid (∀ a W, Cu R B l A c #[.slice PA ps.length pc] 62 a W → Calls Try.prog 45 #[pR R] W (CuP R B l A c #[.slice PA ps.length pc] 62 W (if (tokI l a).kind = 1 then .tuple #[.string (tokI l a).text, fV 0 0] else .tuple #[.string ⟨#[]⟩, fV 3 (tokI l a).pos]) (if (tokI l a).kind = 1 then a + 1 else a))) := Lib.hid (fun a W hW => name_tok R B l A c _ _ a W hW)
  have HTK : Hid (∀ a W, Cu R B l A c #[.slice PA ps.length pc] 62 a W → Calls Try.prog 30 #[pR R] W fun x w' => x = .returned (tokI l a).val ∧ Below W.heap.size W w') := Lib.hid (fun a W hW => token_any R B l A c _ _ a W hW)
  have HIS : Hid (∀ t W, Calls Try.prog 33 #[Gt.val t, .string ⟨#[60]⟩] W fun e w' => e = .returned (.bool (Gt.is t sLt)) ∧ Below W.heap.size W w') := Lib.hid (fun t W => is_any t sLt W)
  have HOS : Hid (∀ a W, An R B l A c PA ps pc a W → Calls Try.prog 27 #[pR R] W (OwsP R B l A c PA ps pc (ownersP l ps a) W)) := Lib.hid (fun a W hW => owners_any R B l A c PA ps pc a W hW hlp hpc hbd)
  obtain ⟨res, hres⟩ : ∃ res, res = objectP l ps a f := ⟨_, rfl⟩
  rw [← hres]
  have HRES := Lib.hid hres
  obtain ⟨fr, hfi⟩ : ∃ fr, fr = firstP l ps a f := ⟨_, rfl⟩
  rw [← hfi] at HFI
  have HFR := Lib.hid hfi
  clear hfi hres hfr h
  go_enter Try.func40, Try.ntmps40
  go_upto_region 1 with fail
  rw [← hW0]
  clear hW0
  go_wp2_with fail
  refine HFI.out.mono ?_
  rintro x w5 hpost
  cases fr with
  | err e p =>
    have HRE : Hid (res = .err e p) := Lib.hid (by rw [HRES.out]; unfold objectP; rw [← HFR.out])
    obtain ⟨rfl, he, a5, ha5, hg5⟩ := rzP_err hpost rfl
    have HHE := Lib.hid he
    have hne0 : (e != 0) = true := by simpa using he
    have HF5 := Lib.hid (HF.out.turn ha5 hg5)
    have hl5 := heap_lt HF5.out.b1
    obtain ⟨z0, z1, z2, z3⟩ := two2 (Below.refl ((w5.alloc (.cells #[.int .i64 0, .int .i64 0] 33)).alloc (.cells #[.int .i64 e, .int .i64 p] 28)).heap.size _)
    clear hpost he ha5 hg5
    obtain ⟨W6, hW6⟩ : ∃ W6, W6 = (w5.alloc (.cells #[.int .i64 0, .int .i64 0] 33)).alloc (.cells #[.int .i64 e, .int .i64 p] 28) := ⟨_, rfl⟩
    go_upto_region 2 with fail
    rw [← hW6] at z0 z1 z2 z3 ⊢
    clear hW6
    have HF6 := Lib.hid (HF5.out.step z2)
    obtain ⟨q0, q1⟩ := row2 z1
    clear z0 z1 z2
    have n1 : ¬ w.heap.size = w5.heap.size + 1 := by omega
    have n2 : ¬ w5.heap.size + 1 = w.heap.size := by omega
    have n3 : ¬ w.heap.size + 1 = w5.heap.size + 1 := by omega
    have n4 : ¬ w5.heap.size + 1 = w.heap.size + 1 := by omega
    obtain ⟨y0, y1⟩ := row2 HF6.out.b1
    have g0 := frozen_of HF6.out.b1 0
    have g1 := frozen_of HF6.out.b1 1
    have x0 := cell_at HF6.out.b0 0 _ rfl
    have f0 := frozen_of HF6.out.b0 0
    have x1 := cell_at HF6.out.b0 1 _ rfl
    have f1 := frozen_of HF6.out.b0 1
    have x2 := cell_at HF6.out.b0 2 _ rfl
    have f2 := frozen_of HF6.out.b0 2
    have x3 := cell_at HF6.out.b0 3 _ rfl
    have f3 := frozen_of HF6.out.b0 3
    have x4 := cell_at HF6.out.b0 4 _ rfl
    have f4 := frozen_of HF6.out.b0 4
    have x5 := cell_at HF6.out.b0 5 _ rfl
    have f5 := frozen_of HF6.out.b0 5
    have x6 := cell_at HF6.out.b0 6 _ rfl
    have f6 := frozen_of HF6.out.b0 6
    have x7 := cell_at HF6.out.b0 7 _ rfl
    have f7 := frozen_of HF6.out.b0 7
    have x8 := cell_at HF6.out.b0 8 _ rfl
    have f8 := frozen_of HF6.out.b0 8
    have x9 := cell_at HF6.out.b0 9 _ rfl
    have f9 := frozen_of HF6.out.b0 9
    have x10 := cell_at HF6.out.b0 10 _ rfl
    have f10 := frozen_of HF6.out.b0 10
    go_wp2_with fail
    go_region
    go_wp2_with fail
    have hF := ((HF6.out.put0 ty0.cellL rfl).put1 [.int .i64 (e), .int .i64 (p)] rfl).step (drew_below _)
    change bodyPost _ _ _ _ _ (World.drew (World.setCells (World.setCells _ w.heap.size 0 ty0.cellL) (w.heap.size + 1) 0 [.int .i64 (e), .int .i64 (p)]))
    exact bodyPost_ret (v := .tuple #[tyZ, fV (e) (p)]) (results_two Try.results40 _ _ w.heap.size (w.heap.size + 1) 36 28 _ _ _ _ rfl rfl hF.b0 hF.b1 Try.underlying36 rfl (by kernel_rfl) Try.underlying28 rfl (by kernel_rfl)) rfl ⟨hF.gb, by rw [HRE.out]; exact ⟨rfl, HHE.out, _, hF.an⟩⟩
  | ok o a1 =>
    obtain ⟨rfl, ha5, hg5⟩ := rzP_ok hpost rfl
    have HF5 := Lib.hid (HF.out.turn ha5 hg5)
    obtain ⟨ok, on⟩ := o
    obtain ⟨z0, z1, z2, z3⟩ := two2 (Below.refl ((w5.alloc (.cells #[.int .i64 ok, .int .i64 on] 33)).alloc (.cells #[.int .i64 0, .int .i64 0] 28)).heap.size _)
    have hl5 := heap_lt HF5.out.b1
    clear hpost ha5 hg5
    obtain ⟨W6, hW6⟩ : ∃ W6, W6 = (w5.alloc (.cells #[.int .i64 ok, .int .i64 on] 33)).alloc (.cells #[.int .i64 0, .int .i64 0] 28) := ⟨_, rfl⟩
    go_upto_region 2 with fail
    rw [← hW6] at z0 z1 z2 z3 ⊢
    clear hW6
    have HF6 := Lib.hid (HF5.out.step z2)
    have HO6 := Lib.hid z0
    have HB6 := Lib.hid z1
    obtain ⟨q0, q1⟩ := row2 z1
    clear z0 z1 z2
    have HN := Lib.hid (HNM.out a1 W6 HF6.out.an.cu)
    obtain ⟨t, ht⟩ : ∃ t, t = tokI l a1 := ⟨_, rfl⟩
    have HT := Lib.hid ht
    rw [← ht] at HN
    clear ht
    obtain ⟨tk, tx, tp⟩ := t
    dsimp only at HN
    by_cases hk : tk = 1
    case neg =>
      rw [if_neg hk, if_neg hk] at HN
      have HRE : Hid (res = .err 3 tp) := Lib.hid (by rw [HRES.out]; unfold objectP; rw [← HFR.out]; dsimp only; rw [← HT.out]; rw [if_neg hk])
      clear hk
      go_wp2_with fail
      refine HN.out.mono ?_
      rintro x w7 ⟨rfl, hc7, hg7⟩
      have HF7 := Lib.hid (HF6.out.turn (HF6.out.an.turn hc7 hg7) hg7)
      have hb7 := (hg7.block _ (heap_lt HB6.out) (fun e => by cases e; omega)).trans HB6.out
      have HB7 := Lib.hid hb7
      have hth := there_row (n := 2) hb7 rfl
      clear hc7 hg7 hb7 q0 q1
      go_upto_region 5 with (refine wpList_store_mid rfl 28 _ _ rfl (w5.heap.size + 1) 0 #[.int .i64 (3), .int .i64 (tp)] rfl rfl hth (by kernel_rfl) (one2 _ _) ?_)
      have hFx := HF7.out.aside (w5.heap.size + 1) (by omega) [.int .i64 3, .int .i64 tp] 0
      have hBx := set_all HB7.out [.int .i64 3, .int .i64 tp] rfl
      obtain ⟨W8, hW8⟩ : ∃ W8, W8 = w7.setCells (w5.heap.size + 1) 0 [.int .i64 3, .int .i64 tp] := ⟨_, rfl⟩
      rw [← hW8] at hFx hBx ⊢
      clear hW8 hth
      have HF8 := Lib.hid hFx
      obtain ⟨q0, q1⟩ := row2 hBx
      clear hFx hBx
      have hl8 := heap_lt HF8.out.b1
      have n1 : ¬ w.heap.size = w5.heap.size + 1 := by omega
      have n2 : ¬ w5.heap.size + 1 = w.heap.size := by omega
      have n3 : ¬ w.heap.size + 1 = w5.heap.size + 1 := by omega
      have n4 : ¬ w5.heap.size + 1 = w.heap.size + 1 := by omega
      obtain ⟨y0, y1⟩ := row2 HF8.out.b1
      have g0 := frozen_of HF8.out.b1 0
      have g1 := frozen_of HF8.out.b1 1
      have x0 := cell_at HF8.out.b0 0 _ rfl
      have f0 := frozen_of HF8.out.b0 0
      have x1 := cell_at HF8.out.b0 1 _ rfl
      have f1 := frozen_of HF8.out.b0 1
      have x2 := cell_at HF8.out.b0 2 _ rfl
      have f2 := frozen_of HF8.out.b0 2
      have x3 := cell_at HF8.out.b0 3 _ rfl
      have f3 := frozen_of HF8.out.b0 3
      have x4 := cell_at HF8.out.b0 4 _ rfl
      have f4 := frozen_of HF8.out.b0 4
      have x5 := cell_at HF8.out.b0 5 _ rfl
      have f5 := frozen_of HF8.out.b0 5
      have x6 := cell_at HF8.out.b0 6 _ rfl
      have f6 := frozen_of HF8.out.b0 6
      have x7 := cell_at HF8.out.b0 7 _ rfl
      have f7 := frozen_of HF8.out.b0 7
      have x8 := cell_at HF8.out.b0 8 _ rfl
      have f8 := frozen_of HF8.out.b0 8
      have x9 := cell_at HF8.out.b0 9 _ rfl
      have f9 := frozen_of HF8.out.b0 9
      have x10 := cell_at HF8.out.b0 10 _ rfl
      have f10 := frozen_of HF8.out.b0 10
      go_wp2_with fail
      go_region
      go_wp2_with fail
      have hF := ((HF8.out.put0 ty0.cellL rfl).put1 [.int .i64 (3), .int .i64 (tp)] rfl).step (drew_below _)
      change bodyPost _ _ _ _ _ (World.drew (World.setCells (World.setCells _ w.heap.size 0 ty0.cellL) (w.heap.size + 1) 0 [.int .i64 (3), .int .i64 (tp)]))
      exact bodyPost_ret (v := .tuple #[tyZ, fV (3) (tp)]) (results_two Try.results40 _ _ w.heap.size (w.heap.size + 1) 36 28 _ _ _ _ rfl rfl hF.b0 hF.b1 Try.underlying36 rfl (by kernel_rfl) Try.underlying28 rfl (by kernel_rfl)) rfl ⟨hF.gb, by rw [HRE.out]; exact ⟨rfl, by decide, _, hF.an⟩⟩
    case pos =>
      subst hk
      have HN : Hid (Calls Try.prog 45 #[pR R] W6 (CuP R B l A c #[.slice PA ps.length pc] 62 W6 (.tuple #[.string tx, fV 0 0]) (a1 + 1))) := HN
      go_wp2_with fail
      refine HN.out.mono ?_
      rintro x w7 ⟨rfl, hc7, hg7⟩
      have HF7 := Lib.hid (HF6.out.turn (HF6.out.an.turn hc7 hg7) hg7)
      have hb7 := (hg7.block _ (heap_lt HB6.out) (fun e => by cases e; omega)).trans HB6.out
      have ho7 := (hg7.block _ (heap_lt HO6.out) (fun e => by cases e; omega)).trans HO6.out
      have HB7 := Lib.hid hb7
      have HO7 := Lib.hid ho7
      have hth := there_row (n := 2) hb7 rfl
      clear hc7 hg7 hb7 ho7 q0 q1
      go_upto_region 5 with (refine wpList_store_mid rfl 28 _ _ rfl (w5.heap.size + 1) 0 #[.int .i64 (0), .int .i64 (0)] rfl rfl hth (by kernel_rfl) (one2 _ _) ?_)
      have hFx := HF7.out.aside (w5.heap.size + 1) (by omega) [.int .i64 0, .int .i64 0] 0
      have hBx := set_all HB7.out [.int .i64 0, .int .i64 0] rfl
      have hOx := (setCells_other (w5.heap.size + 1) w5.heap.size (by omega) [.int .i64 0, .int .i64 0] 0 w7).trans HO7.out
      obtain ⟨W8, hW8⟩ : ∃ W8, W8 = w7.setCells (w5.heap.size + 1) 0 [.int .i64 0, .int .i64 0] := ⟨_, rfl⟩
      rw [← hW8] at hFx hBx hOx ⊢
      clear hW8 hth
      have HF8 := Lib.hid hFx
      have HB8 := Lib.hid hBx
      obtain ⟨q0, q1⟩ := row2 hBx
      obtain ⟨m0, m1⟩ := row2 hOx
      clear hFx hBx hOx
      go_upto_region 8 with fail
      have hbn := boxed W8 (.cells #[.int .i64 2, .string tx, .int .i64 0, .int .i64 ok, .int .i64 on, .int .i64 0, .int .i64 0, .int .i64 0, .int .i64 0, .int .i64 0, .int .i64 0] 36)
      have hn9 := heap_new W8 (.cells #[.int .i64 2, .string tx, .int .i64 0, .int .i64 ok, .int .i64 on, .int .i64 0, .int .i64 0, .int .i64 0, .int .i64 0, .int .i64 0, .int .i64 0] 36)
      have hlt8 := heap_lt HB8.out
      obtain ⟨W9, hW9⟩ : ∃ W9, W9 = W8.alloc (.cells #[.int .i64 2, .string tx, .int .i64 0, .int .i64 ok, .int .i64 on, .int .i64 0, .int .i64 0, .int .i64 0, .int .i64 0, .int .i64 0, .int .i64 0] 36) := ⟨_, rfl⟩
      rw [← hW9] at hbn hn9 ⊢
      have HG9 : Hid (W9.heap[W8.heap.size]? = some (.cells (Ty.cellL (tyOf tx ⟨ok, on⟩ [])).toArray 36 (0, 0))) := Lib.hid hn9
      have HF9 := Lib.hid (HF8.out.step hbn)
      have HB9 := Lib.hid ((hbn.block _ (heap_lt HB8.out)).trans HB8.out)
      have HTK1 := Lib.hid (HTK.out (a1 + 1) W9 HF9.out.an.cu)
      clear hW9 hbn hn9 q0 q1 m0 m1
      obtain ⟨u, hu⟩ : ∃ u, u = tokI l (a1 + 1) := ⟨_, rfl⟩
      have HU := Lib.hid hu
      rw [← hu] at HTK1
      clear hu
      have HISu := Lib.hid (fun W => HIS.out u W)
      obtain ⟨b, hb⟩ : ∃ b, b = u.is sLt := ⟨_, rfl⟩
      have HBB := Lib.hid hb
      rw [← hb] at HISu
      clear hb
      obtain ⟨uk, ux, up⟩ := u
      rw [val_eq] at HTK1 HISu
      dsimp only at HTK1 HISu
      go_wp2_with fail
      refine HTK1.out.mono ?_
      rintro x w10 ⟨rfl, hb10⟩
      have HF10 := Lib.hid (HF9.out.step hb10)
      have hg10 := (hb10.block _ (heap_lt HG9.out)).trans HG9.out
      have hB10 := (hb10.block _ (heap_lt HB9.out)).trans HB9.out
      have HG10 := Lib.hid hg10
      have HB10 := Lib.hid hB10
      clear hb10 hg10 hB10
      go_wp2_with fail
      refine (HISu.out _).mono ?_
      rintro x w11 ⟨rfl, hb11⟩
      have HF11 := Lib.hid (HF10.out.step hb11)
      have hg11 := (hb11.block _ (heap_lt HG10.out)).trans HG10.out
      have hB11 := (hb11.block _ (heap_lt HB10.out)).trans HB10.out
      have HG11 := Lib.hid hg11
      have HB11 := Lib.hid hB11
      clear hb11 hg11 hB11
      cases b with
      | false =>
        have HRE : Hid (res = .ok (tyOf tx ⟨ok, on⟩ []) (a1 + 1)) := Lib.hid (by
          rw [HRES.out]; unfold objectP; rw [← HFR.out]; dsimp only
          rw [← HT.out, if_pos rfl, ← HU.out, ← HBB.out, if_neg Bool.false_ne_true])
        have hrg := range_row HG11.out
        obtain ⟨CL, hCL⟩ : ∃ CL, CL = Ty.cellL ((tyOf tx ⟨ok, on⟩ [])) := ⟨_, rfl⟩
        have hcz : CL.toArray.size = 11 := by rw [hCL]; rfl
        have hinf : (Try.prog.info? 36).map (·.size) = some CL.length := by rw [hCL]; exact (by kernel_rfl : (Try.prog.info? 36).map (·.size) = some 11)
        have hinf2 : (Try.prog.info? 36).map (·.size) = some CL.toArray.size := by rw [hcz]; kernel_rfl
        have hone : CL.toArray.all (·.oneCell') = true := by rw [hCL]; exact one11 _
        have hth0 : World.there _ w.heap.size 0 CL.toArray.size := there_row HF11.out.b0 hcz
        rw [← hCL] at hrg
        have hth1 := there_row (n := 2) HF11.out.b1 rfl
        have hlt := heap_lt HF11.out.b1
        have HCL := Lib.hid hCL
        clear hCL hcz
        go_wp2_with (first | (refine wpList_load_mid rfl 36 _ rfl (W8.heap.size) 0 rfl CL _ hrg Try.underlying36 rfl hinf ?_) | (refine wpList_store_mid rfl 36 _ _ rfl w.heap.size 0 CL.toArray rfl rfl hth0 hinf2 hone ?_) | (refine wpList_store_mid rfl 28 _ _ rfl (w.heap.size + 1) 0 #[.int .i64 (0), .int .i64 (0)] rfl rfl (World.there_setCells hth1 _ _ _) (by kernel_rfl) (one2 _ _) ?_))
        have hF := (HF11.out.put0 CL (by rw [HCL.out]; rfl)).put1 [.int .i64 (0), .int .i64 (0)] rfl
        have HV : Hid (tyV ((tyOf tx ⟨ok, on⟩ [])) = .agg CL.toArray) := Lib.hid (by rw [HCL.out])
        exact bodyPost_ret (v := .tuple #[.agg CL.toArray, fV (0) (0)]) (results_two Try.results40 _ _ w.heap.size (w.heap.size + 1) 36 28 _ _ _ _ rfl rfl hF.b0 hF.b1 Try.underlying36 rfl hinf2 Try.underlying28 rfl (by kernel_rfl)) rfl ⟨hF.gb, by rw [HRE.out]; exact ⟨by rw [HV.out], hF.an⟩⟩
      | true =>
        have hros := HOS.out (a1 + 1) w11 HF11.out.an
        obtain ⟨rr, hrr⟩ : ∃ rr, rr = ownersP l ps (a1 + 1) := ⟨_, rfl⟩
        have HRR := Lib.hid hrr
        have hRES2 : res = withOw tx ⟨ok, on⟩ rr := by
          rw [HRES.out]; unfold objectP; rw [← HFR.out]; dsimp only
          rw [← HT.out, if_pos rfl, ← HU.out, ← HBB.out, if_pos rfl, ← hrr]
        rw [← hrr] at hros
        have HROS := Lib.hid hros
        have HRES2 := Lib.hid hRES2
        clear hros hRES2 hrr
        go_wp2_with fail
        refine HROS.out.mono ?_
        rintro x w12 hpost
        cases rr with
        | err e p =>
          have HRE : Hid (res = .err e p) := HRES2
          obtain ⟨rfl, he, a5, ha5, hg5⟩ := owsP_err hpost rfl
          have HHE := Lib.hid he
          have hne0 : (e != 0) = true := by simpa using he
          have HF12 := Lib.hid (HF11.out.turn ha5 hg5)
          have hB12 := (hg5.block _ (heap_lt HB11.out) (fun e => by cases e; omega)).trans HB11.out
          have HB12 := Lib.hid hB12
          have hth := there_row (n := 2) hB12 rfl
          clear hpost he ha5 hg5 hB12
          go_upto_region 11 with (refine wpList_store_mid rfl 28 _ _ rfl (w5.heap.size + 1) 0 #[.int .i64 (e), .int .i64 (p)] rfl rfl hth (by kernel_rfl) (one2 _ _) ?_)
          have hFx := HF12.out.aside (w5.heap.size + 1) (by omega) [.int .i64 e, .int .i64 p] 0
          have hBx := set_all HB12.out [.int .i64 e, .int .i64 p] rfl
          obtain ⟨W13, hW13⟩ : ∃ W13, W13 = w12.setCells (w5.heap.size + 1) 0 [.int .i64 e, .int .i64 p] := ⟨_, rfl⟩
          rw [← hW13] at hFx hBx ⊢
          clear hW13 hth
          have HF13 := Lib.hid hFx
          obtain ⟨q0, q1⟩ := row2 hBx
          clear hFx hBx
          have hl13 := heap_lt HF13.out.b1
          have n1 : ¬ w.heap.size = w5.heap.size + 1 := by omega
          have n2 : ¬ w5.heap.size + 1 = w.heap.size := by omega
          have n3 : ¬ w.heap.size + 1 = w5.heap.size + 1 := by omega
          have n4 : ¬ w5.heap.size + 1 = w.heap.size + 1 := by omega
          obtain ⟨y0, y1⟩ := row2 HF13.out.b1
          have g0 := frozen_of HF13.out.b1 0
          have g1 := frozen_of HF13.out.b1 1
          have x0 := cell_at HF13.out.b0 0 _ rfl
          have f0 := frozen_of HF13.out.b0 0
          have x1 := cell_at HF13.out.b0 1 _ rfl
          have f1 := frozen_of HF13.out.b0 1
          have x2 := cell_at HF13.out.b0 2 _ rfl
          have f2 := frozen_of HF13.out.b0 2
          have x3 := cell_at HF13.out.b0 3 _ rfl
          have f3 := frozen_of HF13.out.b0 3
          have x4 := cell_at HF13.out.b0 4 _ rfl
          have f4 := frozen_of HF13.out.b0 4
          have x5 := cell_at HF13.out.b0 5 _ rfl
          have f5 := frozen_of HF13.out.b0 5
          have x6 := cell_at HF13.out.b0 6 _ rfl
          have f6 := frozen_of HF13.out.b0 6
          have x7 := cell_at HF13.out.b0 7 _ rfl
          have f7 := frozen_of HF13.out.b0 7
          have x8 := cell_at HF13.out.b0 8 _ rfl
          have f8 := frozen_of HF13.out.b0 8
          have x9 := cell_at HF13.out.b0 9 _ rfl
          have f9 := frozen_of HF13.out.b0 9
          have x10 := cell_at HF13.out.b0 10 _ rfl
          have f10 := frozen_of HF13.out.b0 10
          go_wp2_with fail
          go_region
          go_wp2_with fail
          have hF := ((HF13.out.put0 ty0.cellL rfl).put1 [.int .i64 (e), .int .i64 (p)] rfl).step (drew_below _)
          change bodyPost _ _ _ _ _ (World.drew (World.setCells (World.setCells _ w.heap.size 0 ty0.cellL) (w.heap.size + 1) 0 [.int .i64 (e), .int .i64 (p)]))
          exact bodyPost_ret (v := .tuple #[tyZ, fV (e) (p)]) (results_two Try.results40 _ _ w.heap.size (w.heap.size + 1) 36 28 _ _ _ _ rfl rfl hF.b0 hF.b1 Try.underlying36 rfl (by kernel_rfl) Try.underlying28 rfl (by kernel_rfl)) rfl ⟨hF.gb, by rw [HRE.out]; exact ⟨rfl, HHE.out, _, hF.an⟩⟩
        | ok y a2 =>
          have HRE : Hid (res = .ok (tyOf tx ⟨ok, on⟩ y) a2) := HRES2
          obtain ⟨v, rfl, ha5, ho5, hg5⟩ := owsP_ok hpost rfl
          have hylen := ownersP_len HRR.out.symm
          have HF12 := Lib.hid (HF11.out.turn ha5 hg5)
          have hB12 := (hg5.block _ (heap_lt HB11.out) (fun e => by cases e; omega)).trans HB11.out
          have hG12 := (hg5.block _ (heap_lt HG11.out) (fun e => by cases e; omega)).trans HG11.out
          have hl11 := heap_lt HB11.out
          have hl12 := heap_lt HG11.out
          have ho13 := own_apart ho5 (setCells_gb (w5.heap.size + 1) [.int .i64 0, .int .i64 0] 0 w12) (by omega)
          have hG13 := (setCells_other (w5.heap.size + 1) W8.heap.size (by omega) [.int .i64 0, .int .i64 0] 0 w12).trans hG12
          have HB12 := Lib.hid hB12
          have hth := there_row (n := 2) hB12 rfl
          clear hpost ha5 hg5 hB12 hG12 ho5
          go_upto_region 11 with (refine wpList_store_mid rfl 28 _ _ rfl (w5.heap.size + 1) 0 #[.int .i64 (0), .int .i64 (0)] rfl rfl hth (by kernel_rfl) (one2 _ _) ?_)
          have hFx := HF12.out.aside (w5.heap.size + 1) (by omega) [.int .i64 0, .int .i64 0] 0
          have hBx := set_all HB12.out [.int .i64 0, .int .i64 0] rfl
          obtain ⟨W13, hW13⟩ : ∃ W13, W13 = w12.setCells (w5.heap.size + 1) 0 [.int .i64 0, .int .i64 0] := ⟨_, rfl⟩
          rw [← hW13] at hFx hBx ho13 hG13 ⊢
          clear hW13 hth
          have HF13 := Lib.hid hFx
          have HG13 := Lib.hid hG13
          obtain ⟨q0, q1⟩ := row2 hBx
          clear hFx hBx hG13
          rcases ho13.2 with ⟨_, h0⟩ | ⟨yg, ycap, ycur, rfl, _⟩
          · omega
          have HSRC := Lib.hid (fun (j : Nat) (u : Value) => ho13.cells (g := yg) rfl j u)
          have HGL := Lib.hid (heap_lt HG13.out)
          clear ho13
          rcases list3 hylen with ⟨p, rfl⟩ | ⟨p, q, rfl⟩ | ⟨p, q, r, rfl⟩
          · have hcs : ∀ v ∈ ([.int .i64 p.kind, .int .i64 p.n] : List Value), v.oneCell' = true := by
              intro v hv
              simp only [List.mem_cons, List.not_mem_nil, or_false] at hv
              rcases hv with rfl | rfl <;> rfl
            have hsrc : ∀ (j : Nat) (v : Value), ([.int .i64 p.kind, .int .i64 p.n] : List Value)[j]? = some v → W13.cell? ((⟨yg, 0, none⟩ : Addr).add j) = some v := fun j v hv => HSRC.out j v hv
            have hG13 : W13.heap[W8.heap.size]? = some (.cells (([.int .i64 2, .string tx, .int .i64 0, .int .i64 ok, .int .i64 on] : List Value) ++ (([.int .i64 0, .int .i64 0] : List Value) ++ ([.int .i64 0, .int .i64 0, .int .i64 0, .int .i64 0] : List Value))).toArray 36 (0, 0)) := HG13.out
            have hthc : W13.there W8.heap.size 5 2 := fun j hj => by
              have hh : 5 + j < 11 := by omega
              have := there_row (n := 11) HG13.out rfl (5 + j) hh
              rw [Nat.zero_add] at this
              exact this
            have hG14 := set_mid _ _ _ [.int .i64 p.kind, .int .i64 p.n] hG13 rfl
            have hG14 : (W13.setCells W8.heap.size 5 [.int .i64 p.kind, .int .i64 p.n]).heap[W8.heap.size]? = some (.cells (([.int .i64 2, .string tx, .int .i64 0, .int .i64 ok, .int .i64 on] : List Value) ++ (([.int .i64 p.kind, .int .i64 p.n] : List Value) ++ ([.int .i64 0, .int .i64 0, .int .i64 0, .int .i64 0] : List Value))).toArray 36 (0, 0)) := hG14
            have hF14 := HF13.out.aside W8.heap.size (by omega) [.int .i64 p.kind, .int .i64 p.n] 5
            obtain ⟨W14, hW14⟩ : ∃ W14, W14 = W13.setCells W8.heap.size 5 [.int .i64 p.kind, .int .i64 p.n] := ⟨_, rfl⟩
            rw [← hW14] at hG14 hF14
            have HW14 := Lib.hid hW14
            have HG14 := Lib.hid hG14
            have HF14 := Lib.hid hF14
            have q2 : W14.cell? ⟨W8.heap.size, 2, none⟩ = some (.int .i64 0) := cell_at hG14 2 _ rfl
            have f2 := frozen_of hG14 2
            have hGl := HGL.out
            clear hG13 hG14 hF14 hW14
            go_upto_region 14 with (refine wpList_copy_wide rfl (.tmp 57) (.tmp 58) 39 39 rfl 33 Try.underlying39 2 (by kernel_rfl) W8.heap.size 5 3 3 ⟨yg, 0, none⟩ 1 ycap 1 rfl rfl [.int .i64 p.kind, .int .i64 p.n] rfl rfl hsrc hthc hcs ?_; rw [← HW14.out])
            have hG15 := heap_setCell_same W14 W8.heap.size 2 _ 36 (.int .i64 (1 : Nat)) HG14.out
            have hG15 : (W14.setCell ⟨W8.heap.size, 2, none⟩ (.int .i64 (1 : Nat))).heap[W8.heap.size]? = some (.cells (Ty.cellL (tyOf tx ⟨ok, on⟩ [p])).toArray 36 (0, 0)) := hG15
            have hF15 := HF14.out.aside W8.heap.size (by omega) [.int .i64 (1 : Nat)] 2
            have hF15 : Fr R B l A c PA ps pc w 36 28 ty0.cellL [.int .i64 0, .int .i64 0] a2 (W14.setCell ⟨W8.heap.size, 2, none⟩ (.int .i64 (1 : Nat))) := hF15
            obtain ⟨W15, hW15⟩ : ∃ W15, W15 = W14.setCell ⟨W8.heap.size, 2, none⟩ (.int .i64 (1 : Nat)) := ⟨_, rfl⟩
            rw [← hW15] at hG15 hF15
            change Code.wp _ _ _ _ (W14.setCell ⟨W8.heap.size, 2, none⟩ (.int .i64 (1 : Nat)))
            rw [← hW15]
            have HF15 := Lib.hid hF15
            have hrg := range_row hG15
            clear q0 q1 q2 f2 hW15 hG15 hF15 hcs hsrc hthc
            obtain ⟨CL, hCL⟩ : ∃ CL, CL = Ty.cellL ((tyOf tx ⟨ok, on⟩ [p])) := ⟨_, rfl⟩
            have hcz : CL.toArray.size = 11 := by rw [hCL]; rfl
            have hinf : (Try.prog.info? 36).map (·.size) = some CL.length := by rw [hCL]; exact (by kernel_rfl : (Try.prog.info? 36).map (·.size) = some 11)
            have hinf2 : (Try.prog.info? 36).map (·.size) = some CL.toArray.size := by rw [hcz]; kernel_rfl
            have hone : CL.toArray.all (·.oneCell') = true := by rw [hCL]; exact one11 _
            have hth0 : World.there _ w.heap.size 0 CL.toArray.size := there_row HF15.out.b0 hcz
            rw [← hCL] at hrg
            have hth1 := there_row (n := 2) HF15.out.b1 rfl
            have hlt := heap_lt HF15.out.b1
            have HCL := Lib.hid hCL
            clear hCL hcz
            go_wp2_with (first | (refine wpList_load_mid rfl 36 _ rfl (W8.heap.size) 0 rfl CL _ hrg Try.underlying36 rfl hinf ?_) | (refine wpList_store_mid rfl 36 _ _ rfl w.heap.size 0 CL.toArray rfl rfl hth0 hinf2 hone ?_) | (refine wpList_store_mid rfl 28 _ _ rfl (w.heap.size + 1) 0 #[.int .i64 (0), .int .i64 (0)] rfl rfl (World.there_setCells hth1 _ _ _) (by kernel_rfl) (one2 _ _) ?_))
            have hF := (HF15.out.put0 CL (by rw [HCL.out]; rfl)).put1 [.int .i64 (0), .int .i64 (0)] rfl
            have HV : Hid (tyV ((tyOf tx ⟨ok, on⟩ [p])) = .agg CL.toArray) := Lib.hid (by rw [HCL.out])
            exact bodyPost_ret (v := .tuple #[.agg CL.toArray, fV (0) (0)]) (results_two Try.results40 _ _ w.heap.size (w.heap.size + 1) 36 28 _ _ _ _ rfl rfl hF.b0 hF.b1 Try.underlying36 rfl hinf2 Try.underlying28 rfl (by kernel_rfl)) rfl ⟨hF.gb, by rw [HRE.out]; exact ⟨by rw [HV.out], hF.an⟩⟩
          · have hcs : ∀ v ∈ ([.int .i64 p.kind, .int .i64 p.n, .int .i64 q.kind, .int .i64 q.n] : List Value), v.oneCell' = true := by
              intro v hv
              simp only [List.mem_cons, List.not_mem_nil, or_false] at hv
              rcases hv with rfl | rfl | rfl | rfl <;> rfl
            have hsrc : ∀ (j : Nat) (v : Value), ([.int .i64 p.kind, .int .i64 p.n, .int .i64 q.kind, .int .i64 q.n] : List Value)[j]? = some v → W13.cell? ((⟨yg, 0, none⟩ : Addr).add j) = some v := fun j v hv => HSRC.out j v hv
            have hG13 : W13.heap[W8.heap.size]? = some (.cells (([.int .i64 2, .string tx, .int .i64 0, .int .i64 ok, .int .i64 on] : List Value) ++ (([.int .i64 0, .int .i64 0, .int .i64 0, .int .i64 0] : List Value) ++ ([.int .i64 0, .int .i64 0] : List Value))).toArray 36 (0, 0)) := HG13.out
            have hthc : W13.there W8.heap.size 5 4 := fun j hj => by
              have hh : 5 + j < 11 := by omega
              have := there_row (n := 11) HG13.out rfl (5 + j) hh
              rw [Nat.zero_add] at this
              exact this
            have hG14 := set_mid _ _ _ [.int .i64 p.kind, .int .i64 p.n, .int .i64 q.kind, .int .i64 q.n] hG13 rfl
            have hG14 : (W13.setCells W8.heap.size 5 [.int .i64 p.kind, .int .i64 p.n, .int .i64 q.kind, .int .i64 q.n]).heap[W8.heap.size]? = some (.cells (([.int .i64 2, .string tx, .int .i64 0, .int .i64 ok, .int .i64 on] : List Value) ++ (([.int .i64 p.kind, .int .i64 p.n, .int .i64 q.kind, .int .i64 q.n] : List Value) ++ ([.int .i64 0, .int .i64 0] : List Value))).toArray 36 (0, 0)) := hG14
            have hF14 := HF13.out.aside W8.heap.size (by omega) [.int .i64 p.kind, .int .i64 p.n, .int .i64 q.kind, .int .i64 q.n] 5
            obtain ⟨W14, hW14⟩ : ∃ W14, W14 = W13.setCells W8.heap.size 5 [.int .i64 p.kind, .int .i64 p.n, .int .i64 q.kind, .int .i64 q.n] := ⟨_, rfl⟩
            rw [← hW14] at hG14 hF14
            have HW14 := Lib.hid hW14
            have HG14 := Lib.hid hG14
            have HF14 := Lib.hid hF14
            have q2 : W14.cell? ⟨W8.heap.size, 2, none⟩ = some (.int .i64 0) := cell_at hG14 2 _ rfl
            have f2 := frozen_of hG14 2
            have hGl := HGL.out
            clear hG13 hG14 hF14 hW14
            go_upto_region 14 with (refine wpList_copy_wide rfl (.tmp 57) (.tmp 58) 39 39 rfl 33 Try.underlying39 2 (by kernel_rfl) W8.heap.size 5 3 3 ⟨yg, 0, none⟩ 2 ycap 2 rfl rfl [.int .i64 p.kind, .int .i64 p.n, .int .i64 q.kind, .int .i64 q.n] rfl rfl hsrc hthc hcs ?_; rw [← HW14.out])
            have hG15 := heap_setCell_same W14 W8.heap.size 2 _ 36 (.int .i64 (2 : Nat)) HG14.out
            have hG15 : (W14.setCell ⟨W8.heap.size, 2, none⟩ (.int .i64 (2 : Nat))).heap[W8.heap.size]? = some (.cells (Ty.cellL (tyOf tx ⟨ok, on⟩ [p, q])).toArray 36 (0, 0)) := hG15
            have hF15 := HF14.out.aside W8.heap.size (by omega) [.int .i64 (2 : Nat)] 2
            have hF15 : Fr R B l A c PA ps pc w 36 28 ty0.cellL [.int .i64 0, .int .i64 0] a2 (W14.setCell ⟨W8.heap.size, 2, none⟩ (.int .i64 (2 : Nat))) := hF15
            obtain ⟨W15, hW15⟩ : ∃ W15, W15 = W14.setCell ⟨W8.heap.size, 2, none⟩ (.int .i64 (2 : Nat)) := ⟨_, rfl⟩
            rw [← hW15] at hG15 hF15
            change Code.wp _ _ _ _ (W14.setCell ⟨W8.heap.size, 2, none⟩ (.int .i64 (2 : Nat)))
            rw [← hW15]
            have HF15 := Lib.hid hF15
            have hrg := range_row hG15
            clear q0 q1 q2 f2 hW15 hG15 hF15 hcs hsrc hthc
            obtain ⟨CL, hCL⟩ : ∃ CL, CL = Ty.cellL ((tyOf tx ⟨ok, on⟩ [p, q])) := ⟨_, rfl⟩
            have hcz : CL.toArray.size = 11 := by rw [hCL]; rfl
            have hinf : (Try.prog.info? 36).map (·.size) = some CL.length := by rw [hCL]; exact (by kernel_rfl : (Try.prog.info? 36).map (·.size) = some 11)
            have hinf2 : (Try.prog.info? 36).map (·.size) = some CL.toArray.size := by rw [hcz]; kernel_rfl
            have hone : CL.toArray.all (·.oneCell') = true := by rw [hCL]; exact one11 _
            have hth0 : World.there _ w.heap.size 0 CL.toArray.size := there_row HF15.out.b0 hcz
            rw [← hCL] at hrg
            have hth1 := there_row (n := 2) HF15.out.b1 rfl
            have hlt := heap_lt HF15.out.b1
            have HCL := Lib.hid hCL
            clear hCL hcz
            go_wp2_with (first | (refine wpList_load_mid rfl 36 _ rfl (W8.heap.size) 0 rfl CL _ hrg Try.underlying36 rfl hinf ?_) | (refine wpList_store_mid rfl 36 _ _ rfl w.heap.size 0 CL.toArray rfl rfl hth0 hinf2 hone ?_) | (refine wpList_store_mid rfl 28 _ _ rfl (w.heap.size + 1) 0 #[.int .i64 (0), .int .i64 (0)] rfl rfl (World.there_setCells hth1 _ _ _) (by kernel_rfl) (one2 _ _) ?_))
            have hF := (HF15.out.put0 CL (by rw [HCL.out]; rfl)).put1 [.int .i64 (0), .int .i64 (0)] rfl
            have HV : Hid (tyV ((tyOf tx ⟨ok, on⟩ [p, q])) = .agg CL.toArray) := Lib.hid (by rw [HCL.out])
            exact bodyPost_ret (v := .tuple #[.agg CL.toArray, fV (0) (0)]) (results_two Try.results40 _ _ w.heap.size (w.heap.size + 1) 36 28 _ _ _ _ rfl rfl hF.b0 hF.b1 Try.underlying36 rfl hinf2 Try.underlying28 rfl (by kernel_rfl)) rfl ⟨hF.gb, by rw [HRE.out]; exact ⟨by rw [HV.out], hF.an⟩⟩
          · have hcs : ∀ v ∈ ([.int .i64 p.kind, .int .i64 p.n, .int .i64 q.kind, .int .i64 q.n, .int .i64 r.kind, .int .i64 r.n] : List Value), v.oneCell' = true := by
              intro v hv
              simp only [List.mem_cons, List.not_mem_nil, or_false] at hv
              rcases hv with rfl | rfl | rfl | rfl | rfl | rfl <;> rfl
            have hsrc : ∀ (j : Nat) (v : Value), ([.int .i64 p.kind, .int .i64 p.n, .int .i64 q.kind, .int .i64 q.n, .int .i64 r.kind, .int .i64 r.n] : List Value)[j]? = some v → W13.cell? ((⟨yg, 0, none⟩ : Addr).add j) = some v := fun j v hv => HSRC.out j v hv
            have hG13 : W13.heap[W8.heap.size]? = some (.cells (([.int .i64 2, .string tx, .int .i64 0, .int .i64 ok, .int .i64 on] : List Value) ++ (([.int .i64 0, .int .i64 0, .int .i64 0, .int .i64 0, .int .i64 0, .int .i64 0] : List Value) ++ ([] : List Value))).toArray 36 (0, 0)) := HG13.out
            have hthc : W13.there W8.heap.size 5 6 := fun j hj => by
              have hh : 5 + j < 11 := by omega
              have := there_row (n := 11) HG13.out rfl (5 + j) hh
              rw [Nat.zero_add] at this
              exact this
            have hG14 := set_mid _ _ _ [.int .i64 p.kind, .int .i64 p.n, .int .i64 q.kind, .int .i64 q.n, .int .i64 r.kind, .int .i64 r.n] hG13 rfl
            have hG14 : (W13.setCells W8.heap.size 5 [.int .i64 p.kind, .int .i64 p.n, .int .i64 q.kind, .int .i64 q.n, .int .i64 r.kind, .int .i64 r.n]).heap[W8.heap.size]? = some (.cells (([.int .i64 2, .string tx, .int .i64 0, .int .i64 ok, .int .i64 on] : List Value) ++ (([.int .i64 p.kind, .int .i64 p.n, .int .i64 q.kind, .int .i64 q.n, .int .i64 r.kind, .int .i64 r.n] : List Value) ++ ([] : List Value))).toArray 36 (0, 0)) := hG14
            have hF14 := HF13.out.aside W8.heap.size (by omega) [.int .i64 p.kind, .int .i64 p.n, .int .i64 q.kind, .int .i64 q.n, .int .i64 r.kind, .int .i64 r.n] 5
            obtain ⟨W14, hW14⟩ : ∃ W14, W14 = W13.setCells W8.heap.size 5 [.int .i64 p.kind, .int .i64 p.n, .int .i64 q.kind, .int .i64 q.n, .int .i64 r.kind, .int .i64 r.n] := ⟨_, rfl⟩
            rw [← hW14] at hG14 hF14
            have HW14 := Lib.hid hW14
            have HG14 := Lib.hid hG14
            have HF14 := Lib.hid hF14
            have q2 : W14.cell? ⟨W8.heap.size, 2, none⟩ = some (.int .i64 0) := cell_at hG14 2 _ rfl
            have f2 := frozen_of hG14 2
            have hGl := HGL.out
            clear hG13 hG14 hF14 hW14
            go_upto_region 14 with (refine wpList_copy_wide rfl (.tmp 57) (.tmp 58) 39 39 rfl 33 Try.underlying39 2 (by kernel_rfl) W8.heap.size 5 3 3 ⟨yg, 0, none⟩ 3 ycap 3 rfl rfl [.int .i64 p.kind, .int .i64 p.n, .int .i64 q.kind, .int .i64 q.n, .int .i64 r.kind, .int .i64 r.n] rfl rfl hsrc hthc hcs ?_; rw [← HW14.out])
            have hG15 := heap_setCell_same W14 W8.heap.size 2 _ 36 (.int .i64 (3 : Nat)) HG14.out
            have hG15 : (W14.setCell ⟨W8.heap.size, 2, none⟩ (.int .i64 (3 : Nat))).heap[W8.heap.size]? = some (.cells (Ty.cellL (tyOf tx ⟨ok, on⟩ [p, q, r])).toArray 36 (0, 0)) := hG15
            have hF15 := HF14.out.aside W8.heap.size (by omega) [.int .i64 (3 : Nat)] 2
            have hF15 : Fr R B l A c PA ps pc w 36 28 ty0.cellL [.int .i64 0, .int .i64 0] a2 (W14.setCell ⟨W8.heap.size, 2, none⟩ (.int .i64 (3 : Nat))) := hF15
            obtain ⟨W15, hW15⟩ : ∃ W15, W15 = W14.setCell ⟨W8.heap.size, 2, none⟩ (.int .i64 (3 : Nat)) := ⟨_, rfl⟩
            rw [← hW15] at hG15 hF15
            change Code.wp _ _ _ _ (W14.setCell ⟨W8.heap.size, 2, none⟩ (.int .i64 (3 : Nat)))
            rw [← hW15]
            have HF15 := Lib.hid hF15
            have hrg := range_row hG15
            clear q0 q1 q2 f2 hW15 hG15 hF15 hcs hsrc hthc
            obtain ⟨CL, hCL⟩ : ∃ CL, CL = Ty.cellL ((tyOf tx ⟨ok, on⟩ [p, q, r])) := ⟨_, rfl⟩
            have hcz : CL.toArray.size = 11 := by rw [hCL]; rfl
            have hinf : (Try.prog.info? 36).map (·.size) = some CL.length := by rw [hCL]; exact (by kernel_rfl : (Try.prog.info? 36).map (·.size) = some 11)
            have hinf2 : (Try.prog.info? 36).map (·.size) = some CL.toArray.size := by rw [hcz]; kernel_rfl
            have hone : CL.toArray.all (·.oneCell') = true := by rw [hCL]; exact one11 _
            have hth0 : World.there _ w.heap.size 0 CL.toArray.size := there_row HF15.out.b0 hcz
            rw [← hCL] at hrg
            have hth1 := there_row (n := 2) HF15.out.b1 rfl
            have hlt := heap_lt HF15.out.b1
            have HCL := Lib.hid hCL
            clear hCL hcz
            go_wp2_with (first | (refine wpList_load_mid rfl 36 _ rfl (W8.heap.size) 0 rfl CL _ hrg Try.underlying36 rfl hinf ?_) | (refine wpList_store_mid rfl 36 _ _ rfl w.heap.size 0 CL.toArray rfl rfl hth0 hinf2 hone ?_) | (refine wpList_store_mid rfl 28 _ _ rfl (w.heap.size + 1) 0 #[.int .i64 (0), .int .i64 (0)] rfl rfl (World.there_setCells hth1 _ _ _) (by kernel_rfl) (one2 _ _) ?_))
            have hF := (HF15.out.put0 CL (by rw [HCL.out]; rfl)).put1 [.int .i64 (0), .int .i64 (0)] rfl
            have HV : Hid (tyV ((tyOf tx ⟨ok, on⟩ [p, q, r])) = .agg CL.toArray) := Lib.hid (by rw [HCL.out])
            exact bodyPost_ret (v := .tuple #[.agg CL.toArray, fV (0) (0)]) (results_two Try.results40 _ _ w.heap.size (w.heap.size + 1) 36 28 _ _ _ _ rfl rfl hF.b0 hF.b1 Try.underlying36 rfl hinf2 Try.underlying28 rfl (by kernel_rfl)) rfl ⟨hF.gb, by rw [HRE.out]; exact ⟨by rw [HV.out], hF.an⟩⟩
end Go.Proofs.Ytbcgooofelnkoaa
