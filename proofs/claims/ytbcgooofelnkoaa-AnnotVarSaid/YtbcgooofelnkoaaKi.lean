/- What is read as a type, by the program. Conditions: at most 1000 parameters, and at most 1000000 tokens. -/
import Derived.Test.YtbcgooofelnkoaaOd
namespace Go.Proofs.Ytbcgooofelnkoaa
open Go.RowKit
set_option linter.unusedVariables false

set_option maxRecDepth 100000 in
set_option maxHeartbeats 4000000 in
theorem kind_any (R B : Nat) (l : List Gt) (A : Option Addr) (c : Nat) (PA : Option Addr) (ps : List ByteArray) (pc : Nat) (a : Int) (f : Bool) (w : World) (h : An R B l A c PA ps pc a w) (hlp : ps.length ≤ 1000) (hpc : ps.length ≤ pc) (hbd : l.length ≤ 1000000) :
    Calls Try.prog 19 #[pR R, .bool f] w (RzP R B l A c PA ps pc tyZ tyV (kindP l ps a f) w) := by
  have hfr := Fr.new h 36 28 ty0.cellL [.int .i64 0, .int .i64 0]
  have hRw := hfr.hR
  obtain ⟨W0, hW0⟩ : ∃ W0, W0 = (w.alloc (.cells #[.int .i64 0, .string ⟨#[]⟩, .int .i64 0, .int .i64 0, .int .i64 0, .int .i64 0, .int .i64 0, .int .i64 0, .int .i64 0, .int .i64 0, .int .i64 0] 36)).alloc (.cells #[.int .i64 0, .int .i64 0] 28) := ⟨_, rfl⟩
  have hfr : Fr R B l A c PA ps pc w 36 28 ty0.cellL [.int .i64 0, .int .i64 0] a W0 := by rw [hW0]; exact hfr
  have HF := Lib.hid hfr
  have HSV := Lib.hid (skip_tok R B l A c #[.slice PA ps.length pc] 62 a ⟨#[118, 111, 105, 100]⟩ W0 hfr.an.cu)
  have HSI : Hid (∀ W, Cu R B l A c #[.slice PA ps.length pc] 62 a W → Calls Try.prog 39 #[pR R, .string ⟨#[105, 110, 116]⟩] W (CuP R B l A c #[.slice PA ps.length pc] 62 W (.bool ((tokI l a).is ⟨#[105, 110, 116]⟩)) (if (tokI l a).is ⟨#[105, 110, 116]⟩ = true then a + 1 else a))) := Lib.hid (fun W hW => skip_tok R B l A c _ _ a _ W hW)
  have HOB : Hid (∀ W, An R B l A c PA ps pc a W → Calls Try.prog 40 #[pR R, .bool f] W (RzP R B l A c PA ps pc tyZ tyV (objectP l ps a f) W)) := Lib.hid (fun W hW => object_any R B l A c PA ps pc a f W hW hlp hpc hbd)
  obtain ⟨rr, hrr⟩ : ∃ rr, rr = objectP l ps a f := ⟨_, rfl⟩
  obtain ⟨res, hres⟩ : ∃ res, res = kindP l ps a f := ⟨_, rfl⟩
  have hRES : res = if (tokI l a).is ⟨#[118, 111, 105, 100]⟩ = true then .ok ty0 (a + 1) else if (tokI l a).is ⟨#[105, 110, 116]⟩ = true then .ok tyInt (a + 1) else rr := by rw [hres, hrr]; rfl
  rw [← hrr] at HOB
  rw [← hres]
  obtain ⟨b, hb⟩ : ∃ b, b = (tokI l a).is ⟨#[118, 111, 105, 100]⟩ := ⟨_, rfl⟩
  obtain ⟨d, hd⟩ : ∃ d, d = (tokI l a).is ⟨#[105, 110, 116]⟩ := ⟨_, rfl⟩
  rw [← hb] at HSV hRES
  rw [← hd] at HSI hRES
  have HRES := Lib.hid hRES
  clear hb hd hrr hres hRES h hfr
  cases b with
  | true =>
    have HSV : Hid (Calls Try.prog 39 #[pR R, .string ⟨#[118, 111, 105, 100]⟩] W0 (CuP R B l A c #[.slice PA ps.length pc] 62 W0 (.bool true) (a + 1))) := HSV
    have HRE : Hid (res = .ok ty0 (a + 1)) := HRES
    go_enter Try.func19, Try.ntmps19
    go_upto_region 1 with fail
    rw [← hW0]
    clear hW0
    go_wp2_with fail
    refine HSV.out.mono ?_
    rintro x w3 ⟨rfl, hc3, hg3⟩
    have HF3 := Lib.hid (HF.out.turn (HF.out.an.turn hc3 hg3) hg3)
    clear hc3 hg3
    obtain ⟨CL, hCL⟩ : ∃ CL, CL = Ty.cellL (ty0) := ⟨_, rfl⟩
    have hcz : CL.toArray.size = 11 := by rw [hCL]; first | done | rfl
    have hinf2 : (Try.prog.info? 36).map (·.size) = some CL.toArray.size := by rw [hcz]; kernel_rfl
    have hone : CL.toArray.all (·.oneCell') = true := by rw [hCL]; exact one11 _
    have hth0 : World.there _ w.heap.size 0 CL.toArray.size := there_row HF3.out.b0 hcz
    have hth1 := there_row (n := 2) HF3.out.b1 rfl
    have hlt := heap_lt HF3.out.b1
    have HCL := Lib.hid hCL
    have HEV : Hid (tyV (ty0) = .agg CL.toArray) := Lib.hid (by rw [HCL.out])
    clear hCL hcz
    go_wp2_with (first | (refine wpList_store_mid rfl 36 _ _ rfl w.heap.size 0 CL.toArray rfl HEV.out hth0 hinf2 hone ?_) | (refine wpList_store_mid rfl 28 _ _ rfl (w.heap.size + 1) 0 #[.int .i64 (0), .int .i64 (0)] rfl rfl (World.there_setCells hth1 _ _ _) (by kernel_rfl) (one2 _ _) ?_))
    have hF := (HF3.out.put0 CL (by rw [HCL.out]; first | done | rfl)).put1 [.int .i64 (0), .int .i64 (0)] rfl
    exact bodyPost_ret (v := .tuple #[.agg CL.toArray, fV (0) (0)]) (results_two Try.results19 _ _ w.heap.size (w.heap.size + 1) 36 28 _ _ _ _ rfl rfl hF.b0 hF.b1 Try.underlying36 rfl hinf2 Try.underlying28 rfl (by kernel_rfl)) rfl ⟨hF.gb, by rw [HRE.out]; exact ⟨by rw [HEV.out], hF.an⟩⟩
  | false =>
    have HSV : Hid (Calls Try.prog 39 #[pR R, .string ⟨#[118, 111, 105, 100]⟩] W0 (CuP R B l A c #[.slice PA ps.length pc] 62 W0 (.bool false) a)) := HSV
    have HRE : Hid (res = if d = true then .ok tyInt (a + 1) else rr) := HRES
    go_enter Try.func19, Try.ntmps19
    go_upto_region 1 with fail
    rw [← hW0]
    clear hW0
    go_wp2_with fail
    refine HSV.out.mono ?_
    rintro x w3 ⟨rfl, hc3, hg3⟩
    have HF3 := Lib.hid (HF.out.turn (HF.out.an.turn hc3 hg3) hg3)
    clear hc3 hg3
    go_wp2_with fail
    refine (HSI.out _ HF3.out.an.cu).mono ?_
    rintro x w4 ⟨rfl, hc4, hg4⟩
    cases d with
    | true =>
      have HRE2 : Hid (res = .ok tyInt (a + 1)) := HRE
      have hc4 : Cu R B l A c #[.slice PA ps.length pc] 62 (a + 1) w4 := hc4
      have HF4 := Lib.hid (HF3.out.turn (HF3.out.an.turn hc4 hg4) hg4)
      clear hc4 hg4
      obtain ⟨CL, hCL⟩ : ∃ CL, CL = Ty.cellL (tyInt) := ⟨_, rfl⟩
      have hcz : CL.toArray.size = 11 := by rw [hCL]; first | done | rfl
      have hinf2 : (Try.prog.info? 36).map (·.size) = some CL.toArray.size := by rw [hcz]; kernel_rfl
      have hone : CL.toArray.all (·.oneCell') = true := by rw [hCL]; exact one11 _
      have hth0 : World.there _ w.heap.size 0 CL.toArray.size := there_row HF4.out.b0 hcz
      have hth1 := there_row (n := 2) HF4.out.b1 rfl
      have hlt := heap_lt HF4.out.b1
      have HCL := Lib.hid hCL
      have HEV : Hid (tyV (tyInt) = .agg CL.toArray) := Lib.hid (by rw [HCL.out])
      clear hCL hcz
      go_wp2_with (first | (refine wpList_store_mid rfl 36 _ _ rfl w.heap.size 0 CL.toArray rfl HEV.out hth0 hinf2 hone ?_) | (refine wpList_store_mid rfl 28 _ _ rfl (w.heap.size + 1) 0 #[.int .i64 (0), .int .i64 (0)] rfl rfl (World.there_setCells hth1 _ _ _) (by kernel_rfl) (one2 _ _) ?_))
      have hF := (HF4.out.put0 CL (by rw [HCL.out]; first | done | rfl)).put1 [.int .i64 (0), .int .i64 (0)] rfl
      exact bodyPost_ret (v := .tuple #[.agg CL.toArray, fV (0) (0)]) (results_two Try.results19 _ _ w.heap.size (w.heap.size + 1) 36 28 _ _ _ _ rfl rfl hF.b0 hF.b1 Try.underlying36 rfl hinf2 Try.underlying28 rfl (by kernel_rfl)) rfl ⟨hF.gb, by rw [HRE2.out]; exact ⟨by rw [HEV.out], hF.an⟩⟩
    | false =>
      have HRE2 : Hid (res = rr) := HRE
      have hc4 : Cu R B l A c #[.slice PA ps.length pc] 62 a w4 := hc4
      have HF4 := Lib.hid (HF3.out.turn (HF3.out.an.turn hc4 hg4) hg4)
      clear hc4 hg4
      go_wp2_with fail
      refine (HOB.out _ HF4.out.an).mono ?_
      rintro x w5 hpost
      cases rr with
      | err e p =>
        obtain ⟨rfl, he, a5, ha5, hg5⟩ := rzP_err hpost rfl
        have HHE := Lib.hid he
        have HF5 := Lib.hid (HF4.out.turn ha5 hg5)
        clear hpost he ha5 hg5
        obtain ⟨CL, hCL⟩ : ∃ CL, CL = Ty.cellL (ty0) := ⟨_, rfl⟩
        have hcz : CL.toArray.size = 11 := by rw [hCL]; first | done | rfl
        have hinf2 : (Try.prog.info? 36).map (·.size) = some CL.toArray.size := by rw [hcz]; kernel_rfl
        have hone : CL.toArray.all (·.oneCell') = true := by rw [hCL]; exact one11 _
        have hth0 : World.there _ w.heap.size 0 CL.toArray.size := there_row HF5.out.b0 hcz
        have hth1 := there_row (n := 2) HF5.out.b1 rfl
        have hlt := heap_lt HF5.out.b1
        have HCL := Lib.hid hCL
        have HEV : Hid (tyV (ty0) = .agg CL.toArray) := Lib.hid (by rw [HCL.out])
        clear hCL hcz
        go_wp2_with (first | (refine wpList_store_mid rfl 36 _ _ rfl w.heap.size 0 CL.toArray rfl HEV.out hth0 hinf2 hone ?_) | (refine wpList_store_mid rfl 28 _ _ rfl (w.heap.size + 1) 0 #[.int .i64 (e), .int .i64 (p)] rfl rfl (World.there_setCells hth1 _ _ _) (by kernel_rfl) (one2 _ _) ?_))
        have hF := (HF5.out.put0 CL (by rw [HCL.out]; first | done | rfl)).put1 [.int .i64 (e), .int .i64 (p)] rfl
        exact bodyPost_ret (v := .tuple #[.agg CL.toArray, fV (e) (p)]) (results_two Try.results19 _ _ w.heap.size (w.heap.size + 1) 36 28 _ _ _ _ rfl rfl hF.b0 hF.b1 Try.underlying36 rfl hinf2 Try.underlying28 rfl (by kernel_rfl)) rfl ⟨hF.gb, by rw [HRE2.out]; exact ⟨by rw [← HEV.out], HHE.out, _, hF.an⟩⟩
      | ok t a2 =>
        obtain ⟨rfl, ha5, hg5⟩ := rzP_ok hpost rfl
        have HF5 := Lib.hid (HF4.out.turn ha5 hg5)
        clear hpost ha5 hg5
        obtain ⟨CL, hCL⟩ : ∃ CL, CL = Ty.cellL (t) := ⟨_, rfl⟩
        have hcz : CL.toArray.size = 11 := by rw [hCL]; first | done | rfl
        have hinf2 : (Try.prog.info? 36).map (·.size) = some CL.toArray.size := by rw [hcz]; kernel_rfl
        have hone : CL.toArray.all (·.oneCell') = true := by rw [hCL]; exact one11 _
        have hth0 : World.there _ w.heap.size 0 CL.toArray.size := there_row HF5.out.b0 hcz
        have hth1 := there_row (n := 2) HF5.out.b1 rfl
        have hlt := heap_lt HF5.out.b1
        have HCL := Lib.hid hCL
        have HEV : Hid (tyV (t) = .agg CL.toArray) := Lib.hid (by rw [HCL.out])
        clear hCL hcz
        go_wp2_with (first | (refine wpList_store_mid rfl 36 _ _ rfl w.heap.size 0 CL.toArray rfl HEV.out hth0 hinf2 hone ?_) | (refine wpList_store_mid rfl 28 _ _ rfl (w.heap.size + 1) 0 #[.int .i64 (0), .int .i64 (0)] rfl rfl (World.there_setCells hth1 _ _ _) (by kernel_rfl) (one2 _ _) ?_))
        have hF := (HF5.out.put0 CL (by rw [HCL.out]; first | done | rfl)).put1 [.int .i64 (0), .int .i64 (0)] rfl
        exact bodyPost_ret (v := .tuple #[.agg CL.toArray, fV (0) (0)]) (results_two Try.results19 _ _ w.heap.size (w.heap.size + 1) 36 28 _ _ _ _ rfl rfl hF.b0 hF.b1 Try.underlying36 rfl hinf2 Try.underlying28 rfl (by kernel_rfl)) rfl ⟨hF.gb, by rw [HRE2.out]; exact ⟨by rw [HEV.out], hF.an⟩⟩
end Go.Proofs.Ytbcgooofelnkoaa
