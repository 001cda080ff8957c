/- alive: the examples of the chapter. -/
import Derived.WalkKit
import Derived.ProofKit
import Derived.OpenShut
import Derived.Handy
import Derived.Lib.Hide
import Derived.Test.YtkglopdogakfoaaGreatDoorGj
import Derived.Test.YtkglopdogakfoaaGreatDoorSam
namespace Go.Proofs.YtkglopdogakfoaaGreatDoor
open Go.RowKit Go.Maps

theorem lvar_mk (nm : ByteArray) (w : World) : Calls Tryz.prog 68 #[.string nm] w fun e w' => e = .returned (.agg #[.string nm, .bool true, .slice none 0 0]) ∧ Below w.heap.size w w' := by
  go_enter Tryz.func68, Tryz.ntmps68
  go_wp2_with fail
  exact bodyPost_ret (v := .agg #[.string nm, .bool true, .slice none 0 0]) (by simp [results, Tryz.f68, go_sem]) rfl ⟨rfl, by go_grown⟩
theorem lsym_mk (nm : ByteArray) (o : Option Addr) (n c : Nat) (w : World) : Calls Tryz.prog 67 #[.string nm, .slice o n c] w fun e w' => e = .returned (.agg #[.string nm, .bool false, .slice o n c]) ∧ Below w.heap.size w w' := by
  go_enter Tryz.func67, Tryz.ntmps67
  go_wp2_with fail
  exact bodyPost_ret (v := .agg #[.string nm, .bool false, .slice o n c]) (by simp [results, Tryz.f67, go_sem]) rfl ⟨rfl, by go_grown⟩
theorem ownsRow_block {W : World} {g n k : Nat} {e : TypeId} {c : List Value} (h : W.heap[g]? = some (.cells c.toArray e (0, 0))) (hl : c.length = n * k) (hm : n ≤ maxLen) : W.ownsRow 0 e k (.slice (some ⟨g, 0, none⟩) n n) n c :=
  ⟨by simp [hl], .inr ⟨g, n, c.toArray, rfl, Nat.zero_le _, h, Nat.le_refl _, hm, by simp [hl], by simp [← hl]⟩⟩
theorem rowIs {W : World} {g : Nat} (ch : List (Tm × Value)) (h : W.heap[g]? = some (.cells (stCells ch).toArray 25 (0, 0))) (hm : ch.length ≤ 8) (hk : ∀ c ∈ ch, SlIs W.heap.size W c.1.ts c.2) : SlIs W.heap.size W (ch.map (·.1)) (.slice (some ⟨g, 0, none⟩) ch.length ch.length) := by
  have hl : (stCells ch).length = ch.length * 3 := by
    clear h hm hk
    induction ch with
    | nil => rfl
    | cons p ch ih => rw [show stCells (p :: ch) = [.string p.1.nm, .bool p.1.vr, p.2] ++ stCells ch from rfl, List.length_append, ih]; simp; omega
  have h1 := SlP.ofRow (p := fun _ => True) (ownsRow_block h hl (by unfold maxLen; omega)) (fun _ _ => trivial) (fun c hc => (hk c hc).toP.carry fun b _ => ⟨rfl, trivial⟩)
  exact h1.lt.toIs fun b hb => hb.2
theorem bindIs {W : World} {g : Nat} (es : List Elem) (h : W.heap[g]? = some (.cells (ecells es).toArray 61 (0, 0))) (hm : es.length ≤ 8) (hk : ∀ x ∈ es, SlIs W.heap.size W x.1.2.ts (Elem.sl x)) : BindsIs W.heap.size W (es.map (·.1)) (.slice (some ⟨g, 0, none⟩) es.length es.length) :=
  BindsIs.ofE (ownsRow_block h (by rw [ecells_length]) (by unfold maxLen; omega)) (Nat.le_refl _) hk

set_option maxRecDepth 100000 in
set_option maxHeartbeats 8000000 in
theorem alive_any (w : World) : Calls Tryz.prog 29 #[] w fun e w' => e = .returned (.bool true) ∧ Below w.heap.size w w' := by
  have HV := Lib.hid lvar_mk
  have HY := Lib.hid lsym_mk
  go_enter Tryz.func29, Tryz.ntmps29
  go_wp2_with fail
  refine (HV.out ⟨#[120]⟩ _).mono ?_
  rintro e w1 ⟨rfl, hb⟩
  have hs : Below w.heap.size w w1 := hb
  have HB1 : Hid (Below w.heap.size w w1) := Lib.hid ((Below.refl w.heap.size w).trans (hs.mono (Below.refl w.heap.size w).size))
  clear hb hs
  go_wp2_with fail
  refine (HV.out ⟨#[121]⟩ _).mono ?_
  rintro e w2 ⟨rfl, hb⟩
  have hs : Below w1.heap.size w1 w2 := hb
  have HB2 : Hid (Below w.heap.size w w2) := Lib.hid (HB1.out.trans (hs.mono HB1.out.size))
  clear hb hs
  go_wp2_with fail
  refine (HY.out ⟨#[103]⟩ (some ⟨w2.heap.size, 0, none⟩) 1 1 _).mono ?_
  rintro e w3 ⟨rfl, hb⟩
  have hn := (hb.block w2.heap.size (by simp)).trans (heap_new_at w2 (.cells #[.string ⟨#[121]⟩, .bool true, .slice none 0 0] 25) _ rfl)
  have hs : Below w2.heap.size w2 w3 := (show Below w2.heap.size w2 (w2.alloc (.cells #[.string ⟨#[121]⟩, .bool true, .slice none 0 0] 25)) from by go_grown).trans (hb.mono (by simp))
  have HYR : Hid (SlIs w3.heap.size w3 [tV nY] (.slice (some ⟨w2.heap.size, 0, none⟩) 1 1)) := Lib.hid (rowIs [(tV nY, .slice none 0 0)] hn (by simp) (by simp only [List.mem_cons, List.not_mem_nil, or_false]; rintro c rfl; exact .nil0))
  have HB3 : Hid (Below w.heap.size w w3) := Lib.hid (HB2.out.trans (hs.mono HB2.out.size))
  clear hb hs hn
  go_wp2_with fail
  refine (HY.out ⟨#[102]⟩ (some ⟨w3.heap.size, 0, none⟩) 2 2 _).mono ?_
  rintro e w4 ⟨rfl, hb⟩
  have hn := (hb.block w3.heap.size (by simp)).trans (heap_new_at w3 (.cells #[.string ⟨#[120]⟩, .bool true, .slice none 0 0, .string ⟨#[103]⟩, .bool false, .slice (some ⟨w2.heap.size, 0, none⟩) 1 1] 25) _ rfl)
  have hs : Below w3.heap.size w3 w4 := (show Below w3.heap.size w3 (w3.alloc (.cells #[.string ⟨#[120]⟩, .bool true, .slice none 0 0, .string ⟨#[103]⟩, .bool false, .slice (some ⟨w2.heap.size, 0, none⟩) 1 1] 25)) from by go_grown).trans (hb.mono (by simp))
  have HYR := Lib.hid (HYR.out.carry hs hs.size)
  have HAR : Hid (SlIs w4.heap.size w4 [tV nX, tG (tV nY)] (.slice (some ⟨w3.heap.size, 0, none⟩) 2 2)) := Lib.hid (rowIs [(tV nX, .slice none 0 0), (tG (tV nY), .slice (some ⟨w2.heap.size, 0, none⟩) 1 1)] hn (by simp) (by simp only [List.mem_cons, List.not_mem_nil, or_false]; rintro c (rfl | rfl); exact .nil0; exact HYR.out))
  have HB4 : Hid (Below w.heap.size w w4) := Lib.hid (HB3.out.trans (hs.mono HB3.out.size))
  clear hb hs hn
  go_wp2_with fail
  refine (HV.out ⟨#[122]⟩ _).mono ?_
  rintro e w5 ⟨rfl, hb⟩
  have hs : Below w4.heap.size w4 w5 := hb
  have HYR := Lib.hid (HYR.out.carry hs hs.size)
  have HAR := Lib.hid (HAR.out.carry hs hs.size)
  have HB5 : Hid (Below w.heap.size w w5) := Lib.hid (HB4.out.trans (hs.mono HB4.out.size))
  clear hb hs
  go_wp2_with fail
  refine (HY.out ⟨#[103]⟩ (some ⟨w5.heap.size, 0, none⟩) 1 1 _).mono ?_
  rintro e w6 ⟨rfl, hb⟩
  have hn := (hb.block w5.heap.size (by simp)).trans (heap_new_at w5 (.cells #[.string ⟨#[122]⟩, .bool true, .slice none 0 0] 25) _ rfl)
  have hs : Below w5.heap.size w5 w6 := (show Below w5.heap.size w5 (w5.alloc (.cells #[.string ⟨#[122]⟩, .bool true, .slice none 0 0] 25)) from by go_grown).trans (hb.mono (by simp))
  have HYR := Lib.hid (HYR.out.carry hs hs.size)
  have HAR := Lib.hid (HAR.out.carry hs hs.size)
  have HZR : Hid (SlIs w6.heap.size w6 [tV nZ] (.slice (some ⟨w5.heap.size, 0, none⟩) 1 1)) := Lib.hid (rowIs [(tV nZ, .slice none 0 0)] hn (by simp) (by simp only [List.mem_cons, List.not_mem_nil, or_false]; rintro c rfl; exact .nil0))
  have HB6 : Hid (Below w.heap.size w w6) := Lib.hid (HB5.out.trans (hs.mono HB5.out.size))
  clear hb hs hn
  go_wp2_with fail
  refine (HV.out ⟨#[120]⟩ _).mono ?_
  rintro e w7 ⟨rfl, hb⟩
  have hs : Below w6.heap.size w6 w7 := hb
  have HYR := Lib.hid (HYR.out.carry hs hs.size)
  have HAR := Lib.hid (HAR.out.carry hs hs.size)
  have HZR := Lib.hid (HZR.out.carry hs hs.size)
  have HB7 : Hid (Below w.heap.size w w7) := Lib.hid (HB6.out.trans (hs.mono HB6.out.size))
  clear hb hs
  go_wp2_with fail
  refine (HY.out ⟨#[102]⟩ (some ⟨w7.heap.size, 0, none⟩) 2 2 _).mono ?_
  rintro e w8 ⟨rfl, hb⟩
  have hn := (hb.block w7.heap.size (by simp)).trans (heap_new_at w7 (.cells #[.string ⟨#[103]⟩, .bool false, .slice (some ⟨w5.heap.size, 0, none⟩) 1 1, .string ⟨#[120]⟩, .bool true, .slice none 0 0] 25) _ rfl)
  have hs : Below w7.heap.size w7 w8 := (show Below w7.heap.size w7 (w7.alloc (.cells #[.string ⟨#[103]⟩, .bool false, .slice (some ⟨w5.heap.size, 0, none⟩) 1 1, .string ⟨#[120]⟩, .bool true, .slice none 0 0] 25)) from by go_grown).trans (hb.mono (by simp))
  have HYR := Lib.hid (HYR.out.carry hs hs.size)
  have HAR := Lib.hid (HAR.out.carry hs hs.size)
  have HZR := Lib.hid (HZR.out.carry hs hs.size)
  have HBR : Hid (SlIs w8.heap.size w8 [tG (tV nZ), tV nX] (.slice (some ⟨w7.heap.size, 0, none⟩) 2 2)) := Lib.hid (rowIs [(tG (tV nZ), .slice (some ⟨w5.heap.size, 0, none⟩) 1 1), (tV nX, .slice none 0 0)] hn (by simp) (by simp only [List.mem_cons, List.not_mem_nil, or_false]; rintro c (rfl | rfl); exact HZR.out; exact .nil0))
  have HB8 : Hid (Below w.heap.size w w8) := Lib.hid (HB7.out.trans (hs.mono HB7.out.size))
  clear hb hs hn
  go_wp2_with fail
  refine (uunify_any (Lib.hid itoa_small) exA exB exA_ok exB_ok 4 true false exS exRk exSol (by decide) (by decide) (by decide) (CycIs.no (Lib.hid itoa_small) exAcy (by decide) (by decide)) (.slice (some ⟨w3.heap.size, 0, none⟩) 2 2) (.slice (some ⟨w7.heap.size, 0, none⟩) 2 2) _ trivial HAR.out HBR.out (by decide) (by decide)).mono ?_
  rintro e w9 ⟨hp, hb⟩
  have hs : Below w8.heap.size w8 w9 := hb
  have HYR := Lib.hid (HYR.out.carry hs hs.size)
  have HAR := Lib.hid (HAR.out.carry hs hs.size)
  have HZR := Lib.hid (HZR.out.carry hs hs.size)
  have HBR := Lib.hid (HBR.out.carry hs hs.size)
  have HB9 : Hid (Below w.heap.size w w9) := Lib.hid (HB8.out.trans (hs.mono HB8.out.size))
  clear hb hs
  rcases hp with ⟨h1, -⟩ | ⟨-, -, h3, -⟩ | ⟨-, -, -, vu, L, rfl, hbu, hc⟩
  · exact absurd ⟨rfl, rfl⟩ h1
  · rw [exFit] at h3; cases h3
  obtain rfl := exChg hc
  rw [exSub] at hbu
  have hbu2 := hbu
  obtain ⟨ou, cu, rfl, -, -⟩ := hbu2
  have HU := Lib.hid hbu
  clear hbu hc
  go_wp2_with fail
  refine (HV.out ⟨#[122]⟩ _).mono ?_
  rintro e w10 ⟨rfl, hb⟩
  have hs : Below w9.heap.size w9 w10 := hb
  have HU := Lib.hid (HU.out.carry hs hs.size)
  have HB10 : Hid (Below w.heap.size w w10) := Lib.hid (HB9.out.trans (hs.mono HB9.out.size))
  clear hb hs
  go_wp2_with fail
  refine (HY.out ⟨#[103]⟩ (some ⟨w10.heap.size, 0, none⟩) 1 1 _).mono ?_
  rintro e w11 ⟨rfl, hb⟩
  have hn := (hb.block w10.heap.size (by simp)).trans (heap_new_at w10 (.cells #[.string ⟨#[122]⟩, .bool true, .slice none 0 0] 25) _ rfl)
  have hs : Below w10.heap.size w10 w11 := (show Below w10.heap.size w10 (w10.alloc (.cells #[.string ⟨#[122]⟩, .bool true, .slice none 0 0] 25)) from by go_grown).trans (hb.mono (by simp))
  have HU := Lib.hid (HU.out.carry hs hs.size)
  have HZ2 : Hid (SlIs w11.heap.size w11 [tV nZ] (.slice (some ⟨w10.heap.size, 0, none⟩) 1 1)) := Lib.hid (rowIs [(tV nZ, .slice none 0 0)] hn (by simp) (by simp only [List.mem_cons, List.not_mem_nil, or_false]; rintro c rfl; exact .nil0))
  have HB11 : Hid (Below w.heap.size w w11) := Lib.hid (HB10.out.trans (hs.mono HB10.out.size))
  clear hb hs hn
  go_wp2_with fail
  refine (HV.out ⟨#[122]⟩ _).mono ?_
  rintro e w12 ⟨rfl, hb⟩
  have hs : Below w11.heap.size w11 w12 := hb
  have HU := Lib.hid (HU.out.carry hs hs.size)
  have HZ2 := Lib.hid (HZ2.out.carry hs hs.size)
  have HB12 : Hid (Below w.heap.size w w12) := Lib.hid (HB11.out.trans (hs.mono HB11.out.size))
  clear hb hs
  go_wp2_with fail
  refine (HV.out ⟨#[120]⟩ _).mono ?_
  rintro e w13 ⟨rfl, hb⟩
  have hn := (hb.block w12.heap.size (by simp)).trans (heap_new_at w12 (.cells #[.string ⟨#[120]⟩, .string ⟨#[103]⟩, .bool false, .slice (some ⟨w10.heap.size, 0, none⟩) 1 1, .string ⟨#[121]⟩, .string ⟨#[122]⟩, .bool true, .slice none 0 0] 61) _ rfl)
  have hs : Below w12.heap.size w12 w13 := (show Below w12.heap.size w12 (w12.alloc (.cells #[.string ⟨#[120]⟩, .string ⟨#[103]⟩, .bool false, .slice (some ⟨w10.heap.size, 0, none⟩) 1 1, .string ⟨#[121]⟩, .string ⟨#[122]⟩, .bool true, .slice none 0 0] 61)) from by go_grown).trans (hb.mono (by simp))
  have HU := Lib.hid (HU.out.carry hs hs.size)
  have HZ2 := Lib.hid (HZ2.out.carry hs hs.size)
  have HWT : Hid (BindsIs w13.heap.size w13 [(nX, tG (tV nZ)), (nY, tV nZ)] (.slice (some ⟨w12.heap.size, 0, none⟩) 2 2)) := Lib.hid (bindIs [((nX, tG (tV nZ)), (some ⟨w10.heap.size, 0, none⟩, 1, 1)), ((nY, tV nZ), (none, 0, 0))] hn (by simp) (by simp only [List.mem_cons, List.not_mem_nil, or_false]; rintro c (rfl | rfl); exact HZ2.out; exact .nil0))
  have HB13 : Hid (Below w.heap.size w w13) := Lib.hid (HB12.out.trans (hs.mono HB12.out.size))
  clear hb hs hn
  go_wp2_with fail
  refine (HV.out ⟨#[120]⟩ _).mono ?_
  rintro e w14 ⟨rfl, hb⟩
  have hs : Below w13.heap.size w13 w14 := hb
  have HU := Lib.hid (HU.out.carry hs hs.size)
  have HZ2 := Lib.hid (HZ2.out.carry hs hs.size)
  have HWT := Lib.hid (HWT.out.carry hs hs.size)
  have HB14 : Hid (Below w.heap.size w w14) := Lib.hid (HB13.out.trans (hs.mono HB13.out.size))
  clear hb hs
  go_wp2_with fail
  refine (HY.out ⟨#[102]⟩ (some ⟨w14.heap.size, 0, none⟩) 2 2 _).mono ?_
  rintro e w15 ⟨rfl, hb⟩
  have hn := (hb.block w14.heap.size (by simp)).trans (heap_new_at w14 (.cells #[.string ⟨#[120]⟩, .bool true, .slice none 0 0, .string ⟨#[120]⟩, .bool true, .slice none 0 0] 25) _ rfl)
  have hs : Below w14.heap.size w14 w15 := (show Below w14.heap.size w14 (w14.alloc (.cells #[.string ⟨#[120]⟩, .bool true, .slice none 0 0, .string ⟨#[120]⟩, .bool true, .slice none 0 0] 25)) from by go_grown).trans (hb.mono (by simp))
  have HU := Lib.hid (HU.out.carry hs hs.size)
  have HZ2 := Lib.hid (HZ2.out.carry hs hs.size)
  have HWT := Lib.hid (HWT.out.carry hs hs.size)
  have HPR : Hid (SlIs w15.heap.size w15 [tV nX, tV nX] (.slice (some ⟨w14.heap.size, 0, none⟩) 2 2)) := Lib.hid (rowIs [(tV nX, .slice none 0 0), (tV nX, .slice none 0 0)] hn (by simp) (by simp only [List.mem_cons, List.not_mem_nil, or_false]; rintro c (rfl | rfl); exact .nil0; exact .nil0))
  have HB15 : Hid (Below w.heap.size w w15) := Lib.hid (HB14.out.trans (hs.mono HB14.out.size))
  clear hb hs hn
  go_wp2_with fail
  refine (HY.out ⟨#[97]⟩ none 0 0 _).mono ?_
  rintro e w16 ⟨rfl, hb⟩
  have hs : Below w15.heap.size w15 w16 := hb
  have HU := Lib.hid (HU.out.carry hs hs.size)
  have HZ2 := Lib.hid (HZ2.out.carry hs hs.size)
  have HWT := Lib.hid (HWT.out.carry hs hs.size)
  have HPR := Lib.hid (HPR.out.carry hs hs.size)
  have HB16 : Hid (Below w.heap.size w w16) := Lib.hid (HB15.out.trans (hs.mono HB15.out.size))
  clear hb hs
  go_wp2_with fail
  refine (HY.out ⟨#[98]⟩ none 0 0 _).mono ?_
  rintro e w17 ⟨rfl, hb⟩
  have hs : Below w16.heap.size w16 w17 := hb
  have HU := Lib.hid (HU.out.carry hs hs.size)
  have HZ2 := Lib.hid (HZ2.out.carry hs hs.size)
  have HWT := Lib.hid (HWT.out.carry hs hs.size)
  have HPR := Lib.hid (HPR.out.carry hs hs.size)
  have HB17 : Hid (Below w.heap.size w w17) := Lib.hid (HB16.out.trans (hs.mono HB16.out.size))
  clear hb hs
  go_wp2_with fail
  refine (HY.out ⟨#[102]⟩ (some ⟨w17.heap.size, 0, none⟩) 2 2 _).mono ?_
  rintro e w18 ⟨rfl, hb⟩
  have hn := (hb.block w17.heap.size (by simp)).trans (heap_new_at w17 (.cells #[.string ⟨#[97]⟩, .bool false, .slice none 0 0, .string ⟨#[98]⟩, .bool false, .slice none 0 0] 25) _ rfl)
  have hs : Below w17.heap.size w17 w18 := (show Below w17.heap.size w17 (w17.alloc (.cells #[.string ⟨#[97]⟩, .bool false, .slice none 0 0, .string ⟨#[98]⟩, .bool false, .slice none 0 0] 25)) from by go_grown).trans (hb.mono (by simp))
  have HU := Lib.hid (HU.out.carry hs hs.size)
  have HZ2 := Lib.hid (HZ2.out.carry hs hs.size)
  have HWT := Lib.hid (HWT.out.carry hs hs.size)
  have HPR := Lib.hid (HPR.out.carry hs hs.size)
  have HQR : Hid (SlIs w18.heap.size w18 [(.mk ⟨#[97]⟩ false [] : Tm), .mk ⟨#[98]⟩ false []] (.slice (some ⟨w17.heap.size, 0, none⟩) 2 2)) := Lib.hid (rowIs [((.mk ⟨#[97]⟩ false [] : Tm), .slice none 0 0), ((.mk ⟨#[98]⟩ false [] : Tm), .slice none 0 0)] hn (by simp) (by simp only [List.mem_cons, List.not_mem_nil, or_false]; rintro c (rfl | rfl); exact .nil0; exact .nil0))
  have HB18 : Hid (Below w.heap.size w w18) := Lib.hid (HB17.out.trans (hs.mono HB17.out.size))
  clear hb hs hn
  go_wp2_with fail
  refine (umatch_any exP exQ (.slice (some ⟨w14.heap.size, 0, none⟩) 2 2) (.slice (some ⟨w17.heap.size, 0, none⟩) 2 2) _ HPR.out HQR.out (by decide) (by decide)).mono ?_
  rintro e w19 ⟨⟨c, b, vm, rfl, hm1, hm2, -⟩, hb⟩
  have hs : Below w18.heap.size w18 w19 := hb
  have HU := Lib.hid (HU.out.carry hs hs.size)
  have HZ2 := Lib.hid (HZ2.out.carry hs hs.size)
  have HWT := Lib.hid (HWT.out.carry hs hs.size)
  have HPR := Lib.hid (HPR.out.carry hs hs.size)
  have HQR := Lib.hid (HQR.out.carry hs hs.size)
  have HB19 : Hid (Below w.heap.size w w19) := Lib.hid (HB18.out.trans (hs.mono HB18.out.size))
  clear hb hs
  obtain rfl : c = 0 := hm1.2 ⟨exP_ok, exQ_ok⟩
  obtain ⟨-, m, hm, -⟩ | ⟨rfl, -, rfl⟩ := hm2 rfl
  · rw [exNo] at hm; cases hm
  clear hm1 hm2
  have HSS := Lib.hid (rsameSubst_yes [(nX, tG (tV nZ)), (nY, tV nZ)] _ _ w19 HU.out HWT.out (by decide) (by simp only [List.mem_cons, List.not_mem_nil, or_false]; rintro q (rfl | rfl) <;> decide))
  go_wp2_with fail
  refine HSS.out.mono ?_
  rintro e w20 ⟨rfl, hb⟩
  have HB20 : Hid (Below w.heap.size w w20) := Lib.hid (HB19.out.trans (hb.mono HB19.out.size))
  clear hb
  go_wp2_with fail
  go_ret
  exact ⟨rfl, HB20.out⟩
end Go.Proofs.YtkglopdogakfoaaGreatDoor
