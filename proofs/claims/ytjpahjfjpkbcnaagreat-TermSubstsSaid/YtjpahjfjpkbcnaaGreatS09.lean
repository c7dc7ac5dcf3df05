/- Contracts of the program's functions. -/
import Derived.Test.YtjpahjfjpkbcnaaGreatS04
import Derived.Test.YtjpahjfjpkbcnaaGreatS05
import Derived.Test.YtjpahjfjpkbcnaaGreatS08
import Derived.Test.YtjpahjfjpkbcnaaGreatS07
import Derived.Test.YtjpahjfjpkbcnaaGreatS03
import Derived.Deep.CutRange
import Derived.Sort.KeysCollected

namespace Go.Proofs.YtjpahjfjpkbcnaaGreat
open Go.Proofs Go.RowKit
attribute [local go_sem] eval_put_same eval_put_ne size_put
theorem cell_keep {U w : World} (hb : Below U.heap.size U w) {b o : Nat} {v : Value} (h : U.drew.cell? ⟨b, o, none⟩ = some v) : w.cell? ⟨b, o, none⟩ = some v :=
 (hb.cell (p := ⟨b, o, none⟩) (World.block_lt_of_cell? U ⟨b, o, none⟩ h)).trans h
def ops108b : Array Oper := #[{ dst := some 41, op := Op.load 32 (Operand.tmp 8), type := 32, pos := "bound.go:175", after := #[], guard := none }, { dst := some 42, op := Op.move (Operand.tmp 6), type := 167, pos := "bound.go:175", after := #[], guard := none }, { dst := some 43, op := Op.move (Operand.tmp 7), type := 3, pos := "bound.go:175", after := #[], guard := none }, { dst := some 44, op := Op.indexAddr 167 (Operand.tmp 42) (Operand.tmp 43), type := 0, pos := "bound.go:175", after := #[{ on := 1, ground := Ground.data }, { on := 2, ground := Ground.data }], guard := none }, { dst := some 45, op := Op.load 173 (Operand.tmp 44), type := 173, pos := "bound.go:175", after := #[{ on := 3, ground := Ground.data }], guard := none }, { dst := some 46, op := Op.call { callee := Callee.value (Operand.func 141), args := #[Operand.tmp 41, Operand.tmp 45, Operand.func 142], argTypes := #[32, 173, 170] }, type := 32, pos := "bound.go:175", after := #[{ on := 0, ground := Ground.data }, { on := 4, ground := Ground.data }], guard := none }, { dst := none, op := Op.store 32 (Operand.tmp 8) (Operand.tmp 46), type := 0, pos := "bound.go:175", after := #[{ on := 5, ground := Ground.data }, { on := 5, ground := Ground.chain }, { on := 0, ground := Ground.phase }, { on := 1, ground := Ground.phase }, { on := 2, ground := Ground.phase }, { on := 3, ground := Ground.phase }, { on := 4, ground := Ground.phase }, { on := 5, ground := Ground.phase }], guard := none }]
def ops108c : Array Oper := #[{ dst := some 48, op := Op.move (Operand.tmp 6), type := 167, pos := "bound.go:176", after := #[], guard := none }, { dst := some 49, op := Op.move (Operand.tmp 7), type := 3, pos := "bound.go:176", after := #[], guard := none }, { dst := some 50, op := Op.indexAddr 167 (Operand.tmp 48) (Operand.tmp 49), type := 0, pos := "bound.go:176", after := #[{ on := 0, ground := Ground.data }, { on := 1, ground := Ground.data }], guard := none }, { dst := some 51, op := Op.load 173 (Operand.tmp 50), type := 173, pos := "bound.go:176", after := #[{ on := 2, ground := Ground.data }], guard := none }, { dst := some 52, op := Op.fieldAddr 126 (Operand.tmp 2) 0, type := 0, pos := "bound.go:176", after := #[], guard := none }, { dst := some 53, op := Op.load 9 (Operand.tmp 52), type := 9, pos := "bound.go:176", after := #[{ on := 4, ground := Ground.data }], guard := none }, { dst := some 54, op := Op.call { callee := Callee.value (Operand.func 143), args := #[Operand.tmp 51, Operand.tmp 53], argTypes := #[173, 9] }, type := 174, pos := "bound.go:176", after := #[{ on := 3, ground := Ground.data }, { on := 5, ground := Ground.data }], guard := none }, { dst := some 47, op := Op.move (Operand.tmp 54), type := 174, pos := "bound.go:176", after := #[{ on := 6, ground := Ground.data }], guard := none }, { dst := some 55, op := Op.extract (Operand.tmp 47) 0, type := 9, pos := "bound.go:176", after := #[{ on := 7, ground := Ground.data }], guard := none }, { dst := some 56, op := Op.extract (Operand.tmp 47) 1, type := 4, pos := "bound.go:176", after := #[{ on := 7, ground := Ground.data }, { on := 10, ground := Ground.gcOnly Departure.lateStores }], guard := none }, { dst := some 9, op := Op.assign (Operand.tmp 55), type := 9, pos := "bound.go:176", after := #[{ on := 8, ground := Ground.data }, { on := 6, ground := Ground.chain }, { on := 0, ground := Ground.phase }, { on := 1, ground := Ground.phase }, { on := 2, ground := Ground.phase }, { on := 3, ground := Ground.phase }, { on := 4, ground := Ground.phase }, { on := 5, ground := Ground.phase }, { on := 6, ground := Ground.phase }, { on := 7, ground := Ground.phase }, { on := 8, ground := Ground.phase }, { on := 9, ground := Ground.textOnly Departure.lateStores }], guard := none }, { dst := some 10, op := Op.assign (Operand.tmp 56), type := 4, pos := "bound.go:176", after := #[{ on := 9, ground := Ground.data }, { on := 10, ground := Ground.chain }, { on := 0, ground := Ground.phase }, { on := 1, ground := Ground.phase }, { on := 2, ground := Ground.phase }, { on := 3, ground := Ground.phase }, { on := 4, ground := Ground.phase }, { on := 5, ground := Ground.phase }, { on := 6, ground := Ground.phase }, { on := 7, ground := Ground.phase }, { on := 8, ground := Ground.phase }, { on := 9, ground := Ground.phase }, { on := 10, ground := Ground.phase }], guard := none }]
set_option maxHeartbeats 2000000 in
set_option maxRecDepth 100000 in
theorem reg108b {Q : Exit → Act → World → Prop} {a : Act} {U : World} {kb sb n k : Nat} {cs : Array Value} {vqp : Option Addr} {oo nn : Int} {tt : ByteArray} {ka : Option Addr} {kn kc : Nat} {pa : Option Addr} {pn pc : Nat} {T : Tm}
  (hsz : a.tmps.size = 70) (h8 : a.tmps[8]'(by omega) = .pointer (some ⟨kb, 0, none⟩)) (h6 : a.tmps[6]'(by omega) = .slice (some ⟨sb, 0, none⟩) n n) (h7 : a.tmps[7]'(by omega) = .int .i64 k)
  (hQ : ∀ c (d : Nat) v (a : Act) w, Q (.panic c) (a.put (some d) v) w → Q (.panic c) a w)
  (hq : U.heap[kb]? = some (.cells #[.int .i64 oo, .int .i64 nn, .string tt, .slice ka kn kc, .slice pa pn pc] 32 (0, 0))) (hs : U.heap[sb]? = some (.cells cs 173 (0, 0))) (hc : cs[k]? = some (.pointer vqp)) (hk : k < n)
  (hren : Calls Tryz.prog 141 #[.agg #[.int .i64 oo, .int .i64 nn, .string tt, .slice ka kn kc, .slice pa pn pc], .pointer vqp, .func (.func 142) #[] #[]] U.drew fun e W' => (∃ v2, e = .returned v2 ∧ TmIn (Fresh U.drew W') W' T v2) ∧ Below U.drew.heap.size U.drew W')
  (hK : ∀ (u41 u42 u43 u44 u45 u46 c0 c1 c2 c3 c4 : Value) (w1 : World), TmIn (Fresh U w1) w1 T (.agg #[c0, c1, c2, c3, c4]) → Below U.heap.size U w1 → Q .normal { tmps := ((((((a.tmps.setIfInBounds 41 u41).setIfInBounds 42 u42).setIfInBounds 43 u43).setIfInBounds 44 u44).setIfInBounds 45 u45).setIfInBounds 46 u46), defers := a.defers } (((((w1.setCell ⟨kb, 0, none⟩ c0).setCell ⟨kb, 1, none⟩ c1).setCell ⟨kb, 2, none⟩ c2).setCell ⟨kb, 3, none⟩ c3).setCell ⟨kb, 4, none⟩ c4)) :
  (Code.region 9 ops108b true).wp Tryz.prog Q a U := by
 have hk0 : (0 : Int) ≤ (k : Int) := by omega
 have hk1 : (k : Int) < (n : Int) := by omega
 have hS0 : (U.drew.cell? ⟨kb, 0, none⟩ = some (.int .i64 oo) ∧ U.drew.cell? ⟨kb, 1, none⟩ = some (.int .i64 nn) ∧ U.drew.cell? ⟨kb, 2, none⟩ = some (.string tt) ∧ U.drew.cell? ⟨kb, 3, none⟩ = some (.slice ka kn kc) ∧ U.drew.cell? ⟨kb, 4, none⟩ = some (.slice pa pn pc)) ∧ U.drew.cell? ⟨sb, k, none⟩ = some (.pointer vqp) := ⟨cells5 (W := U.drew) hq, (cell_box (W := U.drew) hs).trans hc⟩
 have HQ := lh hq; have HREN := lh hren; have HK := lh hK
 clear hq hs hc hren hK
 refine wp_region_z (fun w' => (w'.cell? ⟨kb, 0, none⟩ = some (.int .i64 oo) ∧ w'.cell? ⟨kb, 1, none⟩ = some (.int .i64 nn) ∧ w'.cell? ⟨kb, 2, none⟩ = some (.string tt) ∧ w'.cell? ⟨kb, 3, none⟩ = some (.slice ka kn kc) ∧ w'.cell? ⟨kb, 4, none⟩ = some (.slice pa pn pc)) ∧ w'.cell? ⟨sb, k, none⟩ = some (.pointer vqp)) 6 (by kernel_rfl) ?_
 refine wpAnyZ_take 0 (oi := { dst := some 41, op := Op.load 32 (Operand.tmp 8), type := 32, pos := "bound.go:175", after := #[], guard := none }) hS0 rfl (by kernel_rfl) (by kernel_rfl) (by kernel_rfl) (fun c a w h => hQ c _ _ a w h) (by kernel_rfl) rfl (by rfl) (by intro w' hSw; go_simp <;> rfl) ?_
 refine wpAnyZ_take 1 (oi := { dst := some 42, op := Op.move (Operand.tmp 6), type := 167, pos := "bound.go:175", after := #[], guard := none }) hS0 rfl (by kernel_rfl) (by kernel_rfl) (by kernel_rfl) (fun c a w h => hQ c _ _ a w h) (by kernel_rfl) rfl (by rfl) (by intro w' hSw; go_simp <;> rfl) ?_
 refine wpAnyZ_take 2 (oi := { dst := some 43, op := Op.move (Operand.tmp 7), type := 3, pos := "bound.go:175", after := #[], guard := none }) hS0 rfl (by kernel_rfl) (by kernel_rfl) (by kernel_rfl) (fun c a w h => hQ c _ _ a w h) (by kernel_rfl) rfl (by rfl) (by intro w' hSw; go_simp <;> rfl) ?_
 refine wpAnyZ_take 3 (oi := { dst := some 44, op := Op.indexAddr 167 (Operand.tmp 42) (Operand.tmp 43), type := 0, pos := "bound.go:175", after := #[{ on := 1, ground := Ground.data }, { on := 2, ground := Ground.data }], guard := none }) hS0 rfl (by kernel_rfl) (by kernel_rfl) (by kernel_rfl) (fun c a w h => hQ c _ _ a w h) (by kernel_rfl) rfl (by rfl) (by intro w' hSw; go_simp <;> rfl) ?_
 refine wpAnyZ_take 4 (oi := { dst := some 45, op := Op.load 173 (Operand.tmp 44), type := 173, pos := "bound.go:175", after := #[{ on := 3, ground := Ground.data }], guard := none }) hS0 rfl (by kernel_rfl) (by kernel_rfl) (by kernel_rfl) (fun c a w h => hQ c _ _ a w h) (by kernel_rfl) rfl (by rfl) (by intro w' hSw; go_simp <;> rfl) ?_
 refine wpAnyZ_one 5 (o := { dst := some 46, op := Op.call { callee := Callee.value (Operand.func 141), args := #[Operand.tmp 41, Operand.tmp 45, Operand.func 142], argTypes := #[32, 173, 170] }, type := 32, pos := "bound.go:175", after := #[{ on := 0, ground := Ground.data }, { on := 4, ground := Ground.data }], guard := none }) (by kernel_rfl) rfl fun KK hKK => ?_
 go_simp
 refine HREN.out.mono ?_
 rintro e w1 ⟨⟨v2, rfl, hnew⟩, hb1⟩
 obtain ⟨o2, n2, t2, ka2, kn2, kc2, pa2, pn2, pc2, rfl⟩ := TmIn.shape hnew
 have hbU1 : Below U.heap.size U w1 := (below_drew _ _).trans hb1
 have hq1 := bget' hbU1 HQ.out
 have hS1 : (w1.cell? ⟨kb, 0, none⟩ = some (.int .i64 oo) ∧ w1.cell? ⟨kb, 1, none⟩ = some (.int .i64 nn) ∧ w1.cell? ⟨kb, 2, none⟩ = some (.string tt) ∧ w1.cell? ⟨kb, 3, none⟩ = some (.slice ka kn kc) ∧ w1.cell? ⟨kb, 4, none⟩ = some (.slice pa pn pc)) ∧ w1.cell? ⟨sb, k, none⟩ = some (.pointer vqp) := ⟨cells5 hq1, (cell_keep hbU1 hS0.2)⟩
 obtain ⟨m0, m1, m2, m3, m4⟩ := cells5 hq1
 have mf := free_box hq1
 have HNEW := lh hnew; have HB := lh hbU1
 clear hnew hb1 hbU1 hS0 HREN hq1
 refine hKK.out _ _ (fun _ => hS1) ?_
 clear hKK KK hS1
 refine wpAnyZ_one 6 (o := { dst := none, op := Op.store 32 (Operand.tmp 8) (Operand.tmp 46), type := 0, pos := "bound.go:175", after := #[{ on := 5, ground := Ground.data }, { on := 5, ground := Ground.chain }, { on := 0, ground := Ground.phase }, { on := 1, ground := Ground.phase }, { on := 2, ground := Ground.phase }, { on := 3, ground := Ground.phase }, { on := 4, ground := Ground.phase }, { on := 5, ground := Ground.phase }], guard := none }) (by kernel_rfl) rfl fun KK hKK => ?_
 go_simp
 refine hKK.out _ _ (fun h => absurd rfl h) ?_
 refine wpAnyZ_done (by kernel_rfl) ?_ _
 exact HK.out _ _ _ _ _ _ _ _ _ _ _ _ HNEW.out HB.out
set_option maxHeartbeats 2000000 in
set_option maxRecDepth 100000 in
theorem reg108c {Q : Exit → Act → World → Prop} {a : Act} {U : World} {Bx sb n k : Nat} {nm s : ByteArray} {b : Bool} {cs : Array Value} {vqp : Option Addr} {y1 y2 y3 y4 y5 y6 : Value}
  (hsz : a.tmps.size = 70) (h2 : a.tmps[2]'(by omega) = .pointer (some ⟨Bx, 0, none⟩)) (h6 : a.tmps[6]'(by omega) = .slice (some ⟨sb, 0, none⟩) n n) (h7 : a.tmps[7]'(by omega) = .int .i64 k)
  (hQ : ∀ c (d : Nat) v (a : Act) w, Q (.panic c) (a.put (some d) v) w → Q (.panic c) a w)
  (hq : U.heap[Bx]? = some (.cells #[.string nm, y1, y2, y3, y4, y5, y6] 126 (0, 0))) (hs : U.heap[sb]? = some (.cells cs 173 (0, 0))) (hc : cs[k]? = some (.pointer vqp)) (hk : k < n)
  (hfd : Calls Tryz.prog 143 #[.pointer vqp, .string nm] U.drew fun e w' => e = .returned (.tuple #[.string s, .bool b]) ∧ w' = U.drew)
  (hK : ∀ (u48 u49 u50 u51 u52 u53 u54 u47 u55 u56 u9 : Value), Q .normal { tmps := ((((((((((((a.tmps.setIfInBounds 48 u48).setIfInBounds 49 u49).setIfInBounds 50 u50).setIfInBounds 51 u51).setIfInBounds 52 u52).setIfInBounds 53 u53).setIfInBounds 54 u54).setIfInBounds 47 u47).setIfInBounds 55 u55).setIfInBounds 56 u56).setIfInBounds 9 u9).setIfInBounds 10 (.bool b)), defers := a.defers } U.drew) :
  (Code.region 10 ops108c true).wp Tryz.prog Q a U := by
 have hk0 : (0 : Int) ≤ (k : Int) := by omega
 have hk1 : (k : Int) < (n : Int) := by omega
 have hS0 : U.drew.cell? ⟨Bx, 0, none⟩ = some (.string nm) ∧ U.drew.cell? ⟨sb, k, none⟩ = some (.pointer vqp) := ⟨cell_box (W := U.drew) hq, (cell_box (W := U.drew) hs).trans hc⟩
 have HFD := lh hfd; have HK := lh hK
 clear hq hs hc hfd hK
 refine wp_region_z (fun w' => w'.cell? ⟨Bx, 0, none⟩ = some (.string nm) ∧ w'.cell? ⟨sb, k, none⟩ = some (.pointer vqp)) 11 (by kernel_rfl) ?_
 refine wpAnyZ_take 0 (oi := { dst := some 48, op := Op.move (Operand.tmp 6), type := 167, pos := "bound.go:176", after := #[], guard := none }) hS0 rfl (by kernel_rfl) (by kernel_rfl) (by kernel_rfl) (fun c a w h => hQ c _ _ a w h) (by kernel_rfl) rfl (by rfl) (by intro w' hSw; go_simp <;> rfl) ?_
 refine wpAnyZ_take 1 (oi := { dst := some 49, op := Op.move (Operand.tmp 7), type := 3, pos := "bound.go:176", after := #[], guard := none }) hS0 rfl (by kernel_rfl) (by kernel_rfl) (by kernel_rfl) (fun c a w h => hQ c _ _ a w h) (by kernel_rfl) rfl (by rfl) (by intro w' hSw; go_simp <;> rfl) ?_
 refine wpAnyZ_take 2 (oi := { dst := some 50, op := Op.indexAddr 167 (Operand.tmp 48) (Operand.tmp 49), type := 0, pos := "bound.go:176", after := #[{ on := 0, ground := Ground.data }, { on := 1, ground := Ground.data }], guard := none }) hS0 rfl (by kernel_rfl) (by kernel_rfl) (by kernel_rfl) (fun c a w h => hQ c _ _ a w h) (by kernel_rfl) rfl (by rfl) (by intro w' hSw; go_simp <;> rfl) ?_
 refine wpAnyZ_take 3 (oi := { dst := some 51, op := Op.load 173 (Operand.tmp 50), type := 173, pos := "bound.go:176", after := #[{ on := 2, ground := Ground.data }], guard := none }) hS0 rfl (by kernel_rfl) (by kernel_rfl) (by kernel_rfl) (fun c a w h => hQ c _ _ a w h) (by kernel_rfl) rfl (by rfl) (by intro w' hSw; go_simp <;> rfl) ?_
 refine wpAnyZ_take 4 (oi := { dst := some 52, op := Op.fieldAddr 126 (Operand.tmp 2) 0, type := 0, pos := "bound.go:176", after := #[], guard := none }) hS0 rfl (by kernel_rfl) (by kernel_rfl) (by kernel_rfl) (fun c a w h => hQ c _ _ a w h) (by kernel_rfl) rfl (by rfl) (by intro w' hSw; go_simp <;> rfl) ?_
 refine wpAnyZ_take 5 (oi := { dst := some 53, op := Op.load 9 (Operand.tmp 52), type := 9, pos := "bound.go:176", after := #[{ on := 4, ground := Ground.data }], guard := none }) hS0 rfl (by kernel_rfl) (by kernel_rfl) (by kernel_rfl) (fun c a w h => hQ c _ _ a w h) (by kernel_rfl) rfl (by rfl) (by intro w' hSw; go_simp <;> rfl) ?_
 refine wpAnyZ_one 6 (o := { dst := some 54, op := Op.call { callee := Callee.value (Operand.func 143), args := #[Operand.tmp 51, Operand.tmp 53], argTypes := #[173, 9] }, type := 174, pos := "bound.go:176", after := #[{ on := 3, ground := Ground.data }, { on := 5, ground := Ground.data }], guard := none }) (by kernel_rfl) rfl fun KK hKK => ?_
 go_simp
 refine HFD.out.mono ?_
 rintro e w1 ⟨rfl, rfl⟩
 refine hKK.out _ _ (fun _ => hS0) ?_
 clear hKK KK
 refine wpAnyZ_take 7 (oi := { dst := some 47, op := Op.move (Operand.tmp 54), type := 174, pos := "bound.go:176", after := #[{ on := 6, ground := Ground.data }], guard := none }) hS0 rfl (by kernel_rfl) (by kernel_rfl) (by kernel_rfl) (fun c a w h => hQ c _ _ a w h) (by kernel_rfl) rfl (by rfl) (by intro w' hSw; go_simp <;> rfl) ?_
 refine wpAnyZ_take 8 (oi := { dst := some 55, op := Op.extract (Operand.tmp 47) 0, type := 9, pos := "bound.go:176", after := #[{ on := 7, ground := Ground.data }], guard := none }) hS0 rfl (by kernel_rfl) (by kernel_rfl) (by kernel_rfl) (fun c a w h => hQ c _ _ a w h) (by kernel_rfl) rfl (by rfl) (by intro w' hSw; go_simp <;> rfl) ?_
 refine wpAnyZ_take 9 (oi := { dst := some 56, op := Op.extract (Operand.tmp 47) 1, type := 4, pos := "bound.go:176", after := #[{ on := 7, ground := Ground.data }, { on := 10, ground := Ground.gcOnly Departure.lateStores }], guard := none }) hS0 rfl (by kernel_rfl) (by kernel_rfl) (by kernel_rfl) (fun c a w h => hQ c _ _ a w h) (by kernel_rfl) rfl (by rfl) (by intro w' hSw; go_simp <;> rfl) ?_
 refine wpAnyZ_take 10 (oi := { dst := some 9, op := Op.assign (Operand.tmp 55), type := 9, pos := "bound.go:176", after := #[{ on := 8, ground := Ground.data }, { on := 6, ground := Ground.chain }, { on := 0, ground := Ground.phase }, { on := 1, ground := Ground.phase }, { on := 2, ground := Ground.phase }, { on := 3, ground := Ground.phase }, { on := 4, ground := Ground.phase }, { on := 5, ground := Ground.phase }, { on := 6, ground := Ground.phase }, { on := 7, ground := Ground.phase }, { on := 8, ground := Ground.phase }, { on := 9, ground := Ground.textOnly Departure.lateStores }], guard := none }) hS0 rfl (by kernel_rfl) (by kernel_rfl) (by kernel_rfl) (fun c a w h => hQ c _ _ a w h) (by kernel_rfl) rfl (by rfl) (by intro w' hSw; go_simp <;> rfl) ?_
 refine wpAnyZ_one 11 (o := { dst := some 10, op := Op.assign (Operand.tmp 56), type := 4, pos := "bound.go:176", after := #[{ on := 9, ground := Ground.data }, { on := 10, ground := Ground.chain }, { on := 0, ground := Ground.phase }, { on := 1, ground := Ground.phase }, { on := 2, ground := Ground.phase }, { on := 3, ground := Ground.phase }, { on := 4, ground := Ground.phase }, { on := 5, ground := Ground.phase }, { on := 6, ground := Ground.phase }, { on := 7, ground := Ground.phase }, { on := 8, ground := Ground.phase }, { on := 9, ground := Ground.phase }, { on := 10, ground := Ground.phase }], guard := none }) (by kernel_rfl) rfl fun KK hKK => ?_
 go_simp
 refine hKK.out _ _ (fun h => absurd rfl h) ?_
 refine wpAnyZ_done (by kernel_rfl) ?_ _
 exact HK.out _ _ _ _ _ _ _ _ _ _ _
end Go.Proofs.YtjpahjfjpkbcnaaGreat
namespace Go.Proofs.YtjpahjfjpkbcnaaGreat
open Go.Proofs Go.RowKit
theorem getD_of {ts : Array Value} {k : Nat} {x : Value} (h : ts[k]? = some x) : ts.getD k undef = x := by
 obtain ⟨hlt, he⟩ := Array.getElem?_eq_some_iff.1 h
 simp [Array.getD, hlt, he]
def kidF (nm : ByteArray) (by' : Tm) (f : Nat) (T : Tm) (i : Nat) : Tm :=
 if (findS ((scs108 (freeL by') nm T).getD i []) nm).isSome then (renM chSame (0, fun _ => false) ((scs108 (freeL by') nm T).getD i []) (T.kids.getD i default)).1
 else subF nm by' f (renM chSame (0, fun _ => false) ((scs108 (freeL by') nm T).getD i []) (T.kids.getD i default)).1
theorem subF_free {nm : ByteArray} {by' : Tm} {f : Nat} {T : Tm} (h : hasL (freeL T) nm = false) : subF nm by' (f + 1) T = T := by unfold subF; rw [if_pos h]
theorem subF_name {nm : ByteArray} {by' : Tm} {f : Nat} {T : Tm} (h : hasL (freeL T) nm = true) (h4 : T.op = 4) : subF nm by' (f + 1) T = by' := by
 unfold subF; rw [if_neg (by rw [h]; simp), if_pos h4]
theorem subF_node {nm : ByteArray} {by' : Tm} {f : Nat} {T : Tm} (h : hasL (freeL T) nm = true) (h4 : ¬ T.op = 4) : subF nm by' (f + 1) T = .mk T.op T.n (rebText T (scs108 (freeL by') nm T)) ((List.range T.kids.length).map (kidF nm by' f T)) (rebPats T (scs108 (freeL by') nm T)) := by
 conv => lhs; unfold subF
 rw [if_neg (by rw [h]; simp), if_neg h4]
 rfl
set_option maxHeartbeats 8000000 in
set_option maxRecDepth 100000 in
theorem in_any (nm : ByteArray) (by' : Tm) (hnm : nm.size ≤ maxLen) (hlb : lensM by') (hfb : (freeL by').length ≤ 800000) : ∀ (f : Nat) (T : Tm) (v : Value) (bo bn : Int) (bt : ByteArray) (bk : Option Addr) (bkn bkc : Nat) (bp : Option Addr) (bpn bpc : Nat) (fv : Value) (w : World), heightM T ≤ f → TmAt w.heap.size w T v → TmAt w.heap.size w by' (.agg #[.int .i64 bo, .int .i64 bn, .string bt, .slice bk bkn bkc, .slice bp bpn bpc]) →
  (SlV w.heap.size fv (freeL by').length fun b o => StrsAt w (freeL by') b o) → Sub T →
  Calls Tryz.prog 108 #[.agg #[.string nm, .int .i64 bo, .int .i64 bn, .string bt, .slice bk bkn bkc, .slice bp bpn bpc, fv], v] w fun e w' => (∃ nv, e = .returned nv ∧ TmIn (Fresh w w') w' (subF nm by' f T) nv) ∧ Below w.heap.size w w'
 | 0, T, v, bo, bn, bt, bk, bkn, bkc, bp, bpn, bpc, fv, w, hf, _, _, _, _ => by rw [height_eq] at hf; omega
 | f + 1, T, v, bo, bn, bt, bk, bkn, bkc, bp, bpn, bpc, fv, w, hf, hT, hby, hfv, hsub => by
  have ih := in_any nm by' hnm hlb hfb f
  obtain ⟨fa, fcap, rfl, -⟩ := hfv.split
  obtain ⟨a, cap, a', cap', rfl, htx, hk, -⟩ := hT.parts
  have HIH := lh ih; have HT := lh hT; have HBY := lh hby; have HFV := lh hfv; have HSUB := lh hsub; have HK := lh hk; have HF := lh hf
  clear ih hT hby hfv hsub hk htx hf
  go_enter Tryz.func108, Tryz.ntmps108
  go_upto_region 1 with fail
  have hb3 : Below w.heap.size w (((w.alloc (.cells #[.string nm, .int .i64 bo, .int .i64 bn, .string bt, .slice bk bkn bkc, .slice bp bpn bpc, .slice fa (freeL by').length fcap] 126)).alloc (.cells #[.int .i64 T.op, .int .i64 T.n, .string T.text, .slice a T.kids.length cap, .slice a' T.pats.length cap'] 32)).alloc (.cells #[.int .i64 0, .int .i64 0, .string ⟨#[]⟩, .slice none 0 0, .slice none 0 0] 32)) := (((Below.refl _ w).alloc (Nat.le_refl _) _).alloc (by simp) _).alloc (by simp; omega) _
  have hs3 : (((w.alloc (.cells #[.string nm, .int .i64 bo, .int .i64 bn, .string bt, .slice bk bkn bkc, .slice bp bpn bpc, .slice fa (freeL by').length fcap] 126)).alloc (.cells #[.int .i64 T.op, .int .i64 T.n, .string T.text, .slice a T.kids.length cap, .slice a' T.pats.length cap'] 32)).alloc (.cells #[.int .i64 0, .int .i64 0, .string ⟨#[]⟩, .slice none 0 0, .slice none 0 0] 32)).heap.size = w.heap.size + 3 := by simp
  have hx0 : (((w.alloc (.cells #[.string nm, .int .i64 bo, .int .i64 bn, .string bt, .slice bk bkn bkc, .slice bp bpn bpc, .slice fa (freeL by').length fcap] 126)).alloc (.cells #[.int .i64 T.op, .int .i64 T.n, .string T.text, .slice a T.kids.length cap, .slice a' T.pats.length cap'] 32)).alloc (.cells #[.int .i64 0, .int .i64 0, .string ⟨#[]⟩, .slice none 0 0, .slice none 0 0] 32)).heap[w.heap.size]? = some (.cells #[.string nm, .int .i64 bo, .int .i64 bn, .string bt, .slice bk bkn bkc, .slice bp bpn bpc, .slice fa (freeL by').length fcap] 126 (0, 0)) := by
   rw [Below.heap_alloc _ _ _ (by simp; omega), Below.heap_alloc _ _ _ (by simp)]; exact heap_alloc_new _ _
  have hx1 : (((w.alloc (.cells #[.string nm, .int .i64 bo, .int .i64 bn, .string bt, .slice bk bkn bkc, .slice bp bpn bpc, .slice fa (freeL by').length fcap] 126)).alloc (.cells #[.int .i64 T.op, .int .i64 T.n, .string T.text, .slice a T.kids.length cap, .slice a' T.pats.length cap'] 32)).alloc (.cells #[.int .i64 0, .int .i64 0, .string ⟨#[]⟩, .slice none 0 0, .slice none 0 0] 32)).heap[w.heap.size + 1]? = some (.cells #[.int .i64 T.op, .int .i64 T.n, .string T.text, .slice a T.kids.length cap, .slice a' T.pats.length cap'] 32 (0, 0)) := by
   rw [Below.heap_alloc _ _ _ (by simp)]; have := heap_alloc_new (w.alloc (.cells #[.string nm, .int .i64 bo, .int .i64 bn, .string bt, .slice bk bkn bkc, .slice bp bpn bpc, .slice fa (freeL by').length fcap] 126)) (.cells #[.int .i64 T.op, .int .i64 T.n, .string T.text, .slice a T.kids.length cap, .slice a' T.pats.length cap'] 32); simpa using this
  have hx2 : (((w.alloc (.cells #[.string nm, .int .i64 bo, .int .i64 bn, .string bt, .slice bk bkn bkc, .slice bp bpn bpc, .slice fa (freeL by').length fcap] 126)).alloc (.cells #[.int .i64 T.op, .int .i64 T.n, .string T.text, .slice a T.kids.length cap, .slice a' T.pats.length cap'] 32)).alloc (.cells #[.int .i64 0, .int .i64 0, .string ⟨#[]⟩, .slice none 0 0, .slice none 0 0] 32)).heap[w.heap.size + 1 + 1]? = some (.cells #[.int .i64 0, .int .i64 0, .string ⟨#[]⟩, .slice none 0 0, .slice none 0 0] 32 (0, 0)) := by
   have := heap_alloc_new ((w.alloc (.cells #[.string nm, .int .i64 bo, .int .i64 bn, .string bt, .slice bk bkn bkc, .slice bp bpn bpc, .slice fa (freeL by').length fcap] 126)).alloc (.cells #[.int .i64 T.op, .int .i64 T.n, .string T.text, .slice a T.kids.length cap, .slice a' T.pats.length cap'] 32)) (.cells #[.int .i64 0, .int .i64 0, .string ⟨#[]⟩, .slice none 0 0, .slice none 0 0] 32); simpa using this
  generalize (((w.alloc (.cells #[.string nm, .int .i64 bo, .int .i64 bn, .string bt, .slice bk bkn bkc, .slice bp bpn bpc, .slice fa (freeL by').length fcap] 126)).alloc (.cells #[.int .i64 T.op, .int .i64 T.n, .string T.text, .slice a T.kids.length cap, .slice a' T.pats.length cap'] 32)).alloc (.cells #[.int .i64 0, .int .i64 0, .string ⟨#[]⟩, .slice none 0 0, .slice none 0 0] 32)) = V at *
  have hbd : Below w.heap.size w V.drew := hb3.trans (below_drew _ _)
  have hfr := freeNames_any T _ V.drew (TmAt.keep hbd hbd.size _ _ HT.out) HSUB.out.ren.ok (by have := HSUB.out.frees (fun _ => false); omega)
  have hfl := freeL_len T
  have hfl2 := HSUB.out.frees (fun _ => false)
  have hS0 := And.intro (cells5 (W := V.drew) hx1) (cell_box (W := V.drew) (j := 0) hx0)
  have HFR := lh hfr; have HB3 := lh hb3; have HS3 := lh hs3; have HX0 := lh hx0; have HX1 := lh hx1; have HX2 := lh hx2
  clear hfr hb3 hs3 hx0 hx1 hx2 hbd
  go_region_held3 (fun w' => (w'.cell? ⟨w.heap.size + 1, 0, none⟩ = some (.int .i64 T.op) ∧ w'.cell? ⟨w.heap.size + 1, 1, none⟩ = some (.int .i64 T.n) ∧ w'.cell? ⟨w.heap.size + 1, 2, none⟩ = some (.string T.text) ∧ w'.cell? ⟨w.heap.size + 1, 3, none⟩ = some (.slice a T.kids.length cap) ∧ w'.cell? ⟨w.heap.size + 1, 4, none⟩ = some (.slice a' T.pats.length cap')) ∧ w'.cell? ⟨w.heap.size, 0, none⟩ = some (.string nm))
   (first | exact hS0 | exact hS1)
   (first
    | (go_at_call 105; refine HFR.out.mono ?_; rintro e w1 ⟨⟨gv, rfl, hgv⟩, hb1⟩; obtain ⟨ga, gcap, rfl⟩ := hgv.split; have hS1 := And.intro (cells5 (bget' (A := V.drew) hb1 HX1.out)) (cell_box (j := 0) (bget' (A := V.drew) hb1 HX0.out)); have HCN := lh (Contains_any (freeL T) nm _ w1 (hgv.to (n₀ := w1.heap.size) (fun b h => h.2) fun _ _ h => h) (by omega)); have HB1 := lh hb1; clear hgv hb1 HFR hS0)
    | (go_at_call 138; refine HCN.out.mono ?_; rintro e w2 ⟨rfl, rfl⟩))
  clear hS1 HCN
  obtain ⟨w1, rfl⟩ : ∃ w1 : World, w1 = w2 := ⟨_, rfl⟩
  have hbV1 : Below V.heap.size V w1 := (below_drew _ _).trans HB1.out
  have hs3 := HS3.out
  have hsz1 := hbV1.size
  have y0 := bget' hbV1 HX0.out
  have y1 := bget' hbV1 HX1.out
  have y2 := bget' hbV1 HX2.out
  obtain ⟨c0, c1, c2, c3, c4⟩ := cells5 y1
  have hbw1 : Below w.heap.size w w1 := HB3.out.trans (hbV1.mono (by omega))
  have HY0 := lh y0; have HY1 := lh y1; have HY2 := lh y2; have HBW1 := lh hbw1
  clear y0 y1 y2 hbw1 hbV1 HX0 HX1 HX2 HB1
  cases hh : hasL (freeL T) nm
  · -- the name is not free
   have HH := lh hh
   clear hh
   have hcp := copyOf_any T _ w1 (TmAt.keep HBW1.out HBW1.out.size _ _ HT.out) HSUB.out.ren.len
   have HCP := lh hcp
   clear hcp
   go_wp2_with fail
   refine HCP.out.mono ?_
   rintro e w2 ⟨⟨nv, rfl, hnv⟩, hb2⟩
   obtain ⟨o2, n2, t2, ka2, kn2, kc2, pa2, pn2, pc2, rfl⟩ := TmIn.shape hnv
   have hs2 := hb2.size
   have y2 := bget' hb2 HY2.out
   obtain ⟨d0, d1, d2, d3, d4⟩ := cells5 y2
   have f2 := free_box y2
   have HNV := lh hnv; have HB2 := lh hb2
   clear hnv hb2 y2 HCP c0 c1 c2 c3 c4
   go_wp2
   have hkp := kept5 w2 (w.heap.size + 1 + 1) (.int .i64 o2) (.int .i64 n2) (.string t2) (.slice ka2 kn2 kc2) (.slice pa2 pn2 pc2)
   have hsz := hkp.size
   refine bodyPost_ret (v := .agg #[.int .i64 o2, .int .i64 n2, .string t2, .slice ka2 kn2 kc2, .slice pa2 pn2 pc2]) (by simp [results, Tryz.results108, go_sem, d0, d1, d2, d3, d4]) rfl ⟨⟨_, rfl, ?_⟩, (HBW1.out.trans (HB2.out.mono HBW1.out.size)).trans (hkp.below (by omega) (by rintro b rfl; omega))⟩
   rw [subF_free HH.out]
   exact TmIn.keep (fun b (h : Fresh w1 w2 b) => hkp.block b h.2 (by have := h.1; omega)) (fun b h => ⟨by have := h.1; omega, by have := h.2; omega⟩) _ _ HNV.out
  ·have HH := lh hh
   clear hh
   by_cases h4 : T.op = 4
   · -- the name itself
    have hb0 := cell_box (j := 0) HY0.out; have hb1 := cell_box (j := 1) HY0.out; have hb2 := cell_box (j := 2) HY0.out; have hb3 := cell_box (j := 3) HY0.out; have hb4 := cell_box (j := 4) HY0.out; have hb5 := cell_box (j := 5) HY0.out
    have hcp := copyOf_any by' _ w1 (TmAt.keep HBW1.out HBW1.out.size _ _ HBY.out) hlb
    have HCP := lh hcp
    clear hcp
    go_wp2_with fail
    refine HCP.out.mono ?_
    rintro e w2 ⟨⟨nv, rfl, hnv⟩, hbb⟩
    obtain ⟨o2, n2, t2, ka2, kn2, kc2, pa2, pn2, pc2, rfl⟩ := TmIn.shape hnv
    have hs2 := hbb.size
    have y2 := bget' hbb HY2.out
    obtain ⟨d0, d1, d2, d3, d4⟩ := cells5 y2
    have f2 := free_box y2
    have HNV := lh hnv; have HB2 := lh hbb
    clear hnv hbb y2 HCP c0 c1 c2 c3 c4 hb0 hb1 hb2 hb3 hb4 hb5
    go_wp2
    have hkp := kept5 w2 (w.heap.size + 1 + 1) (.int .i64 o2) (.int .i64 n2) (.string t2) (.slice ka2 kn2 kc2) (.slice pa2 pn2 pc2)
    have hsz := hkp.size
    refine bodyPost_ret (v := .agg #[.int .i64 o2, .int .i64 n2, .string t2, .slice ka2 kn2 kc2, .slice pa2 pn2 pc2]) (by simp [results, Tryz.results108, go_sem, d0, d1, d2, d3, d4]) rfl ⟨⟨_, rfl, ?_⟩, (HBW1.out.trans (HB2.out.mono HBW1.out.size)).trans (hkp.below (by omega) (by rintro b rfl; omega))⟩
    rw [subF_name HH.out h4]
    exact TmIn.keep (fun b (h : Fresh w1 w2 b) => hkp.block b h.2 (by have := h.1; omega)) (fun b h => ⟨by have := h.1; omega, by have := h.2; omega⟩) _ _ HNV.out
   · -- a node
    have hsf := subF_node (by' := by') (f := f) HH.out h4
    have HSF := lh hsf
    clear hsf
    have hb4 : (T.op == 4) = false := by simpa using h4
    have hstd := HSUB.out.stand
    have hbnk := HSUB.out.bndK
    simp only [Bool.not_true]
    go_upto_region 5 with fail
    refine reg108 (Bx := w.heap.size) (Bt := w.heap.size + 1) rfl rfl rfl (fun _ _ _ _ _ h => h) HY0.out HY1.out hnm (HFV.out.mono HBW1.out.size fun b o hlt hr => StrsAt.keep HBW1.out _ _ _ hlt hr) (TmAt.keep HBW1.out HBW1.out.size _ _ HT.out) HSUB.out.h HSUB.out.ren.ok HSUB.out.ren.len (okS_top HSUB.out.ren.sh) (by omega) (by omega) ?_
    intro a1 wb hE
    obtain ⟨q, bs, pa', pc', cs, g1, g2, g3, g4, g5, hq, hqU, hbsU, hne, hcs, hts, hpv, hscs, hbc⟩ := hE
    obtain ⟨ts, dsf⟩ := a1
    have e5 : ts.getD 5 undef = .pointer (some ⟨q, 0, none⟩) := getD_of g4
    have e6 : ts.getD 6 undef = .slice (some ⟨bs, 0, none⟩) T.kids.length T.kids.length := getD_of g5
    have hcan := tmps_canon _ ts ds108 (by rw [show ts.size = 70 from g1]; rfl) g3
    simp only [ds108, List.foldl_cons, List.foldl_nil, e5, e6] at hcan
    generalize ts.getD 26 undef = u26 at hcan
    generalize ts.getD 27 undef = u27 at hcan
    generalize ts.getD 28 undef = u28 at hcan
    generalize ts.getD 29 undef = u29 at hcan
    generalize ts.getD 30 undef = u30 at hcan
    generalize ts.getD 25 undef = u25 at hcan
    generalize ts.getD 31 undef = u31 at hcan
    generalize ts.getD 32 undef = u32 at hcan
    simp only [List.setIfInBounds_toArray, List.set_cons_zero, List.set_cons_succ] at hcan
    clear g1 g3 g4 g5 e5 e6
    subst hcan
    simp only at g2
    subst g2
    have hszc := hbc.size
    have hbwc := HBW1.out.trans (hbc.mono HBW1.out.size)
    have HQ := lh hq; have HCS := lh hcs; have HTS := lh hts; have HPV := lh hpv; have HSCS := lh hscs; have HBWC := lh hbwc
    have y0 := bget' hbc HY0.out
    have y1 := bget' hbc HY1.out
    have HZ0 := lh y0; have HZ1 := lh y1; have HZ2 := lh (bget' hbc HY2.out)
    clear c0 c1 c2 c3 c4
    obtain ⟨c0, c1, c2, c3, c4⟩ := cells5 y1
    have hqlt := lt_of_block hq
    have hblt := lt_of_block hcs
    clear hq hcs hts hpv hscs hbwc y0 y1 hbc
    go_wp2
    clear hb4
    go_loopw [36] (fun i wr => ∃ (k : Nat) (xs : List Value) (vo : Value), k ≤ T.kids.length ∧ i = .int .i64 k ∧ Hid (wr.heap[q]? = some (.cells #[.int .i64 T.op, .int .i64 T.n, .string (rebText T (scs108 (freeL by') nm T)), vo, .slice pa' (rebPats T (scs108 (freeL by') nm T)).length pc'] 32 (0, 0))) ∧ Hid (wr.ownsRow wb.heap.size 32 5 vo k xs) ∧
     Hid (FlatM (Own wb wr vo) wr ((List.range k).map (kidF nm by' f T)) xs) ∧ Hid (Kept (fun b => b = q) wb wr)) (fun i _ => T.kids.length - (intOf i).toNat)
    case atStart => exact ⟨0, [], .slice none 0 0, Nat.zero_le _, rfl, HQ.out, World.ownsRow_nil _ _ _ _, rfl, Kept.refl _ _⟩
    case round =>
     clear c0 c1 c2 c3 c4
     obtain ⟨k, xs, vo, hk, rfl, HBXK, HROW, HFL, HKK⟩ := hrel
     have hsr := HKK.out.size
     have hkl := ((okN_eq T).1 HSUB.out.ren.ok).2.2.1
     by_cases hlt : k < T.kids.length
     ·obtain ⟨b, o, rfl, hbn, hss⟩ : ∃ b o, a = some ⟨b, o, none⟩ ∧ b < w.heap.size ∧ TmsAt w.heap.size w T.kids b o := by
       rcases HK.out with ⟨h, -⟩ | ⟨b, o, cap2, h1, h2, h3, h4, h5⟩
       ·omega
       ·cases h1; exact ⟨b, o, rfl, h4, h5⟩
      obtain ⟨q0, q1, q2, q3, q4, g0, g1, g2, g3, g4, ht⟩ := TmsAt.get T.kids b o hss k hlt
      have hbV : Below w.heap.size w wr := HBWC.out.trans (HKK.out.below HBWC.out.size (by rintro b rfl; omega))
      have r0 := (hbV.cell (p := ⟨b, _, none⟩) hbn).trans g0
      have r1 := (hbV.cell (p := ⟨b, _, none⟩) hbn).trans g1
      have r2 := (hbV.cell (p := ⟨b, _, none⟩) hbn).trans g2
      have r3 := (hbV.cell (p := ⟨b, _, none⟩) hbn).trans g3
      have r4 := (hbV.cell (p := ⟨b, _, none⟩) hbn).trans g4
      clear g0 g1 g2 g3 g4 hss
      obtain ⟨oo, nn, tt, kka, kkn, kkc, kpa, kpn, kpc, rfl, rfl, rfl, rfl, rfl⟩ := ht.shape
      have HBV := lh hbV; have HTP := lh ht
      clear hbV ht
      go_upto_region 9 with fail
      have hBW1 : Below wr.heap.size wr (wr.alloc (.cells #[.int .i64 oo, .int .i64 nn, .string tt, .slice kka kkn kkc, .slice kpa kpn kpc] 32)) := (Below.refl _ wr).alloc (Nat.le_refl _) _
      have hX2 := heap_alloc_new wr (.cells #[.int .i64 oo, .int .i64 nn, .string tt, .slice kka kkn kkc, .slice kpa kpn kpc] 32)
      have hsU : (wr.alloc (.cells #[.int .i64 oo, .int .i64 nn, .string tt, .slice kka kkn kkc, .slice kpa kpn kpc] 32)).heap.size = wr.heap.size + 1 := by simp
      generalize (wr.alloc (.cells #[.int .i64 oo, .int .i64 nn, .string tt, .slice kka kkn kkc, .slice kpa kpn kpc] 32)) = U at *
      have hlsc : (scs108 (freeL by') nm T).length = T.kids.length := scp_len _ _ _ _ _
      obtain ⟨vq, hq1, hq2⟩ := HSCS.out k (by omega)
      obtain ⟨vqp, rfl⟩ := hq2.ptr
      rw [show (scs108 (freeL by') nm T)[k]'(by omega) = (scs108 (freeL by') nm T).getD k [] by rw [List.getD_eq_getElem?_getD, List.getElem?_eq_getElem (by omega)]; rfl] at hq2
      generalize hsck : (scs108 (freeL by') nm T).getD k [] = sck at hq2
      have hcw : ∀ b, (w1.heap.size ≤ b ∧ b < wb.heap.size ∧ b ≠ q) → wr.heap[b]? = wb.heap[b]? := fun b h => HKK.out.block b h.2.1 h.2.2
      have hbU : Below wr.heap.size wr U.drew := hBW1.trans (below_drew _ _)
      have hscU : ScIn (fun b => w1.heap.size ≤ b ∧ b < wb.heap.size ∧ b ≠ q) U.drew sck (.pointer vqp) := ScIn.keep (fun b h => ⟨h, (hbU.block b (by omega)).trans (hcw b h)⟩) _ _ hq2
      have hren := renamed_any (chs_same U.heap.size) T.kids[k] sck (0, fun _ => false) w.heap.size (fun b => w1.heap.size ≤ b ∧ b < wb.heap.size ∧ b ≠ q) (.agg #[.int .i64 oo, .int .i64 nn, .string tt, .slice kka kkn kkc, .slice kpa kpn kpc]) (.pointer vqp) U.drew
       (TmAt.keep (hbU.mono (by have := HBV.out.size; omega)) (Nat.le_refl _) _ _ (TmAt.keep HBV.out (Nat.le_refl _) _ _ HTP.out)) (HSUB.out.kid k hlt).ren (fun b h => h.elim) (Nat.le_refl _) (by have := HBV.out.size; show w.heap.size ≤ U.heap.size; omega) (fun b h => ⟨by show b < U.heap.size; omega, id⟩) hscU (by have := (HSUB.out.kid k hlt).cntM; show 0 + _ ≤ _; omega) trivial
      have hcs3 : U.heap[bs]? = some (.cells cs 173 (0, 0)) := bget' hBW1 (HKK.out.get HCS.out hne)
      have HSCU := lh hscU; have HSCK := lh hsck; have HCS3 := lh hcs3; have HBW := lh hBW1; have HSU := lh hsU; have HQ1 := lh hq1
      refine reg108b (k := k) (T := (renM chSame (0, fun _ => false) sck T.kids[k]).1) rfl rfl rfl rfl (fun _ _ _ _ _ h => h) hX2 hcs3 hq1 hlt (hren.mono (by rintro e w' ⟨h1, -, h3⟩; exact ⟨h1, h3.below (Nat.le_refl _) (fun b h => h.elim)⟩)) ?_
      intro u41 u42 u43 u44 u45 u46 c0 c1 c2 c3 c4 wk hnew hbk
      obtain ⟨o2, n2, t2, ka2, kn2, kc2, pa2, pn2, pc2, rfl, rfl, rfl, rfl, rfl⟩ := (TmIn.to (n₀ := wk.heap.size) (fun b h => h.2) _ _ hnew).shape
      have hszk := hbk.size
      have hkk := kept5 wk wr.heap.size (.int .i64 o2) (.int .i64 n2) (.string t2) (.slice ka2 kn2 kc2) (.slice pa2 pn2 pc2)
      have hbxk := box_set5 (bget' hbk hX2) (.int .i64 o2) (.int .i64 n2) (.string t2) (.slice ka2 kn2 kc2) (.slice pa2 pn2 pc2)
      clear hren hX2 hcs3 hq1 hq2 hscU hbU hcw hlsc hsck hsU r0 r1 r2 r3 r4
      have hsU := HSU.out
      generalize (((((wk.setCell ⟨wr.heap.size, 0, none⟩ (.int .i64 o2)).setCell ⟨wr.heap.size, 1, none⟩ (.int .i64 n2)).setCell ⟨wr.heap.size, 2, none⟩ (.string t2)).setCell ⟨wr.heap.size, 3, none⟩ (.slice ka2 kn2 kc2)).setCell ⟨wr.heap.size, 4, none⟩ (.slice pa2 pn2 pc2)) = X at *
      have hszx := hkk.size
      have hbX : Below wr.heap.size wr X := (hBW1.trans (hbk.mono (by omega))).trans (hkk.below (by omega) (by rintro b rfl; exact Nat.le_refl _))
      have hnX : TmIn (fun b => wr.heap.size < b ∧ b < X.heap.size) X (renM chSame (0, fun _ => false) sck T.kids[k]).1 (.agg #[.int .i64 o2, .int .i64 n2, .string t2, .slice ka2 kn2 kc2, .slice pa2 pn2 pc2]) :=
       TmIn.keep (fun b (h : Fresh U wk b) => hkk.block b h.2 (by have := h.1; omega)) (fun b h => ⟨by have := h.1; omega, by have := h.2; omega⟩) _ _ hnew
      have hz0X := bget (hbX) (HKK.out.get (bget' (Below.refl _ _) HZ0.out) (fun h => by have := lt_of_block HY0.out; omega)) (by have := lt_of_block HZ0.out; omega)
      have hcsX := bget hbX (HKK.out.get HCS.out hne) (by omega)
      have hfdX := find_any (fun b => w1.heap.size ≤ b ∧ b < wb.heap.size ∧ b ≠ q) sck nm (.pointer vqp) X.drew (ScIn.keep (fun b h => ⟨h, by
       have e1 : U.drew.heap[b]? = wr.heap[b]? := HBW.out.block b (by omega)
       exact ((hbX.block b (by omega)) : X.heap[b]? = _).trans e1.symm⟩) _ _ HSCU.out)
      have HBXX := lh hbxk; have HNX := lh hnX; have HBX' := lh hbX; have HZX := lh hz0X; have HSX := lh hszx
      clear hnew hbk hkk hbX hnX hBW1 hbxk
      simp only [List.setIfInBounds_toArray, List.set_cons_zero, List.set_cons_succ]
      go_upto_region 10 with fail
      refine reg108c (Bx := w.heap.size) (k := k) rfl rfl rfl rfl (fun _ _ _ _ _ h => h) hz0X hcsX HQ1.out hlt hfdX ?_
      intro u48 u49 u50 u51 u52 u53 u54 u47 u55 u56 u9'
      clear hz0X hcsX hfdX
      simp only [List.setIfInBounds_toArray, List.set_cons_zero, List.set_cons_succ]
      have hbY : Below wr.heap.size wr X.drew := HBX'.out.trans (below_drew _ _)
      have hbxY : X.drew.heap[wr.heap.size]? = some (.cells #[.int .i64 o2, .int .i64 n2, .string t2, .slice ka2 kn2 kc2, .slice pa2 pn2 pc2] 32 (0, 0)) := HBXX.out
      have hnY : TmIn (fun b => wr.heap.size < b ∧ b < X.drew.heap.size) X.drew (renM chSame (0, fun _ => false) sck T.kids[k]).1 (.agg #[.int .i64 o2, .int .i64 n2, .string t2, .slice ka2 kn2 kc2, .slice pa2 pn2 pc2]) := TmIn.keep (B := fun b => wr.heap.size < b ∧ b < X.heap.size) (w := X) (w' := X.drew) (fun _ _ => rfl) (fun _ h => h) _ _ HNX.out
      have hzY : X.drew.heap[w.heap.size]? = _ := HZX.out
      generalize X.drew = Y at *
      have hkid : T.kids.getD k default = T.kids[k] := by rw [List.getD_eq_getElem?_getD, List.getElem?_eq_getElem hlt]; rfl
      have hkf : kidF nm by' f T k = if (findS sck nm).isSome then (renM chSame (0, fun _ => false) sck T.kids[k]).1 else subF nm by' f (renM chSame (0, fun _ => false) sck T.kids[k]).1 := by
       unfold kidF; rw [hkid, HSCK.out]
      have HKF := lh hkf; have HBY' := lh hbY; have HBXY := lh hbxY; have HNY := lh hnY; have HZY := lh hzY
      clear hkf hkid hbY hbxY hnY hzY
      generalize hbs : (findS sck nm).isSome = bb at *
      have HBB := lh hbs
      clear hbs
      go_upto_if 58 with fail
      go_cut [] from 57 to 61 (fun wx => ∃ (o3 n3 : Int) (t3 : ByteArray) (ka3 : Option Addr) (kn3 kc3 : Nat) (pa3 : Option Addr) (pn3 pc3 : Nat), Hid (wx.heap[wr.heap.size]? = some (.cells #[.int .i64 o3, .int .i64 n3, .string t3, .slice ka3 kn3 kc3, .slice pa3 pn3 pc3] 32 (0, 0))) ∧ Hid (TmIn (fun b => wr.heap.size < b ∧ b < wx.heap.size) wx (kidF nm by' f T k) (.agg #[.int .i64 o3, .int .i64 n3, .string t3, .slice ka3 kn3 kc3, .slice pa3 pn3 pc3])) ∧ Hid (Below wr.heap.size wr wx))
      case first =>
       cases bb
       · -- not bound: it is gone into
        have hkf := HKF.out
        rw [if_neg (by simp)] at hkf
        have hht : heightM (renM chSame (0, fun _ => false) sck T.kids[k]).1 ≤ f := by
         have h1 := (ren_keeps chSame T.kids[k] (0, fun _ => false) sck (HSUB.out.kid k hlt).ren.ok (HSUB.out.kid k hlt).ren.sh (HSUB.out.kid k hlt).nb).2.1
         have h2 := heightsM_get T.kids k hlt
         have h3 := HF.out
         rw [height_eq] at h3
         omega
        have hbwY : Below w.heap.size w Y := HBV.out.trans (HBY'.out.mono (by have := HBV.out.size; omega))
        have hin := HIH.out (renM chSame (0, fun _ => false) sck T.kids[k]).1 (.agg #[.int .i64 o2, .int .i64 n2, .string t2, .slice ka2 kn2 kc2, .slice pa2 pn2 pc2]) bo bn bt bk bkn bkc bp bpn bpc (.slice fa (freeL by').length fcap) Y hht (TmIn.to (fun b h => h.2) _ _ HNY.out) (TmAt.keep hbwY hbwY.size _ _ HBY.out)
         (HFV.out.mono hbwY.size fun b o hlt hr => StrsAt.keep hbwY _ _ _ hlt hr) (HSUB.out.kid k hlt).renM
        have HKF2 := lh hkf; have HIN := lh hin
        clear hkf hin hht hbwY
        obtain ⟨x0, x1, x2, x3, x4⟩ := cells5 HBXY.out
        have z0 := cell_box (j := 0) HZY.out; have z1 := cell_box (j := 1) HZY.out; have z2 := cell_box (j := 2) HZY.out; have z3 := cell_box (j := 3) HZY.out; have z4 := cell_box (j := 4) HZY.out; have z5 := cell_box (j := 5) HZY.out; have z6 := cell_box (j := 6) HZY.out
        go_wp2_with fail
        refine HIN.out.mono ?_
        rintro e w5 ⟨⟨nv, rfl, hnv⟩, hb5⟩
        obtain ⟨o3, n3, t3, ka3, kn3, kc3, pa3, pn3, pc3, rfl⟩ := TmIn.shape hnv
        have hbx5 := bget' hb5 HBXY.out
        have hs5 := hb5.size
        have hsY := HBY'.out.size
        have hkbY := lt_of_block HBXY.out
        clear x0 x1 x2 x3 x4 z0 z1 z2 z3 z4 z5 z6 HIN
        obtain ⟨x0, x1, x2, x3, x4⟩ := cells5 hbx5
        have xf := free_box hbx5
        have HNV := lh hnv; have HB5 := lh hb5; have HBX5 := lh hbx5
        clear hnv hb5 hbx5
        go_wp2
        go_meet
        case rel =>
         have hk5 := kept5 w5 wr.heap.size (.int .i64 o3) (.int .i64 n3) (.string t3) (.slice ka3 kn3 kc3) (.slice pa3 pn3 pc3)
         have hs6 := hk5.size
         refine ⟨o3, n3, t3, ka3, kn3, kc3, pa3, pn3, pc3, box_set5 HBX5.out _ _ _ _ _, ?_, (HBY'.out.trans (HB5.out.mono hsY)).trans (hk5.below (by omega) (by rintro b rfl; exact Nat.le_refl _))⟩
         rw [HKF2.out]
         exact TmIn.keep (fun b (h : Fresh Y w5 b) => hk5.block b h.2 (by have := h.1; omega)) (fun b h => ⟨by have := h.1; omega, by have := h.2; omega⟩) _ _ HNV.out
       ·have hkf := HKF.out
        rw [if_pos rfl] at hkf
        have HKF2 := lh hkf
        clear hkf
        go_wp2
        go_meet
        case rel => exact ⟨o2, n2, t2, ka2, kn2, kc2, pa2, pn2, pc2, HBXY.out, by unfold Hid; rw [HKF2.out]; exact HNY.out, HBY'.out⟩
      case rest =>
       obtain ⟨o3, n3, t3, ka3, kn3, kc3, pa3, pn3, pc3, HBXC, HNC, HBC⟩ := hcut
       have hszc2 := HBC.out.size
       obtain ⟨x0, x1, x2, x3, x4⟩ := cells5 HBXC.out
       have hkbC := lt_of_block HBXC.out
       have hqC := bget HBC.out HBXK.out (by omega)
       have hqc := cell_box (j := 3) hqC
       have hqf := free_box hqC 3
       obtain ⟨i0, hi, hz0, hz1, hz2⟩ := info_parts Tz.info32
       have hrowC : wc.ownsRow wb.heap.size 32 5 vo k xs := ownsRow_of_block HROW.out fun g hg => HBC.out.block g (HROW.out.lt g hg).2
       have HRC := lh hrowC; have HRA := lh (hrowC.alloc (.cells #[.int .i64 o3, .int .i64 n3, .string t3, .slice ka3 kn3 kc3, .slice pa3 pn3 pc3] 32)); have HQC := lh hqC
       have HNW := lh (cells_new wc [.int .i64 o3, .int .i64 n3, .string t3, .slice ka3 kn3 kc3, .slice pa3 pn3 pc3] 32)
       have HONE := lh (show ∀ u ∈ [Value.int .i64 o3, .int .i64 n3, .string t3, .slice ka3 kn3 kc3, .slice pa3 pn3 pc3], u.oneCell' = true by intro u hu; simp at hu; rcases hu with rfl | rfl | rfl | rfl | rfl <;> rfl)
       have HOV := lh (show ∀ kk, vo.ownBlock = some kk → wb.heap.size ≤ kk ∧ kk < wr.heap.size from fun kk h => HROW.out.lt kk h)
       clear hrowC hqC
       go_wp2_with (at_builtin; refine wpList_append_own_at _ rfl _ _ 29 rfl wb.heap.size 32 i0 _ 5 80 Tryz.underlying29 hi hz0 hz1 hz2 rfl (by decide) vo k xs rfl HRA.out ⟨wc.heap.size, 0, none⟩ 1 1 [.int .i64 o3, .int .i64 n3, .string t3, .slice ka3 kn3 kc3, .slice pa3 pn3 pc3] rfl rfl HNW.out HONE.out (by unfold maxLen; omega) (by omega) (by simp <;> omega) ?_; intro v' w' hown' hgr hnil hat; obtain ⟨va, vc, rfl⟩ := slice_of_row hown'; have hq9 := one_grown hgr HQC.out (lt_of_block HQC.out) HRC.out (by omega); have hqc' := cell_box (j := 3) hq9; have hqf' := free_box hq9 3; have HOWN := lh hown'; have HGR := lh hgr; have HAT := lh hat; have HQ9 := lh hq9; clear hown' hgr hnil hat hq9)
       go_roundw
       case rel =>
        have hst := own_stepM (S := fun b => b = q) HKK.out (.of_below HBC.out) (fun b h => by omega) HOV.out HGR.out HAT.out
        obtain ⟨s1, s2, s3, s4⟩ := hst
        have hks : Kept (fun b => b = q) w' (w'.setCell ⟨q, 3, none⟩ (.slice va (k + 1) vc)) := kept1 _ _ _ _
        refine ⟨k + 1, _, .slice va (k + 1) vc, by omega, by go_num, box_setCell HQ9.out 3 _, ownsRow_setCell_below HOWN.out (by simp <;> omega) _, ?_, s4.trans hks⟩
        unfold Hid
        rw [List.range_succ, List.map_append, List.map_cons, List.map_nil]
        have hge : ∀ b, Own wb w' (.slice va (k + 1) vc) b → (w'.setCell ⟨q, 3, none⟩ (.slice va (k + 1) vc)).heap[b]? = w'.heap[b]? ∧ Own wb (w'.setCell ⟨q, 3, none⟩ (.slice va (k + 1) vc)) (.slice va (k + 1) vc) b := fun b h => ⟨hks.block b h.2.1 (by have := h.1; omega), h.keepSet rfl _ _⟩
        refine FlatM.keep (fun b h => (hge b h).1) (fun b h => (hge b h).2) _ _ ?_
        exact FlatM.snoc (TmIn.keep (fun b h => (s3 b (by have := h.1; omega) h.2).1) (fun b h => (s3 b (by have := h.1; omega) h.2).2) _ _ HNC.out) _ _ (FlatM.keep s1 s2 _ _ HFL.out)
       case measure => simp [intOf]; omega
     ·obtain rfl : k = T.kids.length := by omega
      obtain ⟨va, vc, rfl⟩ := slice_of_row HROW.out
      have hsY2 := lt_of_block HZ2.out
      have y2 := HKK.out.get HZ2.out (by have := lt_of_block HY2.out; omega)
      obtain ⟨d0, d1, d2, d3, d4⟩ := cells5 y2
      obtain ⟨e0, e1, e2, e3, e4⟩ := cells5 HBXK.out
      have f2 := free_box y2
      clear y2
      go_wp2
      have hkp := kept5 wr (w.heap.size + 1 + 1) (.int .i64 T.op) (.int .i64 T.n) (.string (rebText T (scs108 (freeL by') nm T))) (.slice va T.kids.length vc) (.slice pa' (rebPats T (scs108 (freeL by') nm T)).length pc')
      have hsz := hkp.size
      refine bodyPost_ret (v := .agg #[.int .i64 T.op, .int .i64 T.n, .string (rebText T (scs108 (freeL by') nm T)), .slice va T.kids.length vc, .slice pa' (rebPats T (scs108 (freeL by') nm T)).length pc']) (by simp [results, Tryz.results108, go_sem, d0, d1, d2, d3, d4]) rfl ?_
      revert hkp hsz
      generalize (((((wr.setCell ⟨w.heap.size + 1 + 1, 0, none⟩ (.int .i64 T.op)).setCell ⟨w.heap.size + 1 + 1, 1, none⟩ (.int .i64 T.n)).setCell ⟨w.heap.size + 1 + 1, 2, none⟩ (.string (rebText T (scs108 (freeL by') nm T)))).setCell ⟨w.heap.size + 1 + 1, 3, none⟩ (.slice va T.kids.length vc)).setCell ⟨w.heap.size + 1 + 1, 4, none⟩ (.slice pa' (rebPats T (scs108 (freeL by') nm T)).length pc')) = Vf
      intro hkp hsz
      have hw1 := lt_of_block HY2.out
      have hwb := HBWC.out.size
      refine ⟨⟨_, rfl, ?_⟩, (HBWC.out.trans (HKK.out.below hwb (by rintro b rfl; omega))).trans (hkp.below (by omega) (by rintro b rfl; omega))⟩
      rw [HSF.out]
      unfold TmIn
      have hrow := HROW.out
      refine ⟨_, _, rfl, HTS.out, ?_, ?_⟩
      ·have h1 : SlIn (fun b => wb.heap.size ≤ b ∧ b < wr.heap.size) (.slice va T.kids.length vc) T.kids.length (fun b o => TmsIn (fun b => wb.heap.size ≤ b ∧ b < wr.heap.size) wr ((List.range T.kids.length).map (kidF nm by' f T)) b o) :=
        owned_sl hrow (fun b h => hrow.lt b h) fun b hb hc => FlatM.tmsIn _ _ _ (FlatM.keep (fun _ _ => rfl) (fun b h => ⟨h.1, h.2.1⟩) _ _ HFL.out) hc
       rw [List.length_map, List.length_range]
       exact h1.mono (fun b h => ⟨by omega, by omega⟩) fun b o h hr => TmsIn.keep (fun b h => hkp.block b h.2 (by omega)) (fun b h => ⟨by omega, by omega⟩) _ _ _ h hr
      ·have hfr : ∀ b, (w1.heap.size ≤ b ∧ b < wb.heap.size ∧ b ≠ q) → Fresh w Vf b ∧ Vf.heap[b]? = wb.heap[b]? := fun b h => ⟨⟨by omega, by omega⟩, (hkp.block b (by omega) (by omega)).trans (HKK.out.block b h.2.1 h.2.2)⟩
       exact HPV.out.mono (fun b h => (hfr b h).1) fun b o h hr => PtsIn.keep (fun b h => (hfr b h).2) (fun b h => (hfr b h).1) _ _ _ h hr
theorem goM_depth : ∀ (xs : List (Int × Tm)) (n : Nat), goM xs n = true → ∀ x ∈ xs, x.1 ≤ 14
 | [], _, _, x, hx => by cases hx
 | y :: xs, n, h, x, hx => by
  unfold goM at h
  simp only [Bool.and_eq_true, decide_eq_true_eq] at h
  rcases List.mem_cons.1 hx with rfl | hx
  ·exact h.1.1.2
  ·exact goM_depth xs _ h.2 x hx
mutual
theorem height_of : ∀ (T : Tm) (d : Int), (∀ x ∈ partsM d T, x.1 ≤ 14) → d + heightM T ≤ 15
 | .mk op n text kids pats, d, h => by
  have h0 := h (d, .mk op n text kids pats) (by unfold partsM; exact List.mem_cons_self)
  have h1 := heights_of kids (d + 1) (by simp only at h0; omega) fun x hx => h x (by unfold partsM; exact List.mem_cons_of_mem _ hx)
  unfold heightM
  omega
theorem heights_of : ∀ (ts : List Tm) (d : Int), d ≤ 15 → (∀ x ∈ partssM d ts, x.1 ≤ 14) → d + heightsM ts ≤ 15
 | [], d, h, _ => by unfold heightsM; omega
 | t :: ts, d, h, hx => by
  have h1 := height_of t d fun x hx' => hx x (by unfold partssM; exact List.mem_append_left _ hx')
  have h2 := heights_of ts d h fun x hx' => hx x (by unfold partssM; exact List.mem_append_right _ hx')
  unfold heightsM
  omega
end
theorem termB_height {T : Tm} (h : termB T = true) : heightM T ≤ 14 := by
 have := height_of T 1 (goM_depth _ 0 h)
 omega
mutual
theorem okB_of : ∀ (T : Tm) (d : Int), (∀ x ∈ partsM d T, x.2.fits = true) → okB T
 | .mk op n text kids pats, d, hf => by
  have h0 := hf (d, .mk op n text kids pats) (by unfold partsM; exact List.mem_cons_self)
  have h1 := okBs_of kids (d + 1) fun x hx => hf x (by unfold partsM; exact List.mem_cons_of_mem _ hx)
  unfold okB
  exact ⟨(fits_shape h0).1, fits_bound h0, h1⟩
theorem okBs_of : ∀ (ts : List Tm) (d : Int), (∀ x ∈ partssM d ts, x.2.fits = true) → okBs ts
 | [], _, _ => trivial
 | t :: ts, d, hf => by
  unfold okBs
  exact ⟨okB_of t d fun x hx => hf x (by unfold partssM; exact List.mem_append_left _ hx), okBs_of ts d fun x hx => hf x (by unfold partssM; exact List.mem_append_right _ hx)⟩
end
theorem termB_sub {T : Tm} (h : termB T = true) (hf : Fit T) : Sub T := by
 refine ⟨termB_ren h hf, by have := termB_height h; omega, okB_of T 1 (goM_all _ 0 h), ?_⟩
 have h1 := goM_len _ 0 h (by omega)
 rw [parts_cnt] at h1
 omega
theorem heightsP_le : ∀ {ps : List Pt} {n : Nat}, (∀ p ∈ ps, heightP p ≤ n) → heightsP ps ≤ n
 | [], _, _ => Nat.zero_le _
 | p :: ps, n, h => by unfold heightsP; exact Nat.max_le.2 ⟨h p List.mem_cons_self, heightsP_le fun q hq => h q (List.mem_cons_of_mem _ hq)⟩
theorem heightsM_le : ∀ {ts : List Tm} {n : Nat}, (∀ t ∈ ts, heightM t ≤ n) → heightsM ts ≤ n
 | [], _, _ => Nat.zero_le _
 | t :: ts, n, h => by unfold heightsM; exact Nat.max_le.2 ⟨h t List.mem_cons_self, heightsM_le fun q hq => h q (List.mem_cons_of_mem _ hq)⟩
theorem oksM_all : ∀ {ts : List Tm}, (∀ t ∈ ts, okM t) → oksM ts
 | [], _ => trivial
 | t :: ts, h => by unfold oksM; exact ⟨h t List.mem_cons_self, oksM_all fun q hq => h q (List.mem_cons_of_mem _ hq)⟩
theorem lenssM_all : ∀ {ts : List Tm}, (∀ t ∈ ts, lensM t) → lenssM ts
 | [], _ => trivial
 | t :: ts, h => by unfold lenssM; exact ⟨h t List.mem_cons_self, lenssM_all fun q hq => h q (List.mem_cons_of_mem _ hq)⟩
theorem okM_sub {T : Tm} (h : Sub T) : okM T := by
 have key : ∀ (n : Nat) (T : Tm), heightM T ≤ n → okN T → okM T := by
  intro n
  induction n with
  | zero => intro T hh; rw [height_eq] at hh; omega
  | succ n ih =>
   intro T hh hok
   obtain ⟨h1, h2, h3, h4, h5, h6⟩ := (okN_eq T).1 hok
   rw [height_eq] at hh
   cases T with
   | mk op nn text kids pats =>
    unfold okM
    refine ⟨by have : pats.length ≤ 900000 := h4; omega, heightsP_le fun p hp => (h5 p hp).1, oksM_all fun t ht => ?_⟩
    obtain ⟨k, hk, rfl⟩ := List.getElem_of_mem ht
    exact ih kids[k] (by have := heightsM_get kids k hk; have e : heightsM kids + 1 ≤ n + 1 := hh; omega) (okNs_get h6 k hk)
 exact key _ T (Nat.le_refl _) h.ren.ok
theorem subF_fit (nm : ByteArray) (by' : Tm) (hby : Fit by') : ∀ (f : Nat) (T : Tm), heightM T ≤ f → Sub T → heightM (subF nm by' f T) ≤ heightM T + heightM by' ∧ okM (subF nm by' f T) ∧ lensM (subF nm by' f T)
 | 0, T, h, _ => by rw [height_eq] at h; omega
 | f + 1, T, h, hs => by
  cases hh : hasL (freeL T) nm
  ·rw [subF_free hh]; exact ⟨by omega, okM_sub hs, hs.ren.len⟩
  ·by_cases h4 : T.op = 4
   ·rw [subF_name hh h4]; exact ⟨by omega, hby.ok, hby.len⟩
   ·rw [subF_node hh h4]
    rw [height_eq] at h
    have hkid : ∀ k (hk : k < T.kids.length), heightM (kidF nm by' f T k) ≤ heightM T.kids[k] + heightM by' ∧ okM (kidF nm by' f T k) ∧ lensM (kidF nm by' f T k) := by
     intro k hk
     have hg : T.kids.getD k default = T.kids[k] := by rw [List.getD_eq_getElem?_getD, List.getElem?_eq_getElem hk]; rfl
     have hsk := hs.kid k hk
     have hr : Sub (renM chSame (0, fun _ => false) ((scs108 (freeL by') nm T).getD k []) T.kids[k]).1 := hsk.renM
     have hrh := (ren_keeps chSame T.kids[k] (0, fun _ => false) ((scs108 (freeL by') nm T).getD k []) hsk.ren.ok hsk.ren.sh hsk.nb).2.1
     unfold kidF
     rw [hg]
     split
     ·exact ⟨by omega, okM_sub hr, hr.ren.len⟩
     ·have hk2 := heightsM_get T.kids k hk
      have := subF_fit nm by' hby f _ (by omega) hr
      rw [hrh] at this
      exact this
    have hps := rebPats_lens hs.ren.len (scs108 (freeL by') nm T)
    obtain ⟨k1, k2, k3, k4, k5, k6⟩ := (okN_eq T).1 hs.ren.ok
    have hmem : ∀ t ∈ (List.range T.kids.length).map (kidF nm by' f T), ∃ k, ∃ hk : k < T.kids.length, t = kidF nm by' f T k := fun t ht => by
     obtain ⟨k, hk, rfl⟩ := List.mem_map.1 ht
     exact ⟨k, List.mem_range.1 hk, rfl⟩
    refine ⟨?_, ?_, ?_⟩
    ·have hh2 : heightsM ((List.range T.kids.length).map (kidF nm by' f T)) ≤ heightsM T.kids + heightM by' := heightsM_le fun t ht => by
      obtain ⟨k, hk, rfl⟩ := hmem t ht
      have := (hkid k hk).1
      have := heightsM_get T.kids k hk
      omega
     have e := height_eq T
     have e3 := height_eq (Tm.mk T.op T.n (rebText T (scs108 (freeL by') nm T)) ((List.range T.kids.length).map (kidF nm by' f T)) (rebPats T (scs108 (freeL by') nm T)))
     change _ = heightsM ((List.range T.kids.length).map (kidF nm by' f T)) + 1 at e3
     omega
    ·unfold okM
     exact ⟨hps.1, heightsP_le fun p hp => by obtain ⟨sc, q, hq, rfl⟩ := rebPats_get hp; rw [height_renP]; exact (k5 q hq).1, oksM_all fun t ht => by obtain ⟨k, hk, rfl⟩ := hmem t ht; exact (hkid k hk).2.1⟩
    ·unfold lensM
     exact ⟨by rw [List.length_map, List.length_range]; omega, hps.1, hps.2, lenssM_all fun t ht => by obtain ⟨k, hk, rfl⟩ := hmem t ht; exact (hkid k hk).2.2⟩
attribute [local go_sem] eval_put_same eval_put_ne size_put
theorem kept7 (W : World) (b : Nat) (u0 u1 u2 u3 u4 u5 u6 : Value) : Kept (fun k => k = b) W (((((((W.setCell ⟨b, 0, none⟩ u0).setCell ⟨b, 1, none⟩ u1).setCell ⟨b, 2, none⟩ u2).setCell ⟨b, 3, none⟩ u3).setCell ⟨b, 4, none⟩ u4).setCell ⟨b, 5, none⟩ u5).setCell ⟨b, 6, none⟩ u6) :=
 ((((((kept1 _ b 0 u0).trans (kept1 _ b 1 u1)).trans (kept1 _ b 2 u2)).trans (kept1 _ b 3 u3)).trans (kept1 _ b 4 u4)).trans (kept1 _ b 5 u5)).trans (kept1 _ b 6 u6)
theorem StrsAt.same {w w' : World} {b : Nat} (h : w'.heap[b]? = w.heap[b]?) : ∀ (ss : List ByteArray) (o : Nat), StrsAt w ss b o → StrsAt w' ss b o
 | [], _, _ => trivial
 | _ :: ss, o, ⟨⟨h1, hs⟩, hr⟩ => ⟨⟨by rw [← h1]; simp [World.cell?, h], hs⟩, StrsAt.same h ss _ hr⟩
theorem box_set7 {W : World} {b : Nat} {c0 c1 c2 c3 c4 c5 c6 : Value} {t : TypeId} (h : W.heap[b]? = some (.cells #[c0, c1, c2, c3, c4, c5, c6] t (0, 0))) (u0 u1 u2 u3 u4 u5 u6 : Value) :
  (((((((W.setCell ⟨b, 0, none⟩ u0).setCell ⟨b, 1, none⟩ u1).setCell ⟨b, 2, none⟩ u2).setCell ⟨b, 3, none⟩ u3).setCell ⟨b, 4, none⟩ u4).setCell ⟨b, 5, none⟩ u5).setCell ⟨b, 6, none⟩ u6).heap[b]? = some (.cells #[u0, u1, u2, u3, u4, u5, u6] t (0, 0)) :=
 by
 have h0 : (W.setCell ⟨b, 0, none⟩ u0).heap[b]? = some (.cells #[u0, c1, c2, c3, c4, c5, c6] t (0, 0)) := box_setCell h 0 u0
 have h1 : ((W.setCell ⟨b, 0, none⟩ u0).setCell ⟨b, 1, none⟩ u1).heap[b]? = some (.cells #[u0, u1, c2, c3, c4, c5, c6] t (0, 0)) := box_setCell h0 1 u1
 have h2 : (((W.setCell ⟨b, 0, none⟩ u0).setCell ⟨b, 1, none⟩ u1).setCell ⟨b, 2, none⟩ u2).heap[b]? = some (.cells #[u0, u1, u2, c3, c4, c5, c6] t (0, 0)) := box_setCell h1 2 u2
 have h3 : ((((W.setCell ⟨b, 0, none⟩ u0).setCell ⟨b, 1, none⟩ u1).setCell ⟨b, 2, none⟩ u2).setCell ⟨b, 3, none⟩ u3).heap[b]? = some (.cells #[u0, u1, u2, u3, c4, c5, c6] t (0, 0)) := box_setCell h2 3 u3
 have h4 : (((((W.setCell ⟨b, 0, none⟩ u0).setCell ⟨b, 1, none⟩ u1).setCell ⟨b, 2, none⟩ u2).setCell ⟨b, 3, none⟩ u3).setCell ⟨b, 4, none⟩ u4).heap[b]? = some (.cells #[u0, u1, u2, u3, u4, c5, c6] t (0, 0)) := box_setCell h3 4 u4
 have h5 : ((((((W.setCell ⟨b, 0, none⟩ u0).setCell ⟨b, 1, none⟩ u1).setCell ⟨b, 2, none⟩ u2).setCell ⟨b, 3, none⟩ u3).setCell ⟨b, 4, none⟩ u4).setCell ⟨b, 5, none⟩ u5).heap[b]? = some (.cells #[u0, u1, u2, u3, u4, u5, c6] t (0, 0)) := box_setCell h4 5 u5
 have h6 : (((((((W.setCell ⟨b, 0, none⟩ u0).setCell ⟨b, 1, none⟩ u1).setCell ⟨b, 2, none⟩ u2).setCell ⟨b, 3, none⟩ u3).setCell ⟨b, 4, none⟩ u4).setCell ⟨b, 5, none⟩ u5).setCell ⟨b, 6, none⟩ u6).heap[b]? = some (.cells #[u0, u1, u2, u3, u4, u5, u6] t (0, 0)) := box_setCell h5 6 u6
 exact h6
theorem cells7 {W : World} {b : Nat} {c0 c1 c2 c3 c4 c5 c6 : Value} {t : TypeId} (h : W.heap[b]? = some (.cells #[c0, c1, c2, c3, c4, c5, c6] t (0, 0))) :
  W.cell? ⟨b, 0, none⟩ = some c0 ∧ W.cell? ⟨b, 1, none⟩ = some c1 ∧ W.cell? ⟨b, 2, none⟩ = some c2 ∧ W.cell? ⟨b, 3, none⟩ = some c3 ∧ W.cell? ⟨b, 4, none⟩ = some c4 ∧ W.cell? ⟨b, 5, none⟩ = some c5 ∧ W.cell? ⟨b, 6, none⟩ = some c6 :=
 ⟨cell_box h, cell_box h, cell_box h, cell_box h, cell_box h, cell_box h, cell_box h⟩
def ops49 : Array Oper := #[{ dst := some 23, op := Op.move (Operand.tmp 1), type := 9, pos := "bound.go:161", after := #[], guard := none }, { dst := some 24, op := Op.load 32 (Operand.tmp 5), type := 32, pos := "bound.go:161", after := #[], guard := none }, { dst := some 25, op := Op.load 32 (Operand.tmp 5), type := 32, pos := "bound.go:161", after := #[], guard := none }, { dst := some 26, op := Op.call { callee := Callee.value (Operand.func 105), args := #[Operand.tmp 25], argTypes := #[32] }, type := 22, pos := "bound.go:161", after := #[{ on := 2, ground := Ground.data }], guard := none }, { dst := some 27, op := Op.build 126 #[(0, Operand.tmp 23), (1, Operand.tmp 24), (2, Operand.tmp 26)], type := 126, pos := "bound.go:161", after := #[{ on := 0, ground := Ground.data }, { on := 1, ground := Ground.data }, { on := 3, ground := Ground.data }], guard := none }, { dst := some 8, op := Op.alloc 126, type := 0, pos := "bound.go:161", after := #[], guard := none }, { dst := none, op := Op.store 126 (Operand.tmp 8) (Operand.tmp 27), type := 0, pos := "bound.go:161", after := #[{ on := 5, ground := Ground.data }, { on := 4, ground := Ground.data }, { on := 3, ground := Ground.chain }, { on := 0, ground := Ground.phase }, { on := 1, ground := Ground.phase }, { on := 2, ground := Ground.phase }, { on := 3, ground := Ground.phase }, { on := 4, ground := Ground.phase }, { on := 5, ground := Ground.phase }], guard := none }]
set_option maxHeartbeats 2000000 in
set_option maxRecDepth 100000 in
theorem reg49 {Q : Exit → Act → World → Prop} {a : Act} {U : World} {bb m3 m5 : Nat} {nm : ByteArray} {y0 y1 : Int} {y2 : ByteArray} {y3 y5 : Option Addr} {y4 y6 : Nat} {T : Tm}
  (hsz : a.tmps.size = 34) (h5 : a.tmps[5]'(by omega) = .pointer (some ⟨bb, 0, none⟩)) (h1 : a.tmps[1]'(by omega) = .string nm)
  (hQ : ∀ c (d : Nat) v (a : Act) w, Q (.panic c) (a.put (some d) v) w → Q (.panic c) a w)
  (hq : U.heap[bb]? = some (.cells #[.int .i64 y0, .int .i64 y1, .string y2, .slice y3 m3 y4, .slice y5 m5 y6] 32 (0, 0)))
  (hT : TmAt U.heap.size U T (.agg #[.int .i64 y0, .int .i64 y1, .string y2, .slice y3 m3 y4, .slice y5 m5 y6])) (hok : okN T) (hl : (frees (fun _ => false) T).length ≤ 1000000)
  (hK : ∀ (u23 u24 u25 u26 u27 : Value) (q : Nat) (fa : Option Addr) (fcap : Nat) (w1 : World), Below U.heap.size U w1 → U.heap.size ≤ q → q < w1.heap.size → w1.heap[q]? = some (.cells #[.string nm, .int .i64 y0, .int .i64 y1, .string y2, .slice y3 m3 y4, .slice y5 m5 y6, .slice fa (freeL T).length fcap] 126 (0, 0)) →
   (SlV w1.heap.size (.slice fa (freeL T).length fcap) (freeL T).length fun b o => StrsAt w1 (freeL T) b o) → Q .normal { tmps := ((((((a.tmps.setIfInBounds 23 u23).setIfInBounds 24 u24).setIfInBounds 25 u25).setIfInBounds 26 u26).setIfInBounds 27 u27).setIfInBounds 8 (.pointer (some ⟨q, 0, none⟩))), defers := a.defers } w1) :
  (Code.region 3 ops49 true).wp Tryz.prog Q a U := by
 have hS0 : (U.drew.cell? ⟨bb, 0, none⟩ = some (.int .i64 y0) ∧ U.drew.cell? ⟨bb, 1, none⟩ = some (.int .i64 y1) ∧ U.drew.cell? ⟨bb, 2, none⟩ = some (.string y2) ∧ U.drew.cell? ⟨bb, 3, none⟩ = some (.slice y3 m3 y4) ∧ U.drew.cell? ⟨bb, 4, none⟩ = some (.slice y5 m5 y6)) ∧ Below U.heap.size U U.drew := ⟨cells5 (W := U.drew) hq, below_drew _ _⟩
 have HQ := lh hq; have HT := lh hT; have HOK := lh hok; have HL := lh hl; have HK := lh hK
 clear hq hT hok hl hK
 have hswap : ∀ (t : Array Value) (x y z : Value), ((t.setIfInBounds 8 x).setIfInBounds 26 y).setIfInBounds 27 z = ((t.setIfInBounds 26 y).setIfInBounds 27 z).setIfInBounds 8 x := fun t x y z => by
  rw [Array.setIfInBounds_comm (i := 8) (j := 26) _ _ (by decide), Array.setIfInBounds_comm (i := 8) (j := 27) _ _ (by decide)]
 refine wp_region_z (fun w' => (w'.cell? ⟨bb, 0, none⟩ = some (.int .i64 y0) ∧ w'.cell? ⟨bb, 1, none⟩ = some (.int .i64 y1) ∧ w'.cell? ⟨bb, 2, none⟩ = some (.string y2) ∧ w'.cell? ⟨bb, 3, none⟩ = some (.slice y3 m3 y4) ∧ w'.cell? ⟨bb, 4, none⟩ = some (.slice y5 m5 y6)) ∧ Below U.heap.size U w') 6 (by kernel_rfl) ?_
 refine wpAnyZ_take 0 (oi := { dst := some 23, op := Op.move (Operand.tmp 1), type := 9, pos := "bound.go:161", after := #[], guard := none }) hS0 rfl (by kernel_rfl) (by kernel_rfl) (by kernel_rfl) (fun c a w h => hQ c _ _ a w h) (by kernel_rfl) rfl (by rfl) (by intro w' hSw; go_simp <;> rfl) ?_
 refine wpAnyZ_take 1 (oi := { dst := some 24, op := Op.load 32 (Operand.tmp 5), type := 32, pos := "bound.go:161", after := #[], guard := none }) hS0 rfl (by kernel_rfl) (by kernel_rfl) (by kernel_rfl) (fun c a w h => hQ c _ _ a w h) (by kernel_rfl) rfl (by rfl) (by rintro w' ⟨⟨k0, k1, k2, k3, k4⟩, -⟩; go_simp <;> rfl) ?_
 refine wpAnyZ_take 2 (oi := { dst := some 25, op := Op.load 32 (Operand.tmp 5), type := 32, pos := "bound.go:161", after := #[], guard := none }) hS0 rfl (by kernel_rfl) (by kernel_rfl) (by kernel_rfl) (fun c a w h => hQ c _ _ a w h) (by kernel_rfl) rfl (by rfl) (by rintro w' ⟨⟨k0, k1, k2, k3, k4⟩, -⟩; go_simp <;> rfl) ?_
 refine wpAnyZ_two 3 5 (o := { dst := some 26, op := Op.call { callee := Callee.value (Operand.func 105), args := #[Operand.tmp 25], argTypes := #[32] }, type := 22, pos := "bound.go:161", after := #[{ on := 2, ground := Ground.data }], guard := none }) (o' := { dst := some 8, op := Op.alloc 126, type := 0, pos := "bound.go:161", after := #[], guard := none }) (by kernel_rfl) rfl rfl (fun KK hKK => ?_) (fun KK hKK => ?_)
 ·go_simp
  refine (freeNames_any T _ U.drew (TmAt.keep hS0.2 (hS0.2).size _ _ HT.out) HOK.out HL.out).mono ?_
  rintro e w1 ⟨⟨fv, rfl, hfv⟩, hb1⟩
  obtain ⟨fa, fcap, rfl⟩ := hfv.split
  have hbU : Below U.heap.size U w1 := (hS0.2).trans (hb1.mono (hS0.2).size)
  have hS1 : (w1.cell? ⟨bb, 0, none⟩ = some (.int .i64 y0) ∧ w1.cell? ⟨bb, 1, none⟩ = some (.int .i64 y1) ∧ w1.cell? ⟨bb, 2, none⟩ = some (.string y2) ∧ w1.cell? ⟨bb, 3, none⟩ = some (.slice y3 m3 y4) ∧ w1.cell? ⟨bb, 4, none⟩ = some (.slice y5 m5 y6)) ∧ Below U.heap.size U w1 := ⟨cells5 (bget' hbU HQ.out), hbU⟩
  have HF1 := lh hfv; have hs1 := hb1.size; have hsU := (hS0.2).size; have HB1 := lh hb1
  clear hfv hb1
  refine hKK.out _ _ (fun _ => hS1) ?_
  clear hKK KK
  refine wpAnyZ_take 4 (oi := { dst := some 27, op := Op.build 126 #[(0, Operand.tmp 23), (1, Operand.tmp 24), (2, Operand.tmp 26)], type := 126, pos := "bound.go:161", after := #[{ on := 0, ground := Ground.data }, { on := 1, ground := Ground.data }, { on := 3, ground := Ground.data }], guard := none }) hS1 rfl (by kernel_rfl) (by kernel_rfl) (by kernel_rfl) (fun c a w h => hQ c _ _ a w h) (by kernel_rfl) rfl (by rfl) (by intro w' hSw; clear hSw; go_simp <;> rfl) ?_
  refine wpAnyZ_one 5 (o := { dst := some 8, op := Op.alloc 126, type := 0, pos := "bound.go:161", after := #[], guard := none }) (by kernel_rfl) rfl fun KK hKK => ?_
  go_simp
  have hba : Below U.heap.size U (w1.alloc (.cells #[.string ⟨#[]⟩, .int .i64 0, .int .i64 0, .string ⟨#[]⟩, .slice none 0 0, .slice none 0 0, .slice none 0 0] 126)) := (hS1.2).trans (((Below.refl _ w1).alloc (Nat.le_refl _) _).mono (hS1.2).size)
  have hbl : Below w1.heap.size w1 (w1.alloc (.cells #[.string ⟨#[]⟩, .int .i64 0, .int .i64 0, .string ⟨#[]⟩, .slice none 0 0, .slice none 0 0, .slice none 0 0] 126)) := (Below.refl _ w1).alloc (Nat.le_refl _) _
  have hxa := heap_alloc_new w1 (.cells #[.string ⟨#[]⟩, .int .i64 0, .int .i64 0, .string ⟨#[]⟩, .slice none 0 0, .slice none 0 0, .slice none 0 0] 126)
  have hsa : (w1.alloc (.cells #[.string ⟨#[]⟩, .int .i64 0, .int .i64 0, .string ⟨#[]⟩, .slice none 0 0, .slice none 0 0, .slice none 0 0] 126)).heap.size = w1.heap.size + 1 := by simp
  refine hKK.out _ _ (fun _ => ⟨cells5 (bget' hba HQ.out), hba⟩) ?_
  clear hKK KK
  generalize (w1.alloc (.cells #[.string ⟨#[]⟩, .int .i64 0, .int .i64 0, .string ⟨#[]⟩, .slice none 0 0, .slice none 0 0, .slice none 0 0] 126)) = wa at *
  have hxq := hxa
  obtain ⟨m0, m1, m2, m3', m4, m5', m6⟩ := cells7 hxq
  have mf := free_box hxq
  have HXQ := lh hxq
  clear hxq
  refine wpAnyZ_one 6 (o := { dst := none, op := Op.store 126 (Operand.tmp 8) (Operand.tmp 27), type := 0, pos := "bound.go:161", after := #[{ on := 5, ground := Ground.data }, { on := 4, ground := Ground.data }, { on := 3, ground := Ground.chain }, { on := 0, ground := Ground.phase }, { on := 1, ground := Ground.phase }, { on := 2, ground := Ground.phase }, { on := 3, ground := Ground.phase }, { on := 4, ground := Ground.phase }, { on := 5, ground := Ground.phase }], guard := none }) (by kernel_rfl) rfl fun KK hKK => ?_
  go_simp
  have hks := kept7 wa w1.heap.size (.string nm) (.int .i64 y0) (.int .i64 y1) (.string y2) (.slice y3 m3 y4) (.slice y5 m5 y6) (.slice fa (freeL T).length fcap)
  have hbx := box_set7 HXQ.out (.string nm) (.int .i64 y0) (.int .i64 y1) (.string y2) (.slice y3 m3 y4) (.slice y5 m5 y6) (.slice fa (freeL T).length fcap)
  refine hKK.out _ _ (fun h => absurd rfl h) ?_
  refine wpAnyZ_done (by kernel_rfl) ?_ _
  have hk2 := hks.below (n₀ := w1.heap.size) (by omega) (by rintro b rfl; omega)
  exact HK.out _ _ _ _ _ w1.heap.size fa fcap _ (hba.trans (hk2.mono (by omega))) (by omega) (by have := hk2.size; omega) hbx ((HF1.out.mono (B' := fun b => b < w1.heap.size) (fun b h => h.2) fun b o h hr => StrsAt.keep (hbl.trans hk2) _ _ _ h.2 hr).to (fun b h => by have := hk2.size; omega) fun _ _ h => h)
 ·go_simp
  have hba : Below U.heap.size U (U.alloc (.cells #[.string ⟨#[]⟩, .int .i64 0, .int .i64 0, .string ⟨#[]⟩, .slice none 0 0, .slice none 0 0, .slice none 0 0] 126)).drew := ((Below.refl _ U).alloc (Nat.le_refl _) _).trans (below_drew _ _)
  have hxa : (U.alloc (.cells #[.string ⟨#[]⟩, .int .i64 0, .int .i64 0, .string ⟨#[]⟩, .slice none 0 0, .slice none 0 0, .slice none 0 0] 126)).drew.heap[U.heap.size]? = _ := heap_alloc_new U (.cells #[.string ⟨#[]⟩, .int .i64 0, .int .i64 0, .string ⟨#[]⟩, .slice none 0 0, .slice none 0 0, .slice none 0 0] 126)
  have hsa : (U.alloc (.cells #[.string ⟨#[]⟩, .int .i64 0, .int .i64 0, .string ⟨#[]⟩, .slice none 0 0, .slice none 0 0, .slice none 0 0] 126)).drew.heap.size = U.heap.size + 1 := by simp [World.drew]
  refine hKK.out _ _ (fun _ => ⟨cells5 (bget' hba HQ.out), hba⟩) ?_
  clear hKK KK
  generalize (U.alloc (.cells #[.string ⟨#[]⟩, .int .i64 0, .int .i64 0, .string ⟨#[]⟩, .slice none 0 0, .slice none 0 0, .slice none 0 0] 126)).drew = wa at *
  have HBA := lh hba; have HXA := lh hxa
  clear hba hxa
  refine wpAnyZ_one 3 (o := { dst := some 26, op := Op.call { callee := Callee.value (Operand.func 105), args := #[Operand.tmp 25], argTypes := #[32] }, type := 22, pos := "bound.go:161", after := #[{ on := 2, ground := Ground.data }], guard := none }) (by kernel_rfl) rfl fun KK hKK => ?_
  go_simp
  refine (freeNames_any T _ wa (TmAt.keep HBA.out (HBA.out).size _ _ HT.out) HOK.out HL.out).mono ?_
  rintro e w1 ⟨⟨fv, rfl, hfv⟩, hb1⟩
  obtain ⟨fa, fcap, rfl⟩ := hfv.split
  have hbU : Below U.heap.size U w1 := (HBA.out).trans (hb1.mono (HBA.out).size)
  have hS1 : (w1.cell? ⟨bb, 0, none⟩ = some (.int .i64 y0) ∧ w1.cell? ⟨bb, 1, none⟩ = some (.int .i64 y1) ∧ w1.cell? ⟨bb, 2, none⟩ = some (.string y2) ∧ w1.cell? ⟨bb, 3, none⟩ = some (.slice y3 m3 y4) ∧ w1.cell? ⟨bb, 4, none⟩ = some (.slice y5 m5 y6)) ∧ Below U.heap.size U w1 := ⟨cells5 (bget' hbU HQ.out), hbU⟩
  have HF1 := lh hfv; have hs1 := hb1.size; have hsU := (HBA.out).size; have HB1 := lh hb1
  clear hfv hb1
  refine hKK.out _ _ (fun _ => hS1) ?_
  clear hKK KK
  have hxa := bget' HB1.out HXA.out
  refine wpAnyZ_take 4 (oi := { dst := some 27, op := Op.build 126 #[(0, Operand.tmp 23), (1, Operand.tmp 24), (2, Operand.tmp 26)], type := 126, pos := "bound.go:161", after := #[{ on := 0, ground := Ground.data }, { on := 1, ground := Ground.data }, { on := 3, ground := Ground.data }], guard := none }) hS1 rfl (by kernel_rfl) (by kernel_rfl) (by kernel_rfl) (fun c a w h => hQ c _ _ a w h) (by kernel_rfl) rfl (by rfl) (by intro w' hSw; clear hSw; go_simp <;> rfl) ?_
  have hxq := hxa
  obtain ⟨m0, m1, m2, m3', m4, m5', m6⟩ := cells7 hxq
  have mf := free_box hxq
  have HXQ := lh hxq
  clear hxq
  refine wpAnyZ_one 6 (o := { dst := none, op := Op.store 126 (Operand.tmp 8) (Operand.tmp 27), type := 0, pos := "bound.go:161", after := #[{ on := 5, ground := Ground.data }, { on := 4, ground := Ground.data }, { on := 3, ground := Ground.chain }, { on := 0, ground := Ground.phase }, { on := 1, ground := Ground.phase }, { on := 2, ground := Ground.phase }, { on := 3, ground := Ground.phase }, { on := 4, ground := Ground.phase }, { on := 5, ground := Ground.phase }], guard := none }) (by kernel_rfl) rfl fun KK hKK => ?_
  go_simp
  have hks := kept7 w1 U.heap.size (.string nm) (.int .i64 y0) (.int .i64 y1) (.string y2) (.slice y3 m3 y4) (.slice y5 m5 y6) (.slice fa (freeL T).length fcap)
  have hbx := box_set7 HXQ.out (.string nm) (.int .i64 y0) (.int .i64 y1) (.string y2) (.slice y3 m3 y4) (.slice y5 m5 y6) (.slice fa (freeL T).length fcap)
  refine hKK.out _ _ (fun h => absurd rfl h) ?_
  refine wpAnyZ_done (by kernel_rfl) ?_ _
  have hk2 := hks.below (n₀ := U.heap.size) (by omega) (by rintro b rfl; omega)
  have hsz2 := hks.size
  have hbx1 : Below U.heap.size U _ := hbU.trans hk2
  have hf2 := (HF1.out.mono (B' := fun b => b < w1.heap.size) (fun b h => h.2) fun b o h hr => StrsAt.same (hks.block b h.2 (by have := h.1; omega)) _ _ hr).to (fun b h => Nat.lt_of_lt_of_le h hsz2) fun _ _ h => h
  have hq2 : U.heap.size < w1.heap.size := by omega
  clear m0 m1 m2 m3' m4 m5' m6 mf
  generalize (((((((w1.setCell ⟨U.heap.size, 0, none⟩ (.string nm)).setCell ⟨U.heap.size, 1, none⟩ (.int .i64 y0)).setCell ⟨U.heap.size, 2, none⟩ (.int .i64 y1)).setCell ⟨U.heap.size, 3, none⟩ (.string y2)).setCell ⟨U.heap.size, 4, none⟩ (.slice y3 m3 y4)).setCell ⟨U.heap.size, 5, none⟩ (.slice y5 m5 y6)).setCell ⟨U.heap.size, 6, none⟩ (.slice fa (freeL T).length fcap)) = w2 at *
  exact HK.out _ _ _ _ _ U.heap.size fa fcap w2 hbx1 (Nat.le_refl _) (by omega) hbx hf2
end Go.Proofs.YtjpahjfjpkbcnaaGreat
namespace Go.Proofs.YtjpahjfjpkbcnaaGreat
open Go.Proofs Go.RowKit
def SubstEnd (nm : ByteArray) (by' T : Tm) (w : World) (e : Ending) (w' : World) : Prop :=
 if (termB T && nameB nm && termB by') = true then
  if termB (subF nm by' (heightM T) T) = true then ∃ nv, e = .returned (.tuple #[nv, .int .i64 0]) ∧ TmIn (Fresh w w') w' (subF nm by' (heightM T) T) nv
  else e = .returned (.tuple #[zeroV, .int .i64 3])
 else e = .returned (.tuple #[zeroV, .int .i64 2])
set_option maxHeartbeats 8000000 in
set_option maxRecDepth 100000 in
theorem Subst_any (nm : ByteArray) (by' T : Tm) (v bv : Value) (w : World) (hnm : nm.size ≤ maxLen) (hT : TmAt w.heap.size w T v) (hby : TmAt w.heap.size w by' bv) (hfT : Fit T) (hfb : Fit by') :
  Calls Tryz.prog 49 #[v, .string nm, bv] w fun e w' => SubstEnd nm by' T w e w' ∧ Below w.heap.size w w' := by
 obtain ⟨a, cap, a', cap', rfl, -, -, -⟩ := hT.parts
 obtain ⟨b, bcap, b', bcap', rfl, -, -, -⟩ := hby.parts
 have HT := lh hT; have HBY := lh hby
 clear hT hby
 go_enter Tryz.func49, Tryz.ntmps49
 go_upto_region 1 with fail
 have hb3 : Below w.heap.size w (((w.alloc (.cells #[.int .i64 T.op, .int .i64 T.n, .string T.text, .slice a T.kids.length cap, .slice a' T.pats.length cap'] 32)).alloc (.cells #[.int .i64 by'.op, .int .i64 by'.n, .string by'.text, .slice b by'.kids.length bcap, .slice b' by'.pats.length bcap'] 32)).alloc (.cells #[.int .i64 0, .int .i64 0, .string ⟨#[]⟩, .slice none 0 0, .slice none 0 0] 32)) := (((Below.refl _ w).alloc (Nat.le_refl _) _).alloc (by simp) _).alloc (by simp; omega) _
 have hs3 : (((w.alloc (.cells #[.int .i64 T.op, .int .i64 T.n, .string T.text, .slice a T.kids.length cap, .slice a' T.pats.length cap'] 32)).alloc (.cells #[.int .i64 by'.op, .int .i64 by'.n, .string by'.text, .slice b by'.kids.length bcap, .slice b' by'.pats.length bcap'] 32)).alloc (.cells #[.int .i64 0, .int .i64 0, .string ⟨#[]⟩, .slice none 0 0, .slice none 0 0] 32)).heap.size = w.heap.size + 3 := by simp
 have hx0 : (((w.alloc (.cells #[.int .i64 T.op, .int .i64 T.n, .string T.text, .slice a T.kids.length cap, .slice a' T.pats.length cap'] 32)).alloc (.cells #[.int .i64 by'.op, .int .i64 by'.n, .string by'.text, .slice b by'.kids.length bcap, .slice b' by'.pats.length bcap'] 32)).alloc (.cells #[.int .i64 0, .int .i64 0, .string ⟨#[]⟩, .slice none 0 0, .slice none 0 0] 32)).heap[w.heap.size]? = some (.cells #[.int .i64 T.op, .int .i64 T.n, .string T.text, .slice a T.kids.length cap, .slice a' T.pats.length cap'] 32 (0, 0)) := by
  rw [Below.heap_alloc _ _ _ (by simp; omega), Below.heap_alloc _ _ _ (by simp)]; exact heap_alloc_new _ _
 have hx1 : (((w.alloc (.cells #[.int .i64 T.op, .int .i64 T.n, .string T.text, .slice a T.kids.length cap, .slice a' T.pats.length cap'] 32)).alloc (.cells #[.int .i64 by'.op, .int .i64 by'.n, .string by'.text, .slice b by'.kids.length bcap, .slice b' by'.pats.length bcap'] 32)).alloc (.cells #[.int .i64 0, .int .i64 0, .string ⟨#[]⟩, .slice none 0 0, .slice none 0 0] 32)).heap[w.heap.size + 1]? = some (.cells #[.int .i64 by'.op, .int .i64 by'.n, .string by'.text, .slice b by'.kids.length bcap, .slice b' by'.pats.length bcap'] 32 (0, 0)) := by
  rw [Below.heap_alloc _ _ _ (by simp)]; have := heap_alloc_new (w.alloc (.cells #[.int .i64 T.op, .int .i64 T.n, .string T.text, .slice a T.kids.length cap, .slice a' T.pats.length cap'] 32)) (.cells #[.int .i64 by'.op, .int .i64 by'.n, .string by'.text, .slice b by'.kids.length bcap, .slice b' by'.pats.length bcap'] 32); simpa using this
 have hx2 : (((w.alloc (.cells #[.int .i64 T.op, .int .i64 T.n, .string T.text, .slice a T.kids.length cap, .slice a' T.pats.length cap'] 32)).alloc (.cells #[.int .i64 by'.op, .int .i64 by'.n, .string by'.text, .slice b by'.kids.length bcap, .slice b' by'.pats.length bcap'] 32)).alloc (.cells #[.int .i64 0, .int .i64 0, .string ⟨#[]⟩, .slice none 0 0, .slice none 0 0] 32)).heap[w.heap.size + 1 + 1]? = some (.cells #[.int .i64 0, .int .i64 0, .string ⟨#[]⟩, .slice none 0 0, .slice none 0 0] 32 (0, 0)) := by
  have := heap_alloc_new ((w.alloc (.cells #[.int .i64 T.op, .int .i64 T.n, .string T.text, .slice a T.kids.length cap, .slice a' T.pats.length cap'] 32)).alloc (.cells #[.int .i64 by'.op, .int .i64 by'.n, .string by'.text, .slice b by'.kids.length bcap, .slice b' by'.pats.length bcap'] 32)) (.cells #[.int .i64 0, .int .i64 0, .string ⟨#[]⟩, .slice none 0 0, .slice none 0 0] 32); simpa using this
 generalize (((w.alloc (.cells #[.int .i64 T.op, .int .i64 T.n, .string T.text, .slice a T.kids.length cap, .slice a' T.pats.length cap'] 32)).alloc (.cells #[.int .i64 by'.op, .int .i64 by'.n, .string by'.text, .slice b by'.kids.length bcap, .slice b' by'.pats.length bcap'] 32)).alloc (.cells #[.int .i64 0, .int .i64 0, .string ⟨#[]⟩, .slice none 0 0, .slice none 0 0] 32)) = V at *
 obtain ⟨c0, c1, c2, c3, c4⟩ := cells5 hx0
 have HC := lh (Check_any T _ V (TmAt.keep hb3 hb3.size _ _ HT.out) hfT.h hfT.ok)
 have HB3 := lh hb3; have HS3 := lh hs3; have HX0 := lh hx0; have HX1 := lh hx1; have HX2 := lh hx2
 clear hb3 hs3 hx0 hx1 hx2
 -- refused
 have no : ∀ (V' : World), (termB T && nameB nm && termB by') = false → Below w.heap.size w V' → w.heap.size + 3 ≤ V'.heap.size → SubstEnd nm by' T w (.returned (.tuple #[zeroV, .int .i64 2])) (((((V'.setCell ⟨w.heap.size + 1 + 1, 0, none⟩ (.int .i64 0)).setCell ⟨w.heap.size + 1 + 1, 1, none⟩ (.int .i64 0)).setCell ⟨w.heap.size + 1 + 1, 2, none⟩ (.string ⟨#[]⟩)).setCell ⟨w.heap.size + 1 + 1, 3, none⟩ (.slice none 0 0)).setCell ⟨w.heap.size + 1 + 1, 4, none⟩ (.slice none 0 0)) ∧
   Below w.heap.size w (((((V'.setCell ⟨w.heap.size + 1 + 1, 0, none⟩ (.int .i64 0)).setCell ⟨w.heap.size + 1 + 1, 1, none⟩ (.int .i64 0)).setCell ⟨w.heap.size + 1 + 1, 2, none⟩ (.string ⟨#[]⟩)).setCell ⟨w.heap.size + 1 + 1, 3, none⟩ (.slice none 0 0)).setCell ⟨w.heap.size + 1 + 1, 4, none⟩ (.slice none 0 0)) := by
  intro V' h1 h2 h3
  refine ⟨?_, h2.trans ((kept5 V' (w.heap.size + 1 + 1) _ _ _ _ _).below h2.size (by rintro b rfl; omega))⟩
  unfold SubstEnd
  rw [h1, if_neg (by simp)]
 have NO := lh no
 clear no
 have hs3 := HS3.out
 cases hb : termB T
 ·have HBF := lh hb
  rw [hb] at HC
  clear hb
  rw [show errOf false = 2 from rfl] at HC
  go_wp2_with fail
  refine HC.out.mono ?_
  rintro e w1 ⟨rfl, hb1⟩
  have y2 := bget' hb1 HX2.out
  have hs1 := hb1.size
  obtain ⟨d0, d1, d2, d3, d4⟩ := cells5 y2
  have f2 := free_box y2
  have HBW := lh (HB3.out.trans (hb1.mono (by omega)))
  clear hb1 y2 c0 c1 c2 c3 c4 HC
  go_wp2
  exact bodyPost_ret (v := .tuple #[zeroV, .int .i64 2]) (by simp [results, Tryz.results49, go_sem, d0, d1, d2, d3, d4, zeroV]) rfl (NO.out w1 (by rw [HBF.out]; rfl) HBW.out (by omega))
 ·have HBF := lh hb
  rw [hb] at HC
  clear hb
  rw [show errOf true = 0 from rfl] at HC
  go_wp2_with fail
  refine HC.out.mono ?_
  rintro e w1 ⟨rfl, hb1⟩
  have hs1 := hb1.size
  have hbw1 := HB3.out.trans (hb1.mono (by omega))
  have HY0 := lh (bget' hb1 HX0.out); have HY1 := lh (bget' hb1 HX1.out); have HY2 := lh (bget' hb1 HX2.out); have HBW1 := lh hbw1
  have HN := lh (Name_any nm w1)
  clear hb1 hbw1 c0 c1 c2 c3 c4 HC
  cases hb : nameB nm
  ·have HBN := lh hb
   rw [hb] at HN
   clear hb
   go_wp2_with fail
   refine HN.out.mono ?_
   rintro e w2 ⟨rfl, hb2⟩
   have hs2 := hb2.size
   have y2 := bget' hb2 HY2.out
   obtain ⟨d0, d1, d2, d3, d4⟩ := cells5 y2
   have f2 := free_box y2
   have HBW := lh (HBW1.out.trans (hb2.mono HBW1.out.size))
   clear hb2 y2 HN
   go_wp2
   exact bodyPost_ret (v := .tuple #[zeroV, .int .i64 2]) (by simp [results, Tryz.results49, go_sem, d0, d1, d2, d3, d4, zeroV]) rfl (NO.out w2 (by rw [HBF.out, HBN.out]; rfl) HBW.out (by omega))
  ·have HBN := lh hb
   rw [hb] at HN
   clear hb
   go_wp2_with fail
   refine HN.out.mono ?_
   rintro e w2 ⟨rfl, hb2⟩
   have hs2 := hb2.size
   have hbw2 := HBW1.out.trans (hb2.mono HBW1.out.size)
   have hy1 := bget' hb2 HY1.out
   obtain ⟨c0, c1, c2, c3, c4⟩ := cells5 hy1
   have HZ0 := lh (bget' hb2 HY0.out); have HZ1 := lh hy1; have HZ2 := lh (bget' hb2 HY2.out); have HBW2 := lh hbw2
   have HC2 := lh (Check_any by' _ w2 (TmAt.keep hbw2 hbw2.size _ _ HBY.out) hfb.h hfb.ok)
   clear hb2 hbw2 hy1 HN
   cases hb : termB by'
   ·have HBB := lh hb
    rw [hb] at HC2
    clear hb
    rw [show errOf false = 2 from rfl] at HC2
    go_wp2_with fail
    refine HC2.out.mono ?_
    rintro e w3 ⟨rfl, hb3⟩
    have hs3' := hb3.size
    have y2 := bget' hb3 HZ2.out
    obtain ⟨d0, d1, d2, d3, d4⟩ := cells5 y2
    have f2 := free_box y2
    have HBW := lh (HBW2.out.trans (hb3.mono HBW2.out.size))
    clear hb3 y2 c0 c1 c2 c3 c4 HC2
    go_wp2
    exact bodyPost_ret (v := .tuple #[zeroV, .int .i64 2]) (by simp [results, Tryz.results49, go_sem, d0, d1, d2, d3, d4, zeroV]) rfl (NO.out w3 (by rw [HBF.out, HBN.out, HBB.out]; rfl) HBW.out (by omega))
   ·have HBB := lh hb
    rw [hb] at HC2
    clear hb
    rw [show errOf true = 0 from rfl] at HC2
    go_wp2_with fail
    refine HC2.out.mono ?_
    rintro e w3 ⟨rfl, hb3⟩
    have hs3' := hb3.size
    have hbw3 := HBW2.out.trans (hb3.mono HBW2.out.size)
    have HW0 := lh (bget' hb3 HZ0.out); have HW1 := lh (bget' hb3 HZ1.out); have HW2 := lh (bget' hb3 HZ2.out); have HBW3 := lh hbw3
    clear hb3 hbw3 c0 c1 c2 c3 c4 HC2
    go_upto_region 3 with fail
    refine reg49 (bb := w.heap.size + 1) (T := by') rfl rfl rfl (fun _ _ _ _ _ h => h) HW1.out (TmAt.keep HBW3.out HBW3.out.size _ _ HBY.out) (termB_okN HBB.out hfb.ok) (by have := termB_frees HBB.out (fun _ => false); omega) ?_
    intro u23 u24 u25 u26 u27 q fa fcap w4 hb4 hq1 hq2 hq hfv
    simp only [List.setIfInBounds_toArray, List.set_cons_zero, List.set_cons_succ]
    have hs4 := hb4.size
    have hbw4 := HBW3.out.trans (hb4.mono HBW3.out.size)
    have y0 := bget' hb4 HW0.out
    have HV2 := lh (bget' hb4 HW2.out)
    obtain ⟨c0, c1, c2, c3, c4⟩ := cells5 y0
    obtain ⟨k0, k1, k2, k3, k4, k5, k6⟩ := cells7 hq
    have hfl : (freeL by').length ≤ 800000 := by have := termB_frees HBB.out (fun _ => false); have := freeL_len by'; omega
    have hsb := termB_sub HBF.out hfT
    have hsf := subF_fit nm by' hfb (heightM T) T (Nat.le_refl _) hsb
    have hfit : Fit (subF nm by' (heightM T) T) := ⟨by have := termB_height HBF.out; have := termB_height HBB.out; have := hsf.1; omega, hsf.2.1, hsf.2.2⟩
    have HIN := lh (in_any nm by' hnm hfb.len hfl (heightM T) T _ _ _ _ _ _ _ _ _ _ _ w4 (Nat.le_refl _) (TmAt.keep hbw4 hbw4.size _ _ HT.out) (TmAt.keep hbw4 hbw4.size _ _ HBY.out) hfv hsb)
    have HFIT := lh hfit; have HBW4 := lh hbw4
    clear hsb hsf hfit hbw4 hfv y0 hb4 hfl hq
    go_wp2_with fail
    refine HIN.out.mono ?_
    rintro e w5 ⟨⟨nv, rfl, hnv⟩, hb5⟩
    have hs5 := hb5.size
    have hbw5 := HBW4.out.trans (hb5.mono HBW4.out.size)
    have HU2 := lh (bget' hb5 HV2.out)
    have hat : TmAt w5.heap.size w5 (subF nm by' (heightM T) T) nv := TmIn.to (fun b h => h.2) _ _ hnv
    have HF2 := lh (fitting_any _ nv w5 hat HFIT.out)
    have HNV := lh hnv; have HBW5 := lh hbw5; have HB5 := lh hb5
    obtain ⟨o2, n2, t2, ka2, kn2, kc2, pa2, pn2, pc2, rfl⟩ := TmIn.shape HNV.out
    clear hnv hbw5 hb5 hat c0 c1 c2 c3 c4 k0 k1 k2 k3 k4 k5 k6 HIN
    cases hb : termB (subF nm by' (heightM T) T)
    ·have HBS := lh hb
     rw [hb] at HF2
     clear hb
     simp only [Bool.false_eq_true, if_false] at HF2
     go_wp2_with fail
     refine HF2.out.mono ?_
     rintro e w6 ⟨rfl, hb6⟩
     have hs6 := hb6.size
     have y2 := bget' hb6 HU2.out
     obtain ⟨d0, d1, d2, d3, d4⟩ := cells5 y2
     have f2 := free_box y2
     have HBW := lh (HBW5.out.trans (hb6.mono HBW5.out.size))
     clear hb6 y2 HF2
     unfold zeroV
     go_wp2
     refine bodyPost_ret (v := .tuple #[zeroV, .int .i64 3]) (by simp [results, Tryz.results49, go_sem, d0, d1, d2, d3, d4, zeroV]) rfl ⟨?_, HBW.out.trans ((kept5 w6 (w.heap.size + 1 + 1) _ _ _ _ _).below HBW.out.size (by rintro b rfl; omega))⟩
     unfold SubstEnd
     rw [if_pos (by rw [HBF.out, HBN.out, HBB.out]; rfl), if_neg (by rw [HBS.out]; simp)]
    ·have HBS := lh hb
     rw [hb] at HF2
     clear hb
     simp only [if_true] at HF2
     go_wp2_with fail
     refine HF2.out.mono ?_
     rintro e w6 ⟨rfl, hb6⟩
     have hs6 := hb6.size
     have y2 := bget' hb6 HU2.out
     obtain ⟨d0, d1, d2, d3, d4⟩ := cells5 y2
     have f2 := free_box y2
     have HBW := lh (HBW5.out.trans (hb6.mono HBW5.out.size)); have HB6 := lh hb6
     clear hb6 y2 HF2
     go_wp2
     have hks := kept5 w6 (w.heap.size + 1 + 1) (.int .i64 o2) (.int .i64 n2) (.string t2) (.slice ka2 kn2 kc2) (.slice pa2 pn2 pc2)
     refine bodyPost_ret (v := .tuple #[.agg #[.int .i64 o2, .int .i64 n2, .string t2, .slice ka2 kn2 kc2, .slice pa2 pn2 pc2], .int .i64 0]) (by simp [results, Tryz.results49, go_sem, d0, d1, d2, d3, d4]) rfl ⟨?_, HBW.out.trans (hks.below HBW.out.size (by rintro b rfl; omega))⟩
     unfold SubstEnd
     rw [if_pos (by rw [HBF.out, HBN.out, HBB.out]; rfl), if_pos HBS.out]
     refine ⟨_, rfl, ?_⟩
     have hs7 := hks.size
     exact TmIn.keep (fun b h => (hks.block b (by have := h.2; omega) (by have := h.1; omega)).trans (HB6.out.block b h.2)) (fun b h => ⟨by have := h.1; omega, by have := h.2; omega⟩) _ _ HNV.out
theorem wpList_append_nil {P : Program} (w : World) {ops : Array Oper} {rest : List Oper} {o : Oper} {a : Act} {Q : Exit → Act → World → Prop}
  (hg : o.guard = none) (s x : Operand) (t : TypeId) (hop : o.op = Op.call { callee := Callee.builtin Builtin.append, args := #[s, x], argTypes := #[t, t] })
  (base : Nat) (e : TypeId) (i : TypeInfo) (size : Nat) (h1 : P.underlying t = some (.slice e)) (h2 : P.info? e = some i)
  (v : Value) (n : Nat) (xs : List Value) (hs : a.eval s = v) (hown : w.ownsRow base e size v n xs) (hx : a.eval x = .slice none 0 0)
  (hK : wpList P ops Q rest (a.put o.dst v) w) : wpList P ops Q (o :: rest) a w := by
 refine wpList_plain hg fun K hK' => ?_
 have hrun := run_append_owned_none (P := P) w base t o.type e i size h1 h2 v n xs hown
 unfold Oper.wp
 simp [execOp, hop, resolve, invoke, builtin, hs, hx, hrun, Result.andThen]
 exact hK' _ _ hK
theorem below_of_grown {n₀ : Nat} {w w' : World} {v : Value} (hgr : w.grownBy w' v.ownBlock) (hn : n₀ ≤ w.heap.size) (hv : ∀ g, v.ownBlock = some g → n₀ ≤ g) : Below n₀ w w' :=
 ⟨hgr.os, hgr.tape, hgr.output, hgr.size, fun k hk => hgr.block k (by omega) fun h => by have := hv k h.symm; omega⟩
mutual
def patN : Pt → List ByteArray
 | .mk f _ t ps => if f = 2 then [t] else patNs ps
def patNs : List Pt → List ByteArray
 | [] => []
 | p :: ps => patN p ++ patNs ps
end
theorem patNs_cons (p : Pt) (ps : List Pt) : patNs (p :: ps) = patN p ++ patNs ps := by conv => lhs; unfold patNs
theorem patNs_append : ∀ (ps qs : List Pt), patNs (ps ++ qs) = patNs ps ++ patNs qs
 | [], _ => by conv => rhs; lhs; unfold patNs
               rfl
 | p :: ps, qs => by rw [List.cons_append, patNs_cons, patNs_cons, patNs_append ps qs, List.append_assoc]
theorem patNs_take (ps : List Pt) (k : Nat) (h : k < ps.length) : patNs (ps.take (k + 1)) = patNs (ps.take k) ++ patN ps[k] := by
 rw [List.take_succ_eq_append_getElem h, patNs_append, patNs_cons]
 have : patNs [] = [] := by unfold patNs; rfl
 rw [this, List.append_nil]
set_option maxHeartbeats 2000000 in
set_option maxRecDepth 100000 in
theorem PatNames_any (p : Pt) : ∀ (v : Value) (w : World), PtAt w.heap.size w p v → lensP p → (patN p).length ≤ 1000000 →
  Calls Tryz.prog 28 #[v] w fun e w' => (∃ v', e = .returned v' ∧ SlIn (Fresh w w') v' (patN p).length fun b o => StrsAt w' (patN p) b o) ∧ Below w.heap.size w w' := by
 induction hT : SizeOf.sizeOf p using Nat.strongRecOn generalizing p with
 | _ m ih =>
 subst hT
 intro v w hv hlen hl
 obtain ⟨i0, hi, hz0, hz1, hz2⟩ := info_parts Tz.info9
 have HIH := lh ih; clear ih
 cases p with
 | mk op n text parts =>
 unfold PtAt at hv
 obtain ⟨kv, rfl, htx, hk⟩ := hv
 obtain ⟨a, cap, rfl, hcap, hlc, hka⟩ := hk.split
 unfold lensP at hlen
 have hbx := heap_alloc_new w (.cells #[.int .i64 op, .int .i64 n, .string text, .slice a parts.length cap] 35)
 have hb0 := (Below.refl w.heap.size w).alloc (Nat.le_refl _) (.cells #[.int .i64 op, .int .i64 n, .string text, .slice a parts.length cap] 35)
 have hpn : patN (.mk op n text parts) = if op = 2 then [text] else patNs parts := by conv => lhs; unfold patN
 by_cases h2 : op = 2
 ·rw [if_pos h2] at hpn
  have fin1 : ∀ o, (∃ v', Ending.returned (.slice (some ⟨w.heap.size + 1, 0, none⟩) 1 1) = Ending.returned v' ∧ SlIn (Fresh w ((w.alloc o).alloc (.cells #[.string text] 9))) v' (patN (.mk op n text parts)).length fun b o' => StrsAt ((w.alloc o).alloc (.cells #[.string text] 9)) (patN (.mk op n text parts)) b o') ∧ Below w.heap.size w ((w.alloc o).alloc (.cells #[.string text] 9)) := by
   intro o
   rw [hpn]
   have hc := heap_alloc_new (w.alloc o) (.cells #[.string text] 9)
   rw [World.size_alloc] at hc
   exact ⟨⟨_, rfl, .inr ⟨w.heap.size + 1, 0, 1, rfl, Nat.le_refl _, by unfold maxLen; omega, ⟨by omega, by simp⟩, ⟨⟨cell_box hc, htx⟩, trivial⟩⟩⟩, ((Below.refl _ w).alloc (Nat.le_refl _) _).alloc (by simp) _⟩
  have FIN1 := lh fin1
  clear fin1 hpn hk hka hlen hl hbx hb0 HIH
  go_enter Tryz.func28, Tryz.ntmps28
  go_wp2
  go_ret
  exact FIN1.out _
 ·rw [if_neg h2] at hpn
  rw [hpn] at hl
  have hpn' := hpn
  have HKA := lh hka; have HLEN := lh hlen; have HL := lh hl; have HBX := lh hbx; have HB0 := lh hb0
  clear hk hka hlen hl hbx hb0 hpn
  have HPN := lh hpn'; clear hpn'
  go_enter Tryz.func28, Tryz.ntmps28
  go_wp2_with fail
  have hop : (op == 2) = false := by simpa using h2
  simp only [hop]
  clear h2
  go_loopw [3, 4] (fun vo i wr => ∃ k : Nat, k ≤ parts.length ∧ i = .int .i64 k ∧ wr.ownsRow (w.heap.size + 1) 9 1 vo (patNs (parts.take k)).length ((patNs (parts.take k)).map Value.string) ∧ Hid (∀ s ∈ patNs (parts.take k), s.size ≤ maxLen) ∧ Below (w.heap.size + 1) (w.alloc (.cells #[.int .i64 op, .int .i64 n, .string text, .slice a parts.length cap] 35)) wr) (fun _ i _ => parts.length - (intOf i).toNat)
  case atStart => exact ⟨0, Nat.zero_le _, rfl, World.ownsRow_nil _ _ _ _, (by intro s h; cases h), Below.refl _ _⟩
  case round =>
   obtain ⟨k, hk, rfl, hrow, hss, hB⟩ := hrel
   have hbx := bget hB HBX.out (by omega)
   have hpl := HLEN.out.1
   obtain ⟨c0, c1, c2, c3⟩ := cells4 hbx
   have hbw : Below w.heap.size w wr := HB0.out.trans (hB.mono (by omega))
   have hsz : w.heap.size + 1 ≤ wr.heap.size := by have := hB.size; simp at this; omega
   obtain ⟨ra, rc, rfl⟩ := slice_of_row hrow
   by_cases hlt : k < parts.length
   ·obtain ⟨b, o, rfl, hbn, hps⟩ := HKA.out (by omega)
    obtain ⟨e0, e1, e2, e3, g0, g1, g2, g3, ht⟩ := PtsAt.get parts b o hps k hlt
    obtain ⟨oo, nn, tt, ka, kn, kc, rfl, rfl, rfl, rfl⟩ := ht.shape
    have q0 := (hbw.cell (p := ⟨b, _, none⟩) hbn).trans g0
    have q1 := (hbw.cell (p := ⟨b, _, none⟩) hbn).trans g1
    have q2 := (hbw.cell (p := ⟨b, _, none⟩) hbn).trans g2
    have q3 := (hbw.cell (p := ⟨b, _, none⟩) hbn).trans g3
    have htk := patNs_take parts k hlt
    have hle : (patNs (parts.take k)).length + (patN parts[k]).length ≤ 1000000 := by
     have h1 := congrArg List.length htk
     have h2 : patNs parts = patNs (parts.take (k + 1)) ++ patNs (parts.drop (k + 1)) := by rw [← patNs_append, List.take_append_drop]
     have h3 := congrArg List.length h2
     have := HL.out
     simp only [List.length_append] at h1 h3
     omega
    have hcl := HIH.out _ (kid_ltP k hlt) parts[k] rfl _ wr (PtAt.keep hbw hbw.size _ _ ht) (lensP_get HLEN.out.2 k hlt) (by omega)
    have HC := lh hcl; have HROW := lh hrow; have HB := lh hB; have HTK := lh htk; have HLE := lh hle
    clear hcl hrow hB htk hbx hbw g0 g1 g2 g3 ht hps hle
    go_wp2_with fail
    refine HC.out.mono ?_
    rintro e w1 ⟨⟨v', rfl, hsl⟩, hb1⟩
    have hrow1 := ownsRow_of_block HROW.out fun g hg => hb1.block g (HROW.out.lt g hg).2
    have HR1 := lh hrow1
    have HB1 := lh (HB.out.trans (hb1.mono hsz))
    have hs1 := hb1.size
    clear hrow1 hb1 HC c0 c1 c2 c3 q0 q1 q2 q3
    have hmem : (∀ s ∈ patN parts[k], s.size ≤ maxLen) → Hid (∀ s ∈ patNs (parts.take (k + 1)), s.size ≤ maxLen) := fun h => by
     unfold Hid
     rw [HTK.out]
     intro s hs
     rcases List.mem_append.1 hs with h' | h'
     ·exact hss.out s h'
     ·exact h s h'
    rcases hsl with ⟨h0, rfl⟩ | ⟨b2, o2, cap2, rfl, hc1, hc2, hfr, hst⟩
    ·have hnil : patN parts[k] = [] := List.eq_nil_of_length_eq_zero h0
     have HM := hmem (by rw [hnil]; intro s h; cases h)
     have HTN := lh (show patNs (parts.take (k + 1)) = patNs (parts.take k) by rw [HTK.out, hnil, List.append_nil])
     clear hmem hnil h0
     go_wp2_with (at_builtin; refine wpList_append_nil _ rfl _ _ 22 rfl (w.heap.size + 1) 9 i0 1 Tz.underlying22 hi _ _ _ rfl HR1.out rfl ?_)
     go_roundw
     case rel => exact ⟨k + 1, by omega, by go_num, by rw [HTN.out]; exact HR1.out, HM, HB1.out⟩
     case measure => simp [intOf]; omega
    ·have HM := hmem (fun s hs => by
      obtain ⟨j, hj, rfl⟩ := List.getElem_of_mem hs
      exact (StrsAt.get _ b2 o2 hst j hj).2)
     have HNW := lh (show ∀ (j : Nat) (u : Value), ((patN parts[k]).map Value.string)[j]? = some u → w1.cell? ((⟨b2, o2, none⟩ : Addr).add j) = some u by
      intro j u hj
      have hj' : j < (patN parts[k]).length := by simpa using (List.getElem?_eq_some_iff.1 hj).1
      have : ((⟨b2, o2, none⟩ : Addr).add j) = ⟨b2, o2 + j, none⟩ := by unfold Addr.add; split <;> simp_all
      rw [this, (StrsAt.get _ b2 o2 hst j hj').1]
      simp [List.getElem?_eq_getElem hj'] at hj
      rw [← hj])
     have HLN := lh (show ((patN parts[k]).map Value.string).length = (patN parts[k]).length * 1 by simp)
     have hle2 := HLE.out
     clear hmem hst
     go_wp2_with (at_builtin; refine wpList_append_own_at _ rfl _ _ 22 rfl (w.heap.size + 1) 9 i0 _ 1 16 Tz.underlying22 hi hz0 hz1 hz2 rfl (by decide) _ _ _ rfl HR1.out ⟨b2, o2, none⟩ (patN parts[k]).length cap2 ((patN parts[k]).map Value.string) rfl HLN.out HNW.out (string_one _) (by unfold maxLen; omega) (by omega) (by omega) ?_; intro v' w' hown' hgr hnil hat; have HOWN := lh hown'; have HGR := lh hgr; clear hown' hgr hnil hat)
     go_roundw
     case rel =>
      refine ⟨k + 1, by omega, by go_num, ?_, HM, HB1.out.trans (below_of_grown HGR.out (by omega) fun g hg => (HR1.out.lt g hg).1)⟩
      have h := HOWN.out
      rw [HTK.out, List.map_append, List.length_append]
      exact h
     case measure => simp [intOf]; omega
   ·obtain rfl : k = parts.length := by omega
    simp only [List.take_length] at hrow hss ⊢
    have HROW := lh hrow; have HBW := lh hbw
    clear hrow hB hbx hbw
    go_wp2
    go_ret
    rw [HPN.out]
    exact ⟨⟨.slice ra (patNs parts).length rc, rfl, owned_sl (v := .slice ra (patNs parts).length rc) HROW.out (fun b hb => ⟨by have := (HROW.out.lt b hb).1; omega, (HROW.out.lt b hb).2⟩) fun b hb hc => strs_of_row _ _ _ hss.out hc⟩, HBW.out⟩
def two56 : Tm := .mk 5 0 ⟨#[120]⟩ [nm56 ⟨#[120]⟩] []
def one56 : Tm := .mk 5 0 ⟨#[121]⟩ [nm56 ⟨#[121]⟩] []
def bc56 : Tm := .mk 9 0 ⟨#[]⟩ [nm56 ⟨#[98]⟩, nm56 ⟨#[99]⟩] []
theorem k1 : termB (E56 pE) = true := by kernel_rfl
theorem k2 : termB bc56 = true := by kernel_rfl
theorem k3 : heightM (E56 pE) = 3 := by kernel_rfl
theorem freeL_of {T : Tm} {xs : List (List UInt8)} (h : dd (frees (fun _ => false) T) = xs) (hs : xs.Pairwise fun a b => leB a b = true) : freeL T = xs.map bytesArr := by
 unfold freeL
 rw [h, List.mergeSort_of_pairwise hs]
theorem k4 : freeL (E56 pE) = [⟨#[97]⟩, ⟨#[100]⟩] := freeL_of (xs := [[97], [100]]) (by kernel_rfl) (by decide)
theorem k4' : freeL bc56 = [⟨#[98]⟩, ⟨#[99]⟩] := freeL_of (xs := [[98], [99]]) (by kernel_rfl) (by decide)
theorem k4'' (s : ByteArray) (h : bytesArr s.toList = s) : freeL (nm56 s) = [s] := (freeL_of (xs := [s.toList]) (by unfold nm56 frees freesK; simp [dd]) (by simp)).trans (by simp [h])
theorem k5 : termB two56 = true ∧ termB one56 = true := ⟨by kernel_rfl, by kernel_rfl⟩
theorem k8 : heightM bc56 = 2 := by kernel_rfl
theorem k9 : firstW (inL [⟨#[97]⟩, ⟨#[98]⟩, ⟨#[99]⟩, ⟨#[100]⟩]) = ⟨#[101]⟩ := by kernel_rfl
theorem k10 : patN pE = [⟨#[98]⟩, ⟨#[99]⟩] := by kernel_rfl
theorem k11 : scs108 [⟨#[98]⟩, ⟨#[99]⟩] ⟨#[100]⟩ (E56 pE) = [[], [(⟨#[99]⟩, ⟨#[102]⟩), (⟨#[98]⟩, ⟨#[101]⟩)]] := by kernel_rfl
theorem freeTwo : freeL two56 = [] := freeL_of (xs := []) (by kernel_rfl) (by decide)
theorem freeOne : freeL one56 = [] := freeL_of (xs := []) (by kernel_rfl) (by decide)
theorem canTwo : canM two56 = .mk 5 0 ⟨#[97]⟩ [nm56 ⟨#[97]⟩] [] := by unfold canM; rw [freeTwo]; kernel_rfl
theorem canOne : canM one56 = .mk 5 0 ⟨#[97]⟩ [nm56 ⟨#[97]⟩] [] := by unfold canM; rw [freeOne]; kernel_rfl
theorem alike56 : eqM (canM one56) (canM two56) = true := by rw [canTwo, canOne]; kernel_rfl
theorem k13 : firstW (inL []) = ⟨#[97]⟩ := by kernel_rfl
theorem k14 : atM (E56 pE) [1, 0] = some (nm56 ⟨#[98]⟩) := by kernel_rfl
theorem freeL_perm {T : Tm} {xs : List (List UInt8)} (h : (dd (frees (fun _ => false) T)).Perm xs) (hs : xs.Pairwise fun a b => leB a b = true) : freeL T = xs.map bytesArr := by
 unfold freeL
 rw [mergeSort_of_perm h, List.mergeSort_of_pairwise hs]
def pl56' : Tm := .mk 9 0 ⟨#[]⟩ [nm56 ⟨#[101]⟩, nm56 ⟨#[100]⟩] []
theorem freePl : freeL pl56' = [⟨#[100]⟩, ⟨#[101]⟩] := freeL_perm (xs := [[100], [101]]) (by rw [show dd (frees (fun _ => false) pl56') = [[101], [100]] by kernel_rfl]; exact List.Perm.swap _ _ _) (by decide)
theorem sb1 : subF ⟨#[100]⟩ bc56 1 (nm56 ⟨#[101]⟩) = nm56 ⟨#[101]⟩ := by unfold subF; rw [k4'' ⟨#[101]⟩ (by kernel_rfl), if_pos (by kernel_rfl)]
theorem sb2 : subF ⟨#[100]⟩ bc56 1 (nm56 ⟨#[100]⟩) = bc56 := by unfold subF; rw [k4'' ⟨#[100]⟩ (by kernel_rfl), if_neg (by rw [show hasL [⟨#[100]⟩] ⟨#[100]⟩ = true by kernel_rfl]; decide), if_pos (show (nm56 ⟨#[100]⟩).op = 4 from rfl)]
theorem sb3 : subF ⟨#[100]⟩ bc56 2 (nm56 ⟨#[97]⟩) = nm56 ⟨#[97]⟩ := by unfold subF; rw [k4'' ⟨#[97]⟩ (by kernel_rfl), if_pos (by kernel_rfl)]
theorem sc56 : scs108 [⟨#[98]⟩, ⟨#[99]⟩] ⟨#[100]⟩ pl56' = [[], []] := by kernel_rfl
theorem sb4 : subF ⟨#[100]⟩ bc56 2 pl56' = .mk 9 0 ⟨#[]⟩ [nm56 ⟨#[101]⟩, bc56] [] := by
 unfold subF
 rw [freePl, k4', if_neg (by rw [show hasL [⟨#[100]⟩, ⟨#[101]⟩] ⟨#[100]⟩ = true by kernel_rfl]; decide), if_neg (by decide), sc56]
 have e1 : (renM chSame (0, fun _ => false) [] (nm56 ⟨#[101]⟩)).1 = nm56 ⟨#[101]⟩ := by kernel_rfl
 have e2 : (renM chSame (0, fun _ => false) [] (nm56 ⟨#[100]⟩)).1 = nm56 ⟨#[100]⟩ := by kernel_rfl
 have e3 : rebText pl56' [[], []] = ⟨#[]⟩ := by kernel_rfl
 have e4 : rebPats pl56' [[], []] = [] := by kernel_rfl
 rw [e3, e4]
 show Tm.mk 9 0 _ [subF _ _ 1 (renM chSame (0, fun _ => false) [] (nm56 ⟨#[101]⟩)).1, subF _ _ 1 (renM chSame (0, fun _ => false) [] (nm56 ⟨#[100]⟩)).1] [] = _
 rw [e1, e2, sb1, sb2]
def sub56 : Tm := .mk 15 0 ⟨#[]⟩ [nm56 ⟨#[97]⟩, .mk 9 0 ⟨#[]⟩ [nm56 ⟨#[101]⟩, bc56] []] [.mk 6 0 ⟨#[67, 111, 110, 115]⟩ [.mk 2 0 ⟨#[101]⟩ [], .mk 2 0 ⟨#[102]⟩ []]]
theorem sb5 : subF ⟨#[100]⟩ bc56 3 (E56 pE) = sub56 := by
 unfold subF
 rw [k4, k4', if_neg (by rw [show hasL [⟨#[97]⟩, ⟨#[100]⟩] ⟨#[100]⟩ = true by kernel_rfl]; decide), if_neg (by decide), k11]
 have e1 : (renM chSame (0, fun _ => false) [] (nm56 ⟨#[97]⟩)).1 = nm56 ⟨#[97]⟩ := by kernel_rfl
 have e2 : (renM chSame (0, fun _ => false) [(⟨#[99]⟩, ⟨#[102]⟩), (⟨#[98]⟩, ⟨#[101]⟩)] pl56).1 = pl56' := by kernel_rfl
 have e3 : rebText (E56 pE) [[], [(⟨#[99]⟩, ⟨#[102]⟩), (⟨#[98]⟩, ⟨#[101]⟩)]] = ⟨#[]⟩ := by kernel_rfl
 have e4 : rebPats (E56 pE) [[], [(⟨#[99]⟩, ⟨#[102]⟩), (⟨#[98]⟩, ⟨#[101]⟩)]] = [.mk 6 0 ⟨#[67, 111, 110, 115]⟩ [.mk 2 0 ⟨#[101]⟩ [], .mk 2 0 ⟨#[102]⟩ []]] := by kernel_rfl
 have e5 : (findS [(⟨#[99]⟩, ⟨#[102]⟩), (⟨#[98]⟩, ⟨#[101]⟩)] ⟨#[100]⟩).isSome = false := by kernel_rfl
 rw [e3, e4]
 show Tm.mk 15 0 _ [subF _ _ 2 (renM chSame (0, fun _ => false) [] (nm56 ⟨#[97]⟩)).1, if (findS [(⟨#[99]⟩, ⟨#[102]⟩), (⟨#[98]⟩, ⟨#[101]⟩)] ⟨#[100]⟩).isSome = true then (renM chSame (0, fun _ => false) [(⟨#[99]⟩, ⟨#[102]⟩), (⟨#[98]⟩, ⟨#[101]⟩)] pl56).1 else subF _ _ 2 (renM chSame (0, fun _ => false) [(⟨#[99]⟩, ⟨#[102]⟩), (⟨#[98]⟩, ⟨#[101]⟩)] pl56).1] _ = _
 rw [e1, e2, e5, sb3, sb4]
 rfl
theorem termSub56 : termB sub56 = true := by kernel_rfl
end Go.Proofs.YtjpahjfjpkbcnaaGreat
