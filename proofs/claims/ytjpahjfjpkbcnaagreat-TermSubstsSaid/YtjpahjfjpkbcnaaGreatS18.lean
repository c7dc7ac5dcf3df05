/- Contracts of the program's functions. -/
import Derived.Test.YtjpahjfjpkbcnaaGreatS17
import Derived.Test.YtjpahjfjpkbcnaaGreatS09

namespace Go.Proofs.YtjpahjfjpkbcnaaGreat
open Go.Proofs Go.RowKit
attribute [local go_sem] eval_put_same eval_put_ne size_put
def ops50a : Array Oper := #[{ dst := some 28, op := Op.move (Operand.tmp 7), type := 22, pos := "ref.go:445", after := #[], guard := none }, { dst := some 29, op := Op.call { callee := Callee.builtin Builtin.append, args := #[Operand.const (Value.slice none 0 0), Operand.tmp 28], argTypes := #[22, 22] }, type := 22, pos := "ref.go:445", after := #[{ on := 0, ground := Ground.data }], guard := none }, { dst := some 30, op := Op.move (Operand.tmp 1), type := 9, pos := "ref.go:445", after := #[], guard := none }, { dst := some 31, op := Op.buildSlice 22 1 #[(0, Operand.tmp 30)], type := 22, pos := "ref.go:445", after := #[{ on := 2, ground := Ground.data }], guard := none }, { dst := some 32, op := Op.call { callee := Callee.builtin Builtin.append, args := #[Operand.tmp 29, Operand.tmp 31], argTypes := #[22, 22] }, type := 22, pos := "ref.go:445", after := #[{ on := 1, ground := Ground.data }, { on := 3, ground := Ground.data }, { on := 1, ground := Ground.chain }], guard := none }, { dst := some 33, op := Op.load 32 (Operand.tmp 3), type := 32, pos := "ref.go:445", after := #[], guard := none }, { dst := some 34, op := Op.call { callee := Callee.value (Operand.func 109), args := #[Operand.tmp 33], argTypes := #[32] }, type := 22, pos := "ref.go:445", after := #[{ on := 5, ground := Ground.data }, { on := 4, ground := Ground.chain }], guard := none }, { dst := some 35, op := Op.call { callee := Callee.builtin Builtin.append, args := #[Operand.tmp 32, Operand.tmp 34], argTypes := #[22, 22] }, type := 22, pos := "ref.go:445", after := #[{ on := 4, ground := Ground.data }, { on := 6, ground := Ground.data }, { on := 6, ground := Ground.chain }], guard := none }, { dst := some 8, op := Op.assign (Operand.tmp 35), type := 22, pos := "ref.go:445", after := #[{ on := 7, ground := Ground.data }, { on := 7, ground := Ground.chain }, { on := 0, ground := Ground.phase }, { on := 1, ground := Ground.phase }, { on := 2, ground := Ground.phase }, { on := 3, ground := Ground.phase }, { on := 4, ground := Ground.phase }, { on := 5, ground := Ground.phase }, { on := 6, ground := Ground.phase }, { on := 7, ground := Ground.phase }], guard := none }]
def ops50b : Array Oper := #[{ dst := some 64, op := Op.load 32 (Operand.tmp 3), type := 32, pos := "ref.go:452", after := #[], guard := none }, { dst := some 65, op := Op.move (Operand.tmp 9), type := 3, pos := "ref.go:452", after := #[], guard := none }, { dst := some 66, op := Op.move (Operand.tmp 10), type := 22, pos := "ref.go:452", after := #[], guard := none }, { dst := some 67, op := Op.move (Operand.tmp 11), type := 3, pos := "ref.go:452", after := #[], guard := none }, { dst := some 68, op := Op.indexAddr 22 (Operand.tmp 66) (Operand.tmp 67), type := 0, pos := "ref.go:452", after := #[{ on := 2, ground := Ground.data }, { on := 3, ground := Ground.data }], guard := none }, { dst := some 69, op := Op.load 9 (Operand.tmp 68), type := 9, pos := "ref.go:452", after := #[{ on := 4, ground := Ground.data }], guard := none }, { dst := some 70, op := Op.move (Operand.tmp 12), type := 9, pos := "ref.go:452", after := #[], guard := none }, { dst := some 71, op := Op.call { callee := Callee.value (Operand.func 110), args := #[Operand.tmp 64, Operand.tmp 65, Operand.tmp 69, Operand.tmp 70], argTypes := #[32, 3, 9, 9] }, type := 32, pos := "ref.go:452", after := #[{ on := 0, ground := Ground.data }, { on := 1, ground := Ground.data }, { on := 5, ground := Ground.data }, { on := 6, ground := Ground.data }], guard := none }, { dst := none, op := Op.store 32 (Operand.tmp 3) (Operand.tmp 71), type := 0, pos := "ref.go:452", after := #[{ on := 7, ground := Ground.data }, { on := 7, ground := Ground.chain }, { on := 0, ground := Ground.phase }, { on := 1, ground := Ground.phase }, { on := 2, ground := Ground.phase }, { on := 3, ground := Ground.phase }, { on := 4, ground := Ground.phase }, { on := 5, ground := Ground.phase }, { on := 6, ground := Ground.phase }, { on := 7, ground := Ground.phase }], guard := none }]
set_option maxHeartbeats 4000000 in
set_option maxRecDepth 100000 in
theorem reg50a {Q : Exit → Act → World → Prop} {a : Act} {U : World} {qb : Nat} {y0 y1 : Int} {y2 nm : ByteArray} {y3 y5 : Option Addr} {m3 y4 m5 y6 : Nat} {fa : Option Addr} {fc : Nat} {fl sl : List ByteArray}
  (hsz : a.tmps.size = 101) (h1 : a.tmps[1]'(by omega) = .string nm) (h3 : a.tmps[3]'(by omega) = .pointer (some ⟨qb, 0, none⟩)) (h7 : a.tmps[7]'(by omega) = .slice fa fl.length fc)
  (hQ : ∀ c (d : Nat) v (a : Act) w, Q (.panic c) (a.put (some d) v) w → Q (.panic c) a w)
  (hS : (U.cell? ⟨qb, 0, none⟩ = some (.int .i64 y0) ∧ U.cell? ⟨qb, 1, none⟩ = some (.int .i64 y1) ∧ U.cell? ⟨qb, 2, none⟩ = some (.string y2) ∧ U.cell? ⟨qb, 3, none⟩ = some (.slice y3 m3 y4) ∧ U.cell? ⟨qb, 4, none⟩ = some (.slice y5 m5 y6))) (hqb : qb < U.heap.size) (hnm : nm.size ≤ maxLen)
  (hfl : SlIn (fun b => b < U.heap.size) (.slice fa fl.length fc) fl.length fun b o => StrsAt U fl b o) (hm : fl.length + 1 + sl.length ≤ 1000000)
  (hc : ∀ w2, Below U.heap.size U w2 → Calls Tryz.prog 109 #[.agg #[.int .i64 y0, .int .i64 y1, .string y2, .slice y3 m3 y4, .slice y5 m5 y6]] w2 fun e w' => (∃ v2, e = .returned v2 ∧ SlIn (fun b => b < w'.heap.size) v2 sl.length fun b o => StrsAt w' sl b o) ∧ Below w2.heap.size w2 w')
  (hK : ∀ (u28 u29 u30 u31 u32 u33 u34 v : Value) (w4 : World), w4.ownsRow U.heap.size 9 1 v (fl ++ [nm] ++ sl).length ((fl ++ [nm] ++ sl).map Value.string) → Below U.heap.size U w4 → (∀ s ∈ fl ++ [nm] ++ sl, s.size ≤ maxLen) →
   Q .normal { tmps := (((((((((a.tmps.setIfInBounds 28 u28).setIfInBounds 30 u30).setIfInBounds 33 u33).setIfInBounds 29 u29).setIfInBounds 31 u31).setIfInBounds 32 u32).setIfInBounds 34 u34).setIfInBounds 35 v).setIfInBounds 8 v), defers := a.defers } w4) :
  (Code.region 6 ops50a true).wp Tryz.prog Q a U := by
 obtain ⟨i0, hi, hz0, hz1, hz2⟩ := info_parts Tz.info9
 have hS0 : (U.drew.cell? ⟨qb, 0, none⟩ = some (.int .i64 y0) ∧ U.drew.cell? ⟨qb, 1, none⟩ = some (.int .i64 y1) ∧ U.drew.cell? ⟨qb, 2, none⟩ = some (.string y2) ∧ U.drew.cell? ⟨qb, 3, none⟩ = some (.slice y3 m3 y4) ∧ U.drew.cell? ⟨qb, 4, none⟩ = some (.slice y5 m5 y6)) := hS
 have hZf := strs_size hfl
 have HS := lh hS; have HC := lh hc; have HK := lh hK; have HFL := lh hfl; have HZF := lh hZf
 clear hS hc hK hfl hZf
 refine wp_region_z (fun w' => (w'.cell? ⟨qb, 0, none⟩ = some (.int .i64 y0) ∧ w'.cell? ⟨qb, 1, none⟩ = some (.int .i64 y1) ∧ w'.cell? ⟨qb, 2, none⟩ = some (.string y2) ∧ w'.cell? ⟨qb, 3, none⟩ = some (.slice y3 m3 y4) ∧ w'.cell? ⟨qb, 4, none⟩ = some (.slice y5 m5 y6))) 8 (by kernel_rfl) ?_
 refine wpAnyZ_take 0 (oi := { dst := some 28, op := Op.move (Operand.tmp 7), type := 22, pos := "ref.go:445", after := #[], guard := none }) hS0 rfl (by kernel_rfl) (by kernel_rfl) (by kernel_rfl) (fun c a w h => hQ c _ _ a w h) (by kernel_rfl) rfl (by rfl) (by rintro w' ⟨k0, k1, k2, k3, k4⟩; go_simp <;> rfl) ?_
 refine wpAnyZ_take 2 (oi := { dst := some 30, op := Op.move (Operand.tmp 1), type := 9, pos := "ref.go:445", after := #[], guard := none }) hS0 rfl (by kernel_rfl) (by kernel_rfl) (by kernel_rfl) (fun c a w h => hQ c _ _ a w h) (by kernel_rfl) rfl (by rfl) (by rintro w' ⟨k0, k1, k2, k3, k4⟩; go_simp <;> rfl) ?_
 refine wpAnyZ_take 5 (oi := { dst := some 33, op := Op.load 32 (Operand.tmp 3), type := 32, pos := "ref.go:445", after := #[], guard := none }) hS0 rfl (by kernel_rfl) (by kernel_rfl) (by kernel_rfl) (fun c a w h => hQ c _ _ a w h) (by kernel_rfl) rfl (by rfl) (by rintro w' ⟨k0, k1, k2, k3, k4⟩; go_simp <;> rfl) ?_
 clear hS0
 refine wpAnyZ_two 1 3 (o := { dst := some 29, op := Op.call { callee := Callee.builtin Builtin.append, args := #[Operand.const (Value.slice none 0 0), Operand.tmp 28], argTypes := #[22, 22] }, type := 22, pos := "ref.go:445", after := #[{ on := 0, ground := Ground.data }], guard := none }) (o' := { dst := some 31, op := Op.buildSlice 22 1 #[(0, Operand.tmp 30)], type := 22, pos := "ref.go:445", after := #[{ on := 2, ground := Ground.data }], guard := none }) (by kernel_rfl) rfl rfl (fun KK hKK => ?_) (fun KK hKK => ?_)
 ·have HSRC := lh (strs_src (w := U.drew) (HFL.out.mono (fun b h => h) fun b o h hs => StrsAt.keep (below_drew _ _) _ _ _ h hs))
  refine step_append_any _ (by rfl) _ _ _ (by rfl) U.heap.size 9 i0 _ 1 16 Tz.underlying22 hi hz0 hz1 hz2 rfl (by decide) (.slice none 0 0) 0 [] (by go_simp) (World.ownsRow_nil _ _ _ _) (.slice fa fl.length fc) fl.length (fl.map Value.string) (by go_simp) HSRC.out (by unfold maxLen; omega) (by omega) (by exact Nat.le_refl _) ?_
  intro v1 w1 hown1 hgr1 hat1
  have hb1 : Below U.heap.size U w1 := (below_drew _ _).trans (below_of_grown hgr1 (by exact Nat.le_refl _) fun g hg => by cases hg)
  rw [Nat.zero_add, List.nil_append] at hown1
  have HB1 := lh hb1; have HR1 := lh hown1
  have hs1 := hb1.size
  clear hown1 hgr1 hat1 hb1 HSRC
  refine hKK.out _ _ (fun _ => ⟨(HB1.out.cell (p := ⟨qb, 0, none⟩) hqb).trans HS.out.1, (HB1.out.cell (p := ⟨qb, 1, none⟩) hqb).trans HS.out.2.1, (HB1.out.cell (p := ⟨qb, 2, none⟩) hqb).trans HS.out.2.2.1, (HB1.out.cell (p := ⟨qb, 3, none⟩) hqb).trans HS.out.2.2.2.1, (HB1.out.cell (p := ⟨qb, 4, none⟩) hqb).trans HS.out.2.2.2.2⟩) ?_
  clear hKK KK
  refine wpAnyZ_one 3 (o := { dst := some 31, op := Op.buildSlice 22 1 #[(0, Operand.tmp 30)], type := 22, pos := "ref.go:445", after := #[{ on := 2, ground := Ground.data }], guard := none }) (by kernel_rfl) rfl fun KK hKK => ?_
  have hba : Below w1.heap.size w1 (w1.alloc (.cells #[.string nm] 9)) := (Below.refl _ _).alloc (Nat.le_refl _) _
  have hb2 := HB1.out.trans (hba.mono hs1)
  have hr2 := HR1.out.alloc (.cells #[.string nm] 9)
  have hg2 := heap_alloc_new w1 (.cells #[.string nm] 9)
  go_simp
  generalize (w1.alloc (.cells #[.string nm] 9)) = w2 at *
  have hkk : (w2.cell? ⟨qb, 0, none⟩ = some (.int .i64 y0) ∧ w2.cell? ⟨qb, 1, none⟩ = some (.int .i64 y1) ∧ w2.cell? ⟨qb, 2, none⟩ = some (.string y2) ∧ w2.cell? ⟨qb, 3, none⟩ = some (.slice y3 m3 y4) ∧ w2.cell? ⟨qb, 4, none⟩ = some (.slice y5 m5 y6)) := ⟨(hb2.cell (p := ⟨qb, 0, none⟩) hqb).trans HS.out.1, (hb2.cell (p := ⟨qb, 1, none⟩) hqb).trans HS.out.2.1, (hb2.cell (p := ⟨qb, 2, none⟩) hqb).trans HS.out.2.2.1, (hb2.cell (p := ⟨qb, 3, none⟩) hqb).trans HS.out.2.2.2.1, (hb2.cell (p := ⟨qb, 4, none⟩) hqb).trans HS.out.2.2.2.2⟩
  refine hKK.out _ _ (fun _ => hkk) ?_
  clear hKK KK hba hkk HR1
  generalize w1.heap.size = g at *
  have HB2 := lh hb2; have HR2 := lh hr2; have HG2 := lh hg2
  have hs2 := hb2.size
  clear hb2 hr2 hg2
  have HSR2 := lh (strs_src (B := fun b => True) (w := w2) (x := .slice (some ⟨g, 0, none⟩) 1 1) (ss := [nm]) (.inr ⟨g, 0, 1, rfl, Nat.le_refl _, by unfold maxLen; omega, trivial, ⟨⟨cell_box HG2.out, hnm⟩, trivial⟩⟩))
  refine wpAnyZ_one 4 (o := { dst := some 32, op := Op.call { callee := Callee.builtin Builtin.append, args := #[Operand.tmp 29, Operand.tmp 31], argTypes := #[22, 22] }, type := 22, pos := "ref.go:445", after := #[{ on := 1, ground := Ground.data }, { on := 3, ground := Ground.data }, { on := 1, ground := Ground.chain }], guard := none }) (by kernel_rfl) rfl fun KK hKK => ?_
  refine step_append_any _ (by rfl) _ _ _ (by rfl) U.heap.size 9 i0 _ 1 16 Tz.underlying22 hi hz0 hz1 hz2 rfl (by decide) v1 fl.length (fl.map Value.string) (by go_simp) HR2.out (.slice (some ⟨g, 0, none⟩) 1 1) 1 ([nm].map Value.string) (by go_simp) HSR2.out (by unfold maxLen; omega) (by omega) (by omega) ?_
  intro v3 w3 hown3 hgr3 hat3
  have hb3 : Below U.heap.size U w3 := HB2.out.trans (below_of_grown hgr3 (by omega) fun g hg => (HR2.out.lt g hg).1)
  have HB3 := lh hb3; have HR3 := lh hown3
  have hs3 := hb3.size
  clear hown3 hgr3 hat3 hb3 HSR2
  refine hKK.out _ _ (fun _ => ⟨(HB3.out.cell (p := ⟨qb, 0, none⟩) hqb).trans HS.out.1, (HB3.out.cell (p := ⟨qb, 1, none⟩) hqb).trans HS.out.2.1, (HB3.out.cell (p := ⟨qb, 2, none⟩) hqb).trans HS.out.2.2.1, (HB3.out.cell (p := ⟨qb, 3, none⟩) hqb).trans HS.out.2.2.2.1, (HB3.out.cell (p := ⟨qb, 4, none⟩) hqb).trans HS.out.2.2.2.2⟩) ?_
  clear hKK KK
  refine wpAnyZ_one 6 (o := { dst := some 34, op := Op.call { callee := Callee.value (Operand.func 109), args := #[Operand.tmp 33], argTypes := #[32] }, type := 22, pos := "ref.go:445", after := #[{ on := 5, ground := Ground.data }, { on := 4, ground := Ground.chain }], guard := none }) (by kernel_rfl) rfl fun KK hKK => ?_
  have HC2' := lh (HC.out w3 HB3.out)
  go_simp
  refine HC2'.out.mono ?_
  rintro e w5 ⟨⟨v2, rfl, hv2⟩, hb5⟩
  have hs5 := hb5.size
  have HB5 := lh (HB3.out.trans (hb5.mono hs3))
  have HR5 := lh (ownsRow_of_block (w' := w5) HR3.out fun g hg => hb5.block g (HR3.out.lt g hg).2)
  have HSRC := lh (strs_src hv2)
  have HZ2 := lh (strs_size hv2)
  obtain ⟨ya, yc, rfl⟩ := hv2.split
  clear hb5 HC2' hv2 HR3
  refine hKK.out _ _ (fun _ => ⟨(HB5.out.cell (p := ⟨qb, 0, none⟩) hqb).trans HS.out.1, (HB5.out.cell (p := ⟨qb, 1, none⟩) hqb).trans HS.out.2.1, (HB5.out.cell (p := ⟨qb, 2, none⟩) hqb).trans HS.out.2.2.1, (HB5.out.cell (p := ⟨qb, 3, none⟩) hqb).trans HS.out.2.2.2.1, (HB5.out.cell (p := ⟨qb, 4, none⟩) hqb).trans HS.out.2.2.2.2⟩) ?_
  clear hKK KK
  refine wpAnyZ_one 7 (o := { dst := some 35, op := Op.call { callee := Callee.builtin Builtin.append, args := #[Operand.tmp 32, Operand.tmp 34], argTypes := #[22, 22] }, type := 22, pos := "ref.go:445", after := #[{ on := 4, ground := Ground.data }, { on := 6, ground := Ground.data }, { on := 6, ground := Ground.chain }], guard := none }) (by kernel_rfl) rfl fun KK hKK => ?_
  refine step_append_any _ (by rfl) _ _ _ (by rfl) U.heap.size 9 i0 _ 1 16 Tz.underlying22 hi hz0 hz1 hz2 rfl (by decide) v3 (fl.length + 1) (fl.map Value.string ++ [nm].map Value.string) (by go_simp) HR5.out (.slice ya sl.length yc) sl.length (sl.map Value.string) (by go_simp) HSRC.out (by unfold maxLen; omega) (by omega) (by omega) ?_
  intro v4 w4 hown4 hgr4 hat4
  have hb4 : Below U.heap.size U w4 := HB5.out.trans (below_of_grown hgr4 (by omega) fun g hg => (HR5.out.lt g hg).1)
  have HB4 := lh hb4
  have HR4 : Hid (w4.ownsRow U.heap.size 9 1 v4 (fl ++ [nm] ++ sl).length ((fl ++ [nm] ++ sl).map Value.string)) := by
   unfold Hid
   rw [List.length_append, List.length_append, List.map_append, List.map_append]
   exact hown4
  clear hown4 hgr4 hat4 hb4 HSRC
  refine hKK.out _ _ (fun _ => ⟨(HB4.out.cell (p := ⟨qb, 0, none⟩) hqb).trans HS.out.1, (HB4.out.cell (p := ⟨qb, 1, none⟩) hqb).trans HS.out.2.1, (HB4.out.cell (p := ⟨qb, 2, none⟩) hqb).trans HS.out.2.2.1, (HB4.out.cell (p := ⟨qb, 3, none⟩) hqb).trans HS.out.2.2.2.1, (HB4.out.cell (p := ⟨qb, 4, none⟩) hqb).trans HS.out.2.2.2.2⟩) ?_
  clear hKK KK
  refine wpAnyZ_one 8 (o := { dst := some 8, op := Op.assign (Operand.tmp 35), type := 22, pos := "ref.go:445", after := #[{ on := 7, ground := Ground.data }, { on := 7, ground := Ground.chain }, { on := 0, ground := Ground.phase }, { on := 1, ground := Ground.phase }, { on := 2, ground := Ground.phase }, { on := 3, ground := Ground.phase }, { on := 4, ground := Ground.phase }, { on := 5, ground := Ground.phase }, { on := 6, ground := Ground.phase }, { on := 7, ground := Ground.phase }], guard := none }) (by kernel_rfl) rfl fun KK hKK => ?_
  go_simp
  refine hKK.out _ _ (fun h => absurd rfl h) ?_
  refine wpAnyZ_done (by kernel_rfl) ?_ _
  have hz : ∀ s ∈ fl ++ [nm] ++ sl, s.size ≤ maxLen := fun s hs => by
   rcases List.mem_append.1 hs with h | h
   ·rcases List.mem_append.1 h with h | h
    ·exact HZF.out s h
    ·rw [List.mem_singleton] at h; subst h; exact hnm
   ·exact HZ2.out s h
  exact HK.out _ _ _ _ _ _ _ v4 w4 HR4.out HB4.out hz
 ·have hba : Below U.heap.size U (U.alloc (.cells #[.string nm] 9)).drew := ((Below.refl _ U).alloc (Nat.le_refl _) _).trans (below_drew _ _)
  have hg1 : (U.alloc (.cells #[.string nm] 9)).drew.heap[U.heap.size]? = some (.cells #[.string nm] 9 (0, 0)) := heap_alloc_new U (.cells #[.string nm] 9)
  have hsa : U.heap.size < (U.alloc (.cells #[.string nm] 9)).drew.heap.size := lt_of_block hg1
  go_simp
  generalize (U.alloc (.cells #[.string nm] 9)).drew = w1 at *
  have HBA := lh hba; have HG1 := lh hg1
  have hs1 := hba.size
  refine hKK.out _ _ (fun _ => ⟨(HBA.out.cell (p := ⟨qb, 0, none⟩) hqb).trans HS.out.1, (HBA.out.cell (p := ⟨qb, 1, none⟩) hqb).trans HS.out.2.1, (HBA.out.cell (p := ⟨qb, 2, none⟩) hqb).trans HS.out.2.2.1, (HBA.out.cell (p := ⟨qb, 3, none⟩) hqb).trans HS.out.2.2.2.1, (HBA.out.cell (p := ⟨qb, 4, none⟩) hqb).trans HS.out.2.2.2.2⟩) ?_
  clear hKK KK hba hg1
  refine wpAnyZ_one 1 (o := { dst := some 29, op := Op.call { callee := Callee.builtin Builtin.append, args := #[Operand.const (Value.slice none 0 0), Operand.tmp 28], argTypes := #[22, 22] }, type := 22, pos := "ref.go:445", after := #[{ on := 0, ground := Ground.data }], guard := none }) (by kernel_rfl) rfl fun KK hKK => ?_
  have HSRC := lh (strs_src (w := w1) (HFL.out.mono (fun b h => h) fun b o h hs => StrsAt.keep HBA.out _ _ _ h hs))
  refine step_append_any _ (by rfl) _ _ _ (by rfl) U.heap.size 9 i0 _ 1 16 Tz.underlying22 hi hz0 hz1 hz2 rfl (by decide) (.slice none 0 0) 0 [] (by go_simp) (World.ownsRow_nil _ _ _ _) (.slice fa fl.length fc) fl.length (fl.map Value.string) (by go_simp) HSRC.out (by unfold maxLen; omega) (by omega) (by exact hs1) ?_
  intro v1 w2 hown1 hgr1 hat1
  have hb1 : Below U.heap.size U w2 := HBA.out.trans (below_of_grown hgr1 (by exact hs1) fun g hg => by cases hg)
  rw [Nat.zero_add, List.nil_append] at hown1
  have hg2 := (hgr1.block U.heap.size (by omega) (by intro h; cases h)).trans HG1.out
  have hr2 := hown1
  have hb2 := hb1
  clear hown1 hgr1 hat1 hb1 HSRC
  refine hKK.out _ _ (fun _ => ⟨(hb2.cell (p := ⟨qb, 0, none⟩) hqb).trans HS.out.1, (hb2.cell (p := ⟨qb, 1, none⟩) hqb).trans HS.out.2.1, (hb2.cell (p := ⟨qb, 2, none⟩) hqb).trans HS.out.2.2.1, (hb2.cell (p := ⟨qb, 3, none⟩) hqb).trans HS.out.2.2.2.1, (hb2.cell (p := ⟨qb, 4, none⟩) hqb).trans HS.out.2.2.2.2⟩) ?_
  clear hKK KK
  have HB2 := lh hb2; have HR2 := lh hr2; have HG2 := lh hg2
  have hs2 := hb2.size
  clear hb2 hr2 hg2
  have HSR2 := lh (strs_src (B := fun b => True) (w := w2) (x := .slice (some ⟨U.heap.size, 0, none⟩) 1 1) (ss := [nm]) (.inr ⟨U.heap.size, 0, 1, rfl, Nat.le_refl _, by unfold maxLen; omega, trivial, ⟨⟨cell_box HG2.out, hnm⟩, trivial⟩⟩))
  refine wpAnyZ_one 4 (o := { dst := some 32, op := Op.call { callee := Callee.builtin Builtin.append, args := #[Operand.tmp 29, Operand.tmp 31], argTypes := #[22, 22] }, type := 22, pos := "ref.go:445", after := #[{ on := 1, ground := Ground.data }, { on := 3, ground := Ground.data }, { on := 1, ground := Ground.chain }], guard := none }) (by kernel_rfl) rfl fun KK hKK => ?_
  refine step_append_any _ (by rfl) _ _ _ (by rfl) U.heap.size 9 i0 _ 1 16 Tz.underlying22 hi hz0 hz1 hz2 rfl (by decide) v1 fl.length (fl.map Value.string) (by go_simp) HR2.out (.slice (some ⟨U.heap.size, 0, none⟩) 1 1) 1 ([nm].map Value.string) (by go_simp) HSR2.out (by unfold maxLen; omega) (by omega) (by omega) ?_
  intro v3 w3 hown3 hgr3 hat3
  have hb3 : Below U.heap.size U w3 := HB2.out.trans (below_of_grown hgr3 (by omega) fun g hg => (HR2.out.lt g hg).1)
  have HB3 := lh hb3; have HR3 := lh hown3
  have hs3 := hb3.size
  clear hown3 hgr3 hat3 hb3 HSR2
  refine hKK.out _ _ (fun _ => ⟨(HB3.out.cell (p := ⟨qb, 0, none⟩) hqb).trans HS.out.1, (HB3.out.cell (p := ⟨qb, 1, none⟩) hqb).trans HS.out.2.1, (HB3.out.cell (p := ⟨qb, 2, none⟩) hqb).trans HS.out.2.2.1, (HB3.out.cell (p := ⟨qb, 3, none⟩) hqb).trans HS.out.2.2.2.1, (HB3.out.cell (p := ⟨qb, 4, none⟩) hqb).trans HS.out.2.2.2.2⟩) ?_
  clear hKK KK
  refine wpAnyZ_one 6 (o := { dst := some 34, op := Op.call { callee := Callee.value (Operand.func 109), args := #[Operand.tmp 33], argTypes := #[32] }, type := 22, pos := "ref.go:445", after := #[{ on := 5, ground := Ground.data }, { on := 4, ground := Ground.chain }], guard := none }) (by kernel_rfl) rfl fun KK hKK => ?_
  have HC2' := lh (HC.out w3 HB3.out)
  go_simp
  refine HC2'.out.mono ?_
  rintro e w5 ⟨⟨v2, rfl, hv2⟩, hb5⟩
  have hs5 := hb5.size
  have HB5 := lh (HB3.out.trans (hb5.mono hs3))
  have HR5 := lh (ownsRow_of_block (w' := w5) HR3.out fun g hg => hb5.block g (HR3.out.lt g hg).2)
  have HSRC := lh (strs_src hv2)
  have HZ2 := lh (strs_size hv2)
  obtain ⟨ya, yc, rfl⟩ := hv2.split
  clear hb5 HC2' hv2 HR3
  refine hKK.out _ _ (fun _ => ⟨(HB5.out.cell (p := ⟨qb, 0, none⟩) hqb).trans HS.out.1, (HB5.out.cell (p := ⟨qb, 1, none⟩) hqb).trans HS.out.2.1, (HB5.out.cell (p := ⟨qb, 2, none⟩) hqb).trans HS.out.2.2.1, (HB5.out.cell (p := ⟨qb, 3, none⟩) hqb).trans HS.out.2.2.2.1, (HB5.out.cell (p := ⟨qb, 4, none⟩) hqb).trans HS.out.2.2.2.2⟩) ?_
  clear hKK KK
  refine wpAnyZ_one 7 (o := { dst := some 35, op := Op.call { callee := Callee.builtin Builtin.append, args := #[Operand.tmp 32, Operand.tmp 34], argTypes := #[22, 22] }, type := 22, pos := "ref.go:445", after := #[{ on := 4, ground := Ground.data }, { on := 6, ground := Ground.data }, { on := 6, ground := Ground.chain }], guard := none }) (by kernel_rfl) rfl fun KK hKK => ?_
  refine step_append_any _ (by rfl) _ _ _ (by rfl) U.heap.size 9 i0 _ 1 16 Tz.underlying22 hi hz0 hz1 hz2 rfl (by decide) v3 (fl.length + 1) (fl.map Value.string ++ [nm].map Value.string) (by go_simp) HR5.out (.slice ya sl.length yc) sl.length (sl.map Value.string) (by go_simp) HSRC.out (by unfold maxLen; omega) (by omega) (by omega) ?_
  intro v4 w4 hown4 hgr4 hat4
  have hb4 : Below U.heap.size U w4 := HB5.out.trans (below_of_grown hgr4 (by omega) fun g hg => (HR5.out.lt g hg).1)
  have HB4 := lh hb4
  have HR4 : Hid (w4.ownsRow U.heap.size 9 1 v4 (fl ++ [nm] ++ sl).length ((fl ++ [nm] ++ sl).map Value.string)) := by
   unfold Hid
   rw [List.length_append, List.length_append, List.map_append, List.map_append]
   exact hown4
  clear hown4 hgr4 hat4 hb4 HSRC
  refine hKK.out _ _ (fun _ => ⟨(HB4.out.cell (p := ⟨qb, 0, none⟩) hqb).trans HS.out.1, (HB4.out.cell (p := ⟨qb, 1, none⟩) hqb).trans HS.out.2.1, (HB4.out.cell (p := ⟨qb, 2, none⟩) hqb).trans HS.out.2.2.1, (HB4.out.cell (p := ⟨qb, 3, none⟩) hqb).trans HS.out.2.2.2.1, (HB4.out.cell (p := ⟨qb, 4, none⟩) hqb).trans HS.out.2.2.2.2⟩) ?_
  clear hKK KK
  refine wpAnyZ_one 8 (o := { dst := some 8, op := Op.assign (Operand.tmp 35), type := 22, pos := "ref.go:445", after := #[{ on := 7, ground := Ground.data }, { on := 7, ground := Ground.chain }, { on := 0, ground := Ground.phase }, { on := 1, ground := Ground.phase }, { on := 2, ground := Ground.phase }, { on := 3, ground := Ground.phase }, { on := 4, ground := Ground.phase }, { on := 5, ground := Ground.phase }, { on := 6, ground := Ground.phase }, { on := 7, ground := Ground.phase }], guard := none }) (by kernel_rfl) rfl fun KK hKK => ?_
  go_simp
  refine hKK.out _ _ (fun h => absurd rfl h) ?_
  refine wpAnyZ_done (by kernel_rfl) ?_ _
  have hz : ∀ s ∈ fl ++ [nm] ++ sl, s.size ≤ maxLen := fun s hs => by
   rcases List.mem_append.1 hs with h | h
   ·rcases List.mem_append.1 h with h | h
    ·exact HZF.out s h
    ·rw [List.mem_singleton] at h; subst h; exact hnm
   ·exact HZ2.out s h
  have h := HK.out (.slice fa fl.length fc) v1 (.string nm) (.slice (some ⟨U.heap.size, 0, none⟩) 1 1) v3 (.agg #[.int .i64 y0, .int .i64 y1, .string y2, .slice y3 m3 y4, .slice y5 m5 y6]) (.slice ya sl.length yc) v4 w4 HR4.out HB4.out hz
  rw [Array.setIfInBounds_comm (i := 29) (j := 31) _ _ (by decide)] at h
  exact h
set_option maxHeartbeats 4000000 in
set_option maxRecDepth 100000 in
theorem reg50b {Q : Exit → Act → World → Prop} {a : Act} {U : World} {qb bb bo i k bn bc : Nat} {y0 y1 : Int} {y2 x other : ByteArray} {y3 y5 : Option Addr} {m3 y4 m5 y6 : Nat} {R : Value → World → Prop}
  (hsz : a.tmps.size = 101) (h3 : a.tmps[3]'(by omega) = .pointer (some ⟨qb, 0, none⟩)) (h9 : a.tmps[9]'(by omega) = .int .i64 i) (h10 : a.tmps[10]'(by omega) = .slice (some ⟨bb, bo, none⟩) bn bc) (h11 : a.tmps[11]'(by omega) = .int .i64 k) (h12 : a.tmps[12]'(by omega) = .string other)
  (hQ : ∀ c (d : Nat) v (a : Act) w, Q (.panic c) (a.put (some d) v) w → Q (.panic c) a w)
  (hS : ((U.cell? ⟨qb, 0, none⟩ = some (.int .i64 y0) ∧ U.cell? ⟨qb, 1, none⟩ = some (.int .i64 y1) ∧ U.cell? ⟨qb, 2, none⟩ = some (.string y2) ∧ U.cell? ⟨qb, 3, none⟩ = some (.slice y3 m3 y4) ∧ U.cell? ⟨qb, 4, none⟩ = some (.slice y5 m5 y6)) ∧ U.cell? ⟨bb, bo + k, none⟩ = some (.string x))) (hq : U.heap[qb]? = some (.cells #[.int .i64 y0, .int .i64 y1, .string y2, .slice y3 m3 y4, .slice y5 m5 y6] 32 (0, 0))) (hbb : bb < U.heap.size) (hk : k < bn)
  (hc : Calls Tryz.prog 110 #[.agg #[.int .i64 y0, .int .i64 y1, .string y2, .slice y3 m3 y4, .slice y5 m5 y6], .int .i64 i, .string x, .string other] U.drew fun e w' => (∃ o2 n2 t2 ka2 kn2 kc2 pa2 pn2 pc2, e = .returned (.agg #[.int .i64 o2, .int .i64 n2, .string t2, .slice ka2 kn2 kc2, .slice pa2 pn2 pc2]) ∧ R (.agg #[.int .i64 o2, .int .i64 n2, .string t2, .slice ka2 kn2 kc2, .slice pa2 pn2 pc2]) w') ∧ Below U.heap.size U w')
  (hK : ∀ (u64 u65 u66 u67 u68 u69 u70 v : Value) (o2 n2 : Int) (t2 : ByteArray) (ka2 : Option Addr) (kn2 kc2 : Nat) (pa2 : Option Addr) (pn2 pc2 : Nat) (w1 : World), R (.agg #[.int .i64 o2, .int .i64 n2, .string t2, .slice ka2 kn2 kc2, .slice pa2 pn2 pc2]) w1 → Below U.heap.size U w1 →
   Q .normal { tmps := ((((((((a.tmps.setIfInBounds 64 u64).setIfInBounds 65 u65).setIfInBounds 66 u66).setIfInBounds 67 u67).setIfInBounds 68 u68).setIfInBounds 69 u69).setIfInBounds 70 u70).setIfInBounds 71 v), defers := a.defers } (((((w1.setCell ⟨qb, 0, none⟩ (.int .i64 o2)).setCell ⟨qb, 1, none⟩ (.int .i64 n2)).setCell ⟨qb, 2, none⟩ (.string t2)).setCell ⟨qb, 3, none⟩ (.slice ka2 kn2 kc2)).setCell ⟨qb, 4, none⟩ (.slice pa2 pn2 pc2))) :
  (Code.region 17 ops50b true).wp Tryz.prog Q a U := by
 have hS0 : ((U.drew.cell? ⟨qb, 0, none⟩ = some (.int .i64 y0) ∧ U.drew.cell? ⟨qb, 1, none⟩ = some (.int .i64 y1) ∧ U.drew.cell? ⟨qb, 2, none⟩ = some (.string y2) ∧ U.drew.cell? ⟨qb, 3, none⟩ = some (.slice y3 m3 y4) ∧ U.drew.cell? ⟨qb, 4, none⟩ = some (.slice y5 m5 y6)) ∧ U.drew.cell? ⟨bb, bo + k, none⟩ = some (.string x)) := hS
 have hk' : (k : Int) < (bn : Int) := by omega
 have hqb := lt_of_block hq
 have HS := lh hS; have HC := lh hc; have HK := lh hK; have HQ := lh hq
 clear hS hc hK hq
 refine wp_region_z (fun w' => ((w'.cell? ⟨qb, 0, none⟩ = some (.int .i64 y0) ∧ w'.cell? ⟨qb, 1, none⟩ = some (.int .i64 y1) ∧ w'.cell? ⟨qb, 2, none⟩ = some (.string y2) ∧ w'.cell? ⟨qb, 3, none⟩ = some (.slice y3 m3 y4) ∧ w'.cell? ⟨qb, 4, none⟩ = some (.slice y5 m5 y6)) ∧ w'.cell? ⟨bb, bo + k, none⟩ = some (.string x))) 8 (by kernel_rfl) ?_
 refine wpAnyZ_take 0 (oi := { dst := some 64, op := Op.load 32 (Operand.tmp 3), type := 32, pos := "ref.go:452", after := #[], guard := none }) hS0 rfl (by kernel_rfl) (by kernel_rfl) (by kernel_rfl) (fun c a w h => hQ c _ _ a w h) (by kernel_rfl) rfl (by rfl) (by rintro w' ⟨⟨k0, k1, k2, k3, k4⟩, m0⟩; go_simp <;> rfl) ?_
 refine wpAnyZ_take 1 (oi := { dst := some 65, op := Op.move (Operand.tmp 9), type := 3, pos := "ref.go:452", after := #[], guard := none }) hS0 rfl (by kernel_rfl) (by kernel_rfl) (by kernel_rfl) (fun c a w h => hQ c _ _ a w h) (by kernel_rfl) rfl (by rfl) (by rintro w' ⟨⟨k0, k1, k2, k3, k4⟩, m0⟩; go_simp <;> rfl) ?_
 refine wpAnyZ_take 2 (oi := { dst := some 66, op := Op.move (Operand.tmp 10), type := 22, pos := "ref.go:452", after := #[], guard := none }) hS0 rfl (by kernel_rfl) (by kernel_rfl) (by kernel_rfl) (fun c a w h => hQ c _ _ a w h) (by kernel_rfl) rfl (by rfl) (by rintro w' ⟨⟨k0, k1, k2, k3, k4⟩, m0⟩; go_simp <;> rfl) ?_
 refine wpAnyZ_take 3 (oi := { dst := some 67, op := Op.move (Operand.tmp 11), type := 3, pos := "ref.go:452", after := #[], guard := none }) hS0 rfl (by kernel_rfl) (by kernel_rfl) (by kernel_rfl) (fun c a w h => hQ c _ _ a w h) (by kernel_rfl) rfl (by rfl) (by rintro w' ⟨⟨k0, k1, k2, k3, k4⟩, m0⟩; go_simp <;> rfl) ?_
 refine wpAnyZ_take 4 (oi := { dst := some 68, op := Op.indexAddr 22 (Operand.tmp 66) (Operand.tmp 67), type := 0, pos := "ref.go:452", after := #[{ on := 2, ground := Ground.data }, { on := 3, ground := Ground.data }], guard := none }) hS0 rfl (by kernel_rfl) (by kernel_rfl) (by kernel_rfl) (fun c a w h => hQ c _ _ a w h) (by kernel_rfl) rfl (by rfl) (by rintro w' ⟨⟨k0, k1, k2, k3, k4⟩, m0⟩; go_simp <;> rfl) ?_
 refine wpAnyZ_take 5 (oi := { dst := some 69, op := Op.load 9 (Operand.tmp 68), type := 9, pos := "ref.go:452", after := #[{ on := 4, ground := Ground.data }], guard := none }) hS0 rfl (by kernel_rfl) (by kernel_rfl) (by kernel_rfl) (fun c a w h => hQ c _ _ a w h) (by kernel_rfl) rfl (by rfl) (by rintro w' ⟨⟨k0, k1, k2, k3, k4⟩, m0⟩; go_simp <;> rfl) ?_
 refine wpAnyZ_take 6 (oi := { dst := some 70, op := Op.move (Operand.tmp 12), type := 9, pos := "ref.go:452", after := #[], guard := none }) hS0 rfl (by kernel_rfl) (by kernel_rfl) (by kernel_rfl) (fun c a w h => hQ c _ _ a w h) (by kernel_rfl) rfl (by rfl) (by rintro w' ⟨⟨k0, k1, k2, k3, k4⟩, m0⟩; go_simp <;> rfl) ?_
 clear hS0
 refine wpAnyZ_one 7 (o := { dst := some 71, op := Op.call { callee := Callee.value (Operand.func 110), args := #[Operand.tmp 64, Operand.tmp 65, Operand.tmp 69, Operand.tmp 70], argTypes := #[32, 3, 9, 9] }, type := 32, pos := "ref.go:452", after := #[{ on := 0, ground := Ground.data }, { on := 1, ground := Ground.data }, { on := 5, ground := Ground.data }, { on := 6, ground := Ground.data }], guard := none }) (by kernel_rfl) rfl fun KK hKK => ?_
 go_simp
 refine HC.out.mono ?_
 rintro e w1 ⟨⟨o2, n2, t2, ka2, kn2, kc2, pa2, pn2, pc2, rfl, hr⟩, hb1⟩
 have HB1 := lh hb1; have HR1 := lh hr
 have hq1 := bget' hb1 HQ.out
 obtain ⟨c0, c1, c2, c3, c4⟩ := cells5 hq1
 have fq := free_box hq1
 clear hb1 hr hq1
 refine hKK.out _ _ (fun _ => ⟨⟨(HB1.out.cell (p := ⟨qb, 0, none⟩) hqb).trans HS.out.1.1, (HB1.out.cell (p := ⟨qb, 1, none⟩) hqb).trans HS.out.1.2.1, (HB1.out.cell (p := ⟨qb, 2, none⟩) hqb).trans HS.out.1.2.2.1, (HB1.out.cell (p := ⟨qb, 3, none⟩) hqb).trans HS.out.1.2.2.2.1, (HB1.out.cell (p := ⟨qb, 4, none⟩) hqb).trans HS.out.1.2.2.2.2⟩, (HB1.out.cell (p := ⟨bb, _, none⟩) hbb).trans HS.out.2⟩) ?_
 clear hKK KK
 refine wpAnyZ_one 8 (o := { dst := none, op := Op.store 32 (Operand.tmp 3) (Operand.tmp 71), type := 0, pos := "ref.go:452", after := #[{ on := 7, ground := Ground.data }, { on := 7, ground := Ground.chain }, { on := 0, ground := Ground.phase }, { on := 1, ground := Ground.phase }, { on := 2, ground := Ground.phase }, { on := 3, ground := Ground.phase }, { on := 4, ground := Ground.phase }, { on := 5, ground := Ground.phase }, { on := 6, ground := Ground.phase }, { on := 7, ground := Ground.phase }], guard := none }) (by kernel_rfl) rfl fun KK hKK => ?_
 go_simp
 refine hKK.out _ _ (fun h => absurd rfl h) ?_
 refine wpAnyZ_done (by kernel_rfl) ?_ _
 exact HK.out _ _ _ _ _ _ _ _ o2 n2 t2 ka2 kn2 kc2 pa2 pn2 pc2 w1 HR1.out HB1.out
end Go.Proofs.YtjpahjfjpkbcnaaGreat
namespace Go.Proofs.YtjpahjfjpkbcnaaGreat
open Go.Proofs Go.RowKit
def sbN (fr : List ByteArray) (i : Nat) : List ByteArray → Tm × List ByteArray → Tm × List ByteArray
 | [], s => s
 | x :: xs, s => sbN fr i xs (if hasB fr x = true then (rbM x (firstW (inL s.2)) i s.1, s.2 ++ [firstW (inL s.2)]) else s)
def sbI (fr : List ByteArray) : Nat → Nat → Tm × List ByteArray → Tm × List ByteArray
 | 0, _, s => s
 | n + 1, i, s => sbI fr n (i + 1) (sbN fr i (boundL s.1 i) s)
def sbT (fr : List ByteArray) (nm : ByteArray) (T : Tm) : Tm := (sbI fr T.kids.length 0 (T, fr ++ [nm] ++ stP T)).1
def subR (nm : ByteArray) (by' : Tm) : Nat → Tm → Tm
 | 0, T => T
 | f + 1, T =>
  if hasB (rfree T) nm = false then T
  else if T.op = 4 then by'
  else .mk (sbT (rfree by') nm T).op (sbT (rfree by') nm T).n (sbT (rfree by') nm T).text ((List.range T.kids.length).map fun i => if hasB (boundL (sbT (rfree by') nm T) i) nm = true then (sbT (rfree by') nm T).kids.getD i default else subR nm by' f ((sbT (rfree by') nm T).kids.getD i default)) (sbT (rfree by') nm T).pats
theorem subR_free {nm : ByteArray} {by' : Tm} {f : Nat} {T : Tm} (h : hasB (rfree T) nm = false) : subR nm by' (f + 1) T = T := by unfold subR; rw [if_pos h]
theorem subR_name {nm : ByteArray} {by' : Tm} {f : Nat} {T : Tm} (h : hasB (rfree T) nm = true) (h4 : T.op = 4) : subR nm by' (f + 1) T = by' := by
 unfold subR; rw [if_neg (by rw [h]; simp), if_pos h4]
theorem sbN_drop (fr : List ByteArray) (i : Nat) (bl : List ByteArray) (k : Nat) (hk : k < bl.length) (s : Tm × List ByteArray) : sbN fr i (bl.drop k) s = sbN fr i (bl.drop (k + 1)) (if hasB fr bl[k] = true then (rbM bl[k] (firstW (inL s.2)) i s.1, s.2 ++ [firstW (inL s.2)]) else s) := by
 rw [List.drop_eq_getElem_cons hk]
 rfl
structure KS (T T' : Tm) : Prop where
 rs : RS T'
 op : T'.op = T.op
 len : T'.kids.length = T.kids.length
 h : heightM T' = heightM T
 b : ∀ k, (boundL T' k).length = (boundL T k).length
theorem KS.refl {T : Tm} (h : RS T) : KS T T := ⟨h, rfl, rfl, rfl, fun _ => rfl⟩
theorem opRb (nm ot : ByteArray) (i : Nat) (T : Tm) : (rbM nm ot i T).op = T.op := by cases T; rfl
theorem lenRb (nm ot : ByteArray) (i : Nat) (T : Tm) : (rbM nm ot i T).kids.length = T.kids.length := by
 cases T with
 | mk op n t ks ps => exact List.length_set
theorem KS.rb {T T' : Tm} (h : KS T T') (nm ot : ByteArray) (hot : nameB ot = true) (i : Nat) (hi : i < T.kids.length) : KS T (rbM nm ot i T') :=
 ⟨h.rs.rb nm ot hot i (by rw [h.len]; exact hi), by rw [opRb]; exact h.op, by rw [lenRb]; exact h.len, by rw [height_rb]; exact h.h, fun k => by rw [bound_rb]; exact h.b k⟩
theorem RS.k6 {T : Tm} (h : RS T) : T.kids.length ≤ 6 := ((okB_eq T).1 h.b).1
theorem RS.b12 {T : Tm} (h : RS T) (k : Nat) : (boundL T k).length ≤ 12 := ((okB_eq T).1 h.b).2.1 k
theorem RS.p15 {T : Tm} (h : RS T) (h15 : T.op = 15) (k : Nat) (h0 : 0 < k) (hk : k < T.kids.length) : k - 1 < T.pats.length := by
 obtain ⟨hf, -, -, -⟩ := h
 cases T with
 | mk op n t ks ps =>
  unfold okF at hf
  have h1 : ks.length ≤ ps.length + 1 := hf.1 h15
  have h2 : k < ks.length := hk
  show k - 1 < ps.length
  omega
theorem RS.pp {T : Tm} (h : RS T) : ∀ p ∈ T.pats, patsB p = true ∧ (partsP 1 p).length ≤ 1000000 := by
 obtain ⟨hf, -, -, -⟩ := h
 cases T with
 | mk op n t ks ps =>
  unfold okF at hf
  exact hf.2.2.1
theorem bound_pos {T : Tm} {i k : Nat} (h : k < (boundL T i).length) (h15 : T.op = 15) : 0 < i := by
 unfold boundL at h
 rw [if_neg (by rw [h15]; omega)] at h
 split at h
 ·rename_i h'; exact h'.2
 ·cases h
theorem ownX_grow {B : Nat → Prop} {U w w' : World} {vo v' : Value} {X : Obj} (hBb : ∀ b, B b → b < U.heap.size) (hU : U.heap.size ≤ w.heap.size) (hown : ∀ k, vo.ownBlock = some k → U.heap.size ≤ k ∧ k < w.heap.size)
  (hgr : (w.alloc X).grownBy w' vo.ownBlock) (hat : v'.ownBlock = vo.ownBlock ∨ v'.ownBlock = some (w.alloc X).heap.size) :
  (∀ b, OwnX B U w vo b → w'.heap[b]? = w.heap[b]?) ∧ (∀ b, OwnX B U w vo b → OwnX B U w' v' b) ∧ Kept (fun k => vo.ownBlock = some k) w w' := by
 have hk : Kept (fun k => vo.ownBlock = some k) w w' := kept_grown hgr fun k h => h
 have hs := hk.size
 have blk : ∀ b, OwnX B U w vo b → b < w.heap.size ∧ ¬ vo.ownBlock = some b := fun b h => by
  rcases h with h | h
  ·have := hBb b h
   exact ⟨by omega, fun e => by have := (hown b e).1; omega⟩
  ·exact ⟨h.2.1, h.2.2⟩
 refine ⟨fun b h => hk.block b (blk b h).1 (blk b h).2, fun b h => ?_, hk⟩
 rcases h with h | h
 ·exact .inl h
 ·refine .inr ⟨h.1, by have := h.2.1; omega, fun e => ?_⟩
  rcases hat with he | he
  ·rw [he] at e; exact h.2.2 e
  ·rw [he] at e
   have h2 := h.2.1
   simp at e
   omega
structure SbIn (B : Nat → Prop) (W3 : World) (n0 : Nat) (bl : List ByteArray) (bv : Value) (T' : Tm) (tk : List ByteArray) (vt : Value) (ka pa : Option Addr) (kc pc : Nat) (wi : World) : Prop where
 sz : ∀ s ∈ tk, s.size ≤ maxLen
 row : wi.ownsRow W3.heap.size 9 1 vt tk.length (tk.map Value.string)
 box : wi.heap[n0]? = some (.cells #[.int .i64 T'.op, .int .i64 T'.n, .string T'.text, .slice ka T'.kids.length kc, .slice pa T'.pats.length pc] 32 (0, 0))
 tm : TmX (OwnX B W3 wi vt) wi T' (.agg #[.int .i64 T'.op, .int .i64 T'.n, .string T'.text, .slice ka T'.kids.length kc, .slice pa T'.pats.length pc])
 kp : Kept (fun k => k = n0) W3 wi
 bs : SlIn (fun b => W3.heap.size ≤ b ∧ b < wi.heap.size ∧ vt.ownBlock ≠ some b) bv bl.length fun b o => StrsAt wi bl b o
section
variable {B : Nat → Prop} {W3 : World} {n0 : Nat} {bl : List ByteArray} {bv : Value} {T' : Tm} {tk : List ByteArray} {vt : Value} {ka pa : Option Addr} {kc pc : Nat} {wi : World}
theorem SbIn.lt (h : SbIn B W3 n0 bl bv T' tk vt ka pa kc pc wi) (hB : ∀ b, B b → b < n0) (hn : n0 < W3.heap.size) (b : Nat) (hb : OwnX B W3 wi vt b) : b < wi.heap.size ∧ b ≠ n0 ∧ vt.ownBlock ≠ some b := by
 have hs := h.kp.size
 rcases hb with hb | hb
 ·have := hB b hb
  exact ⟨by omega, by omega, fun e => by have := (h.row.lt b e).1; omega⟩
 ·have := hb.1
  exact ⟨hb.2.1, by omega, hb.2.2⟩
theorem SbIn.at (h : SbIn B W3 n0 bl bv T' tk vt ka pa kc pc wi) (hB : ∀ b, B b → b < n0) (hn : n0 < W3.heap.size) : TmAt wi.heap.size wi T' (.agg #[.int .i64 T'.op, .int .i64 T'.n, .string T'.text, .slice ka T'.kids.length kc, .slice pa T'.pats.length pc]) :=
 TmX.to (fun b hb => (h.lt hB hn b hb).1) _ _ h.tm
theorem SbIn.below (h : SbIn B W3 n0 bl bv T' tk vt ka pa kc pc wi) (hB : ∀ b, B b → b < n0) (hn : n0 < W3.heap.size) {w1 : World} (hb : Below wi.heap.size wi w1) : SbIn B W3 n0 bl bv T' tk vt ka pa kc pc w1 := by
 have hs := hb.size
 refine ⟨h.sz, ownsRow_of_block h.row fun g hg => hb.block g (h.row.lt g hg).2, bget' hb h.box, TmX.keep (fun b hb' => hb.block b (h.lt hB hn b hb').1) (fun b hb' => ?_) _ _ h.tm, h.kp.trans (Kept.of_below hb), h.bs.mono (fun b hb' => ⟨hb'.1, by have := hb'.2.1; omega, hb'.2.2⟩) fun b o hb' hs' => StrsAt.keep hb _ _ _ hb'.2.1 hs'⟩
 exact hb'.imp_right fun h' => ⟨h'.1, by have := h'.2.1; omega, h'.2.2⟩
theorem SbIn.bind (h : SbIn B W3 n0 bl bv T' tk vt ka pa kc pc wi) (hB : ∀ b, B b → b < n0) (hn : n0 < W3.heap.size) {w1 : World} (hb : Below wi.heap.size wi w1) {bl2 : List ByteArray} {bv2 : Value} (hv : SlIn (Fresh wi w1) bv2 bl2.length fun b o => StrsAt w1 bl2 b o) : SbIn B W3 n0 bl2 bv2 T' tk vt ka pa kc pc w1 := by
 obtain ⟨a1, a2, a3, a4, a5, -⟩ := h.below hB hn hb
 have hs := h.kp.size
 exact ⟨a1, a2, a3, a4, a5, hv.mono (fun b hb' => ⟨by have := hb'.1; omega, hb'.2, fun e => by have := (h.row.lt b e).2; have := hb'.1; omega⟩) fun _ _ _ h => h⟩
theorem SbIn.nil (h : SbIn B W3 n0 bl bv T' tk vt ka pa kc pc wi) : SbIn B W3 n0 [] (.slice none 0 0) T' tk vt ka pa kc pc wi := ⟨h.sz, h.row, h.box, h.tm, h.kp, .inl ⟨rfl, rfl⟩⟩
theorem SbIn.grow (h : SbIn B W3 n0 bl bv T' tk vt ka pa kc pc wi) (hB : ∀ b, B b → b < n0) (hn : n0 < W3.heap.size) {X : Obj} {w' : World} {vt' : Value} {o : ByteArray} (ho : o.size ≤ maxLen) (hrow : w'.ownsRow W3.heap.size 9 1 vt' (tk.length + 1) (tk.map Value.string ++ [.string o]))
  (hgr : (wi.alloc X).grownBy w' vt.ownBlock) (hat : vt'.ownBlock = vt.ownBlock ∨ vt'.ownBlock = some (wi.alloc X).heap.size) : SbIn B W3 n0 bl bv T' (tk ++ [o]) vt' ka pa kc pc w' := by
 have hs := h.kp.size
 obtain ⟨s1, s2, s3⟩ := ownX_grow (B := B) (U := W3) (fun b hb => by have := hB b hb; omega) hs (fun k hk => h.row.lt k hk) hgr hat
 have hs3 := s3.size
 refine ⟨fun s hs' => ?_, ?_, (s3.block n0 (by omega) (fun e => by have := (h.row.lt n0 e).1; omega)).trans h.box, TmX.keep s1 s2 _ _ h.tm, ?_, h.bs.mono (fun b hb => ⟨hb.1, by have := hb.2.1; omega, fun e => ?_⟩) fun b o' hb hs' => StrsAt.same (s3.block b hb.2.1 hb.2.2) _ _ hs'⟩
 ·rcases List.mem_append.1 hs' with h' | h'
  ·exact h.sz s h'
  ·rw [List.mem_singleton] at h'; subst h'; exact ho
 ·rw [List.length_append, List.map_append]; exact hrow
 ·refine ⟨s3.os.trans h.kp.os, s3.tape.trans h.kp.tape, s3.output.trans h.kp.output, Nat.le_trans hs hs3, fun k hk hne => (s3.block k (by omega) (fun e => by have := (h.row.lt k e).1; omega)).trans (h.kp.block k hk hne)⟩
 ·rcases hat with he | he
  ·rw [he] at e; exact hb.2.2 e
  ·rw [he] at e
   have h2 := hb.2.1
   simp at e
   omega
theorem SbIn.set (h : SbIn B W3 n0 bl bv T' tk vt ka pa kc pc wi) (hB : ∀ b, B b → b < n0) (hn : n0 < W3.heap.size) {w1 : World} (hb : Below wi.heap.size wi w1) {T2 : Tm} {ka2 pa2 : Option Addr} {kc2 pc2 : Nat}
  (hT : TmX (fun b => OwnX B W3 wi vt b ∨ Fresh wi w1 b) w1 T2 (.agg #[.int .i64 T2.op, .int .i64 T2.n, .string T2.text, .slice ka2 T2.kids.length kc2, .slice pa2 T2.pats.length pc2])) :
  SbIn B W3 n0 bl bv T2 tk vt ka2 pa2 kc2 pc2 (((((w1.setCell ⟨n0, 0, none⟩ (.int .i64 T2.op)).setCell ⟨n0, 1, none⟩ (.int .i64 T2.n)).setCell ⟨n0, 2, none⟩ (.string T2.text)).setCell ⟨n0, 3, none⟩ (.slice ka2 T2.kids.length kc2)).setCell ⟨n0, 4, none⟩ (.slice pa2 T2.pats.length pc2)) := by
 have h1 := h.below hB hn hb
 have hs := h.kp.size
 have hs1 := hb.size
 have hkp := kept5 w1 n0 (.int .i64 T2.op) (.int .i64 T2.n) (.string T2.text) (.slice ka2 T2.kids.length kc2) (.slice pa2 T2.pats.length pc2)
 have hbx := box_set5 h1.box (.int .i64 T2.op) (.int .i64 T2.n) (.string T2.text) (.slice ka2 T2.kids.length kc2) (.slice pa2 T2.pats.length pc2)
 generalize (((((w1.setCell ⟨n0, 0, none⟩ (.int .i64 T2.op)).setCell ⟨n0, 1, none⟩ (.int .i64 T2.n)).setCell ⟨n0, 2, none⟩ (.string T2.text)).setCell ⟨n0, 3, none⟩ (.slice ka2 T2.kids.length kc2)).setCell ⟨n0, 4, none⟩ (.slice pa2 T2.pats.length pc2)) = w2 at *
 have hs2 := hkp.size
 have key : ∀ b, (OwnX B W3 wi vt b ∨ Fresh wi w1 b) → b < w1.heap.size ∧ b ≠ n0 ∧ OwnX B W3 w2 vt b := fun b hb' => by
  rcases hb' with h' | h'
  ·have := h.lt hB hn b h'
   exact ⟨by omega, this.2.1, h'.imp_right fun h'' => ⟨h''.1, by have := h''.2.1; omega, h''.2.2⟩⟩
  ·have h2 := h'.1; have h3 := h'.2
   exact ⟨h3, by omega, .inr ⟨by omega, by omega, fun e => by have := (h.row.lt b e).2; omega⟩⟩
 refine ⟨h1.sz, ownsRow_of_block h1.row fun g hg => hkp.block g (h1.row.lt g hg).2 (by have := (h1.row.lt g hg).1; omega), hbx, TmX.keep (fun b hb' => hkp.block b (key b hb').1 (key b hb').2.1) (fun b hb' => (key b hb').2.2) _ _ hT, h1.kp.trans hkp, h1.bs.mono (fun b hb' => ⟨hb'.1, by have := hb'.2.1; omega, hb'.2.2⟩) fun b o hb' hs' => StrsAt.same (hkp.block b hb'.2.1 (by have := hb'.1; omega)) _ _ hs'⟩
end
end Go.Proofs.YtjpahjfjpkbcnaaGreat
namespace Go.Proofs.YtjpahjfjpkbcnaaGreat
open Go.Proofs Go.RowKit
def sbK (nm : ByteArray) (by' : Tm) (f : Nat) (S : Tm) (i : Nat) : Tm := if hasB (boundL S i) nm = true then S.kids.getD i default else subR nm by' f (S.kids.getD i default)
theorem subR_node {nm : ByteArray} {by' : Tm} {f : Nat} {T S : Tm} (h : hasB (rfree T) nm = true) (h4 : T.op ≠ 4) (hS : sbT (rfree by') nm T = S) (hl : S.kids.length = T.kids.length) : subR nm by' (f + 1) T = .mk S.op S.n S.text ((List.range S.kids.length).map (sbK nm by' f S)) S.pats := by
 subst hS
 unfold subR
 rw [if_neg (by rw [h]; simp), if_neg h4, hl]
 rfl
end Go.Proofs.YtjpahjfjpkbcnaaGreat
