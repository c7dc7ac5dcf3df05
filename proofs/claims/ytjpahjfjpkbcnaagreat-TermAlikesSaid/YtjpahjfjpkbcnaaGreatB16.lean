/- Contracts of the program's functions. -/
import Derived.Test.YtjpahjfjpkbcnaaGreatB04
import Derived.Test.YtjpahjfjpkbcnaaGreatB07
import Derived.Test.YtjpahjfjpkbcnaaGreatB09
import Derived.Test.YtjpahjfjpkbcnaaGreatB11
import Derived.Test.YtjpahjfjpkbcnaaGreatB15

namespace Go.Proofs.YtjpahjfjpkbcnaaGreat
open Go.Proofs Go.RowKit
attribute [local go_sem] eval_put_same eval_put_ne size_put
def r107x0 : Oper := { dst := some 33, op := Op.move (Operand.tmp 0), type := 22, pos := "ref.go:356", after := #[], guard := none }
def r107x1 : Oper := { dst := some 34, op := Op.move (Operand.tmp 5), type := 3, pos := "ref.go:356", after := #[], guard := none }
def r107x2 : Oper := { dst := some 35, op := Op.slice 22 (Operand.tmp 33) none (some (Operand.tmp 34)) none, type := 22, pos := "ref.go:356", after := #[{ on := 0, ground := Ground.data }, { on := 1, ground := Ground.data }], guard := none }
def r107x3 : Oper := { dst := some 36, op := Op.call { callee := Callee.builtin Builtin.append, args := #[Operand.const (Value.slice none 0 0), Operand.tmp 35], argTypes := #[22, 22] }, type := 22, pos := "ref.go:356", after := #[{ on := 2, ground := Ground.data }], guard := none }
def r107x4 : Oper := { dst := some 37, op := Op.move (Operand.tmp 1), type := 9, pos := "ref.go:356", after := #[], guard := none }
def r107x5 : Oper := { dst := some 38, op := Op.buildSlice 22 1 #[(0, Operand.tmp 37)], type := 22, pos := "ref.go:356", after := #[{ on := 4, ground := Ground.data }], guard := none }
def r107x6 : Oper := { dst := some 39, op := Op.call { callee := Callee.builtin Builtin.append, args := #[Operand.tmp 36, Operand.tmp 38], argTypes := #[22, 22] }, type := 22, pos := "ref.go:356", after := #[{ on := 3, ground := Ground.data }, { on := 5, ground := Ground.data }, { on := 3, ground := Ground.chain }], guard := none }
def r107x7 : Oper := { dst := some 40, op := Op.move (Operand.tmp 0), type := 22, pos := "ref.go:356", after := #[], guard := none }
def r107x8 : Oper := { dst := some 41, op := Op.move (Operand.tmp 5), type := 3, pos := "ref.go:356", after := #[], guard := none }
def r107x9 : Oper := { dst := some 42, op := Op.slice 22 (Operand.tmp 40) (some (Operand.tmp 41)) none none, type := 22, pos := "ref.go:356", after := #[{ on := 7, ground := Ground.data }, { on := 8, ground := Ground.data }], guard := none }
def r107x10 : Oper := { dst := some 43, op := Op.call { callee := Callee.builtin Builtin.append, args := #[Operand.tmp 39, Operand.tmp 42], argTypes := #[22, 22] }, type := 22, pos := "ref.go:356", after := #[{ on := 6, ground := Ground.data }, { on := 9, ground := Ground.data }, { on := 6, ground := Ground.chain }], guard := none }
def r107x11 : Oper := { dst := some 4, op := Op.assign (Operand.tmp 43), type := 22, pos := "ref.go:356", after := #[{ on := 10, ground := Ground.data }, { on := 10, ground := Ground.chain }, { on := 0, ground := Ground.phase }, { on := 1, ground := Ground.phase }, { on := 2, ground := Ground.phase }, { on := 3, ground := Ground.phase }, { on := 4, ground := Ground.phase }, { on := 5, ground := Ground.phase }, { on := 6, ground := Ground.phase }, { on := 7, ground := Ground.phase }, { on := 8, ground := Ground.phase }, { on := 9, ground := Ground.phase }, { on := 10, ground := Ground.phase }], guard := none }
def ops107 : Array Oper := #[r107x0, r107x1, r107x2, r107x3, r107x4, r107x5, r107x6, r107x7, r107x8, r107x9, r107x10, r107x11]
attribute [local go_sem] r107x0 r107x1 r107x2 r107x3 r107x4 r107x5 r107x6 r107x7 r107x8 r107x9 r107x10 r107x11
set_option maxHeartbeats 4000000 in
set_option maxRecDepth 100000 in
theorem reg107 {Q : Exit → Act → World → Prop} {a : Act} {U : World} {k : Nat} {s : ByteArray} {l : List ByteArray} {b o cap : Nat} {ad : Addr}
  (hsz : a.tmps.size = 44) (h0 : a.tmps[0]'(by omega) = (.slice (some ⟨b, o, none⟩) l.length cap)) (h1 : a.tmps[1]'(by omega) = .string s) (h5 : a.tmps[5]'(by omega) = .int .i64 k)
  (hQ : ∀ c (d : Nat) v (a : Act) w, Q (.panic c) (a.put (some d) v) w → Q (.panic c) a w)
  (hs1 : ∀ w', Below U.heap.size U w' → AppSrc w' 1 (.slice (some ⟨b, o, none⟩) k cap) k ((l.take k).map Value.string)) (hs2 : ∀ w', Below U.heap.size U w' → AppSrc w' 1 (.slice (some ad) (l.length - k) (cap - k)) (l.length - k) ((l.drop k).map Value.string)) (hn : l.length ≤ 1000000) (hk : k ≤ l.length) (hkc : k ≤ cap) (had : (if cap = k then some (⟨b, o, none⟩ : Addr) else some ⟨b, o + k, none⟩) = some ad)
  (hK : ∀ (a' : Act) (w' : World) (v : Value), a'.tmps.size = 44 → a'.defers = a.defers → a'.tmps[4]? = some v → w'.ownsRow U.heap.size 9 1 v (l.length + 1) ((l.take k ++ s :: l.drop k).map Value.string) → Below U.heap.size U w' → Q .normal a' w') :
  (Code.region 6 ops107 true).wp Tryz.prog Q a U := by
 obtain ⟨i0, hi, hz0, hz1, hz2⟩ := info_parts Tz.info9
 have HK := lh hK; have HS1 := lh hs1; have HS2 := lh hs2
 clear hK hs1 hs2
 refine wp_region_z (fun w' => Below U.heap.size U w') 11 (by kernel_rfl) ?_
 refine wpAnyZ_take 0 (oi := r107x0) (below_drew _ _) rfl (by kernel_rfl) (by kernel_rfl) (by kernel_rfl) (fun c a w h => hQ c _ _ a w h) (by kernel_rfl) rfl (by rfl) (by intro w' hSw; go_simp <;> rfl) ?_
 refine wpAnyZ_take 1 (oi := r107x1) (below_drew _ _) rfl (by kernel_rfl) (by kernel_rfl) (by kernel_rfl) (fun c a w h => hQ c _ _ a w h) (by kernel_rfl) rfl (by rfl) (by intro w' hSw; go_simp <;> rfl) ?_
 refine wpAnyZ_take 2 (oi := r107x2) (below_drew _ _) rfl (by kernel_rfl) (by kernel_rfl) (by kernel_rfl) (fun c a w h => hQ c _ _ a w h) (by kernel_rfl) rfl (by rfl) (by intro w' hSw; go_simp <;> rfl) ?_
 refine wpAnyZ_take 4 (oi := r107x4) (below_drew _ _) rfl (by kernel_rfl) (by kernel_rfl) (by kernel_rfl) (fun c a w h => hQ c _ _ a w h) (by kernel_rfl) rfl (by rfl) (by intro w' hSw; go_simp <;> rfl) ?_
 refine wpAnyZ_take 7 (oi := r107x7) (below_drew _ _) rfl (by kernel_rfl) (by kernel_rfl) (by kernel_rfl) (fun c a w h => hQ c _ _ a w h) (by kernel_rfl) rfl (by rfl) (by intro w' hSw; go_simp <;> rfl) ?_
 refine wpAnyZ_take 8 (oi := r107x8) (below_drew _ _) rfl (by kernel_rfl) (by kernel_rfl) (by kernel_rfl) (fun c a w h => hQ c _ _ a w h) (by kernel_rfl) rfl (by rfl) (by intro w' hSw; go_simp <;> rfl) ?_
 refine wpAnyZ_take 9 (oi := r107x9) (below_drew _ _) rfl (by kernel_rfl) (by kernel_rfl) (by kernel_rfl) (fun c a w h => hQ c _ _ a w h) (by kernel_rfl) rfl (by rfl) (by intro w' hSw; go_simp <;> rfl) ?_
 refine wpAnyZ_two 3 5 (o := r107x3) (o' := r107x5) (by kernel_rfl) rfl rfl (fun KK hKK => ?_) (fun KK hKK => ?_)
 ·refine step_append_any _ (by rfl) _ _ _ (by rfl) U.heap.size 9 i0 _ 1 16 Tz.underlying22 hi hz0 hz1 hz2 rfl (by decide) (.slice none 0 0) 0 [] (by go_simp) (World.ownsRow_nil _ _ _ _) (.slice (some ⟨b, o, none⟩) k cap) k ((l.take k).map Value.string) (by go_simp) (HS1.o _ (below_drew _ _)) (by unfold maxLen; omega) (by omega) (Nat.le_refl _) ?_
  intro v3 w3 hown3 hgr3 hat3
  rw [Nat.zero_add, List.nil_append] at hown3
  have hb3 : Below U.heap.size U w3 := (below_drew _ _).trans (below_of_grown hgr3 (Nat.le_refl _) fun g hg => by cases hg)
  refine hKK.o _ _ (fun _ => hb3) ?_
  clear hKK KK
  refine wpAnyZ_one 5 (o := r107x5) (by kernel_rfl) rfl fun KK hKK => ?_
  go_simp
  have hb5 : Below U.heap.size U (w3.alloc (.cells #[.string s] 9)) := hb3.alloc hb3.size _
  have hx5 := heap_alloc_new w3 (.cells #[.string s] 9)
  have hs5 : (w3.alloc (.cells #[.string s] 9)).heap.size = w3.heap.size + 1 := by simp
  have hr5 : (w3.alloc (.cells #[.string s] 9)).ownsRow U.heap.size 9 1 v3 k ((l.take k).map Value.string) := ownsRow_of_block hown3 fun g hg => Below.heap_alloc _ _ _ (hown3.lt g hg).2
  refine hKK.o _ _ (fun _ => hb5) ?_
  clear hKK KK
  generalize (w3.alloc (.cells #[.string s] 9)) = w5 at *
  generalize w3.heap.size = c5 at *
  have hc5 : AppSrc w5 1 (.slice (some ⟨c5, 0, none⟩) 1 1) 1 [Value.string s] := .inr ⟨⟨c5, 0, none⟩, 1, rfl, rfl, fun j u hj => by
   match j, hj with
   | 0, hj => exact (cell_box hx5).trans hj
   | j + 1, hj => simp at hj, fun u hu => by simp at hu; subst hu; rfl⟩
  have HB5 := lh hb5; have HR3 := lh hr5; have HC5 := lh hc5
  have hsz5 := hb5.size
  clear hb3 hown3 hgr3 hat3 hb5 hx5 hs5 hr5 hc5
  refine wpAnyZ_one 6 (o := r107x6) (by kernel_rfl) rfl fun KK hKK => ?_
  refine step_append_any _ (by rfl) _ _ _ (by rfl) U.heap.size 9 i0 _ 1 16 Tz.underlying22 hi hz0 hz1 hz2 rfl (by decide) v3 k ((l.take k).map Value.string) (by go_simp) HR3.o (.slice (some ⟨c5, 0, none⟩) 1 1) 1 [Value.string s] (by go_simp) HC5.o (by unfold maxLen; omega) (by omega) (by omega) ?_
  intro v6 w6 hown6 hgr6 hat6
  have hb6 : Below U.heap.size U w6 := HB5.o.trans (below_of_grown hgr6 HB5.o.size fun g hg => (HR3.o.lt g hg).1)
  have HR6 := lh hown6; have HB6 := lh hb6
  have hs6 := hb6.size
  clear hown6 hgr6 hat6 hb6
  refine hKK.o _ _ (fun _ => HB6.o) ?_
  clear hKK KK
  refine wpAnyZ_one 10 (o := r107x10) (by kernel_rfl) rfl fun KK hKK => ?_
  refine step_append_any _ (by rfl) _ _ _ (by rfl) U.heap.size 9 i0 _ 1 16 Tz.underlying22 hi hz0 hz1 hz2 rfl (by decide) v6 (k + 1) ((l.take k).map Value.string ++ [Value.string s]) (by go_simp) HR6.o (.slice (some ad) (l.length - k) (cap - k)) (l.length - k) ((l.drop k).map Value.string) (by go_simp) (HS2.o _ HB6.o) (by unfold maxLen; omega) (by omega) (by omega) ?_
  intro v7 w7 hown7 hgr7 hat7
  have hb7 : Below U.heap.size U w7 := HB6.o.trans (below_of_grown hgr7 HB6.o.size fun g hg => (HR6.o.lt g hg).1)
  have hn7 : k + 1 + (l.length - k) = l.length + 1 := by omega
  have hx7 : (l.take k).map Value.string ++ [Value.string s] ++ (l.drop k).map Value.string = (l.take k ++ s :: l.drop k).map Value.string := by simp
  rw [hn7, hx7] at hown7
  have HR7 := lh hown7; have HB7 := lh hb7
  clear hown7 hgr7 hat7 hb7 hn7 hx7
  refine hKK.o _ _ (fun _ => HB7.o) ?_
  clear hKK KK
  refine wpAnyZ_one 11 (o := r107x11) (by kernel_rfl) rfl fun KK hKK => ?_
  go_simp
  refine hKK.o _ _ (fun h => absurd rfl h) ?_
  refine wpAnyZ_done (by kernel_rfl) ?_ _
  exact HK.o _ _ v7 (by simp [hsz]) rfl (by simp [hsz]) HR7.o HB7.o
 ·go_simp
  have hb5 : Below U.heap.size U (U.alloc (.cells #[.string s] 9)).drew := ((Below.refl _ _).alloc (Nat.le_refl _) _).trans (below_drew _ _)
  have hx5 : (U.alloc (.cells #[.string s] 9)).drew.heap[U.heap.size]? = _ := heap_alloc_new U (.cells #[.string s] 9)
  have hs5 : (U.alloc (.cells #[.string s] 9)).drew.heap.size = U.heap.size + 1 := by simp [World.drew]
  refine hKK.o _ _ (fun _ => hb5) ?_
  clear hKK KK
  generalize (U.alloc (.cells #[.string s] 9)).drew = w5 at *
  refine wpAnyZ_one 3 (o := r107x3) (by kernel_rfl) rfl fun KK hKK => ?_
  refine step_append_any _ (by rfl) _ _ _ (by rfl) U.heap.size 9 i0 _ 1 16 Tz.underlying22 hi hz0 hz1 hz2 rfl (by decide) (.slice none 0 0) 0 [] (by go_simp) (World.ownsRow_nil _ _ _ _) (.slice (some ⟨b, o, none⟩) k cap) k ((l.take k).map Value.string) (by go_simp) (HS1.o _ hb5) (by unfold maxLen; omega) (by omega) (by omega) ?_
  intro v3 w3 hown3 hgr3 hat3
  rw [Nat.zero_add, List.nil_append] at hown3
  have hb3 : Below U.heap.size U w3 := hb5.trans (below_of_grown hgr3 (by omega) fun g hg => by cases hg)
  have hx3 := (hgr3.block _ (by omega) (fun e => by cases e)).trans hx5
  refine hKK.o _ _ (fun _ => hb3) ?_
  clear hKK KK
  generalize hc5' : U.heap.size = c5 at hx3 ⊢
  have hc5 : AppSrc w3 1 (.slice (some ⟨c5, 0, none⟩) 1 1) 1 [Value.string s] := .inr ⟨⟨c5, 0, none⟩, 1, rfl, rfl, fun j u hj => by
   match j, hj with
   | 0, hj => exact (cell_box hx3).trans hj
   | j + 1, hj => simp at hj, fun u hu => by simp at hu; subst hu; rfl⟩
  have HB5 := lh hb3; have HR3 := lh hown3; have HC5 := lh hc5
  have hsz5 := hb3.size
  clear hb3 hown3 hgr3 hat3 hb5 hx5 hs5 hx3 hc5
  rw [← hc5']
  rw [← hc5'] at HC5
  clear hc5'
  refine wpAnyZ_one 6 (o := r107x6) (by kernel_rfl) rfl fun KK hKK => ?_
  refine step_append_any _ (by rfl) _ _ _ (by rfl) U.heap.size 9 i0 _ 1 16 Tz.underlying22 hi hz0 hz1 hz2 rfl (by decide) v3 k ((l.take k).map Value.string) (by go_simp) HR3.o (.slice (some ⟨U.heap.size, 0, none⟩) 1 1) 1 [Value.string s] (by go_simp) HC5.o (by unfold maxLen; omega) (by omega) (by omega) ?_
  intro v6 w6 hown6 hgr6 hat6
  have hb6 : Below U.heap.size U w6 := HB5.o.trans (below_of_grown hgr6 HB5.o.size fun g hg => (HR3.o.lt g hg).1)
  have HR6 := lh hown6; have HB6 := lh hb6
  have hs6 := hb6.size
  clear hown6 hgr6 hat6 hb6
  refine hKK.o _ _ (fun _ => HB6.o) ?_
  clear hKK KK
  refine wpAnyZ_one 10 (o := r107x10) (by kernel_rfl) rfl fun KK hKK => ?_
  refine step_append_any _ (by rfl) _ _ _ (by rfl) U.heap.size 9 i0 _ 1 16 Tz.underlying22 hi hz0 hz1 hz2 rfl (by decide) v6 (k + 1) ((l.take k).map Value.string ++ [Value.string s]) (by go_simp) HR6.o (.slice (some ad) (l.length - k) (cap - k)) (l.length - k) ((l.drop k).map Value.string) (by go_simp) (HS2.o _ HB6.o) (by unfold maxLen; omega) (by omega) (by omega) ?_
  intro v7 w7 hown7 hgr7 hat7
  have hb7 : Below U.heap.size U w7 := HB6.o.trans (below_of_grown hgr7 HB6.o.size fun g hg => (HR6.o.lt g hg).1)
  have hn7 : k + 1 + (l.length - k) = l.length + 1 := by omega
  have hx7 : (l.take k).map Value.string ++ [Value.string s] ++ (l.drop k).map Value.string = (l.take k ++ s :: l.drop k).map Value.string := by simp
  rw [hn7, hx7] at hown7
  have HR7 := lh hown7; have HB7 := lh hb7
  clear hown7 hgr7 hat7 hb7 hn7 hx7
  refine hKK.o _ _ (fun _ => HB7.o) ?_
  clear hKK KK
  refine wpAnyZ_one 11 (o := r107x11) (by kernel_rfl) rfl fun KK hKK => ?_
  go_simp
  refine hKK.o _ _ (fun h => absurd rfl h) ?_
  refine wpAnyZ_done (by kernel_rfl) ?_ _
  exact HK.o _ _ v7 (by simp [hsz]) rfl (by simp [hsz]) HR7.o HB7.o
set_option maxHeartbeats 4000000 in
set_option maxRecDepth 100000 in
theorem reg107n {Q : Exit → Act → World → Prop} {a : Act} {U : World} {k : Nat} {s : ByteArray} {l : List ByteArray}
  (hsz : a.tmps.size = 44) (h0 : a.tmps[0]'(by omega) = (.slice none 0 0)) (h1 : a.tmps[1]'(by omega) = .string s) (h5 : a.tmps[5]'(by omega) = .int .i64 k)
  (hQ : ∀ c (d : Nat) v (a : Act) w, Q (.panic c) (a.put (some d) v) w → Q (.panic c) a w)
  (hs1 : ∀ w', Below U.heap.size U w' → AppSrc w' 1 (.slice none 0 0) k ((l.take k).map Value.string)) (hs2 : ∀ w', Below U.heap.size U w' → AppSrc w' 1 (.slice none 0 0) (l.length - k) ((l.drop k).map Value.string)) (hn : l.length ≤ 1000000) (hk : k ≤ l.length) (hk0 : k = 0)
  (hK : ∀ (a' : Act) (w' : World) (v : Value), a'.tmps.size = 44 → a'.defers = a.defers → a'.tmps[4]? = some v → w'.ownsRow U.heap.size 9 1 v (l.length + 1) ((l.take k ++ s :: l.drop k).map Value.string) → Below U.heap.size U w' → Q .normal a' w') :
  (Code.region 6 ops107 true).wp Tryz.prog Q a U := by
 obtain ⟨i0, hi, hz0, hz1, hz2⟩ := info_parts Tz.info9
 have HK := lh hK; have HS1 := lh hs1; have HS2 := lh hs2
 clear hK hs1 hs2
 refine wp_region_z (fun w' => Below U.heap.size U w') 11 (by kernel_rfl) ?_
 refine wpAnyZ_take 0 (oi := r107x0) (below_drew _ _) rfl (by kernel_rfl) (by kernel_rfl) (by kernel_rfl) (fun c a w h => hQ c _ _ a w h) (by kernel_rfl) rfl (by rfl) (by intro w' hSw; go_simp <;> rfl) ?_
 refine wpAnyZ_take 1 (oi := r107x1) (below_drew _ _) rfl (by kernel_rfl) (by kernel_rfl) (by kernel_rfl) (fun c a w h => hQ c _ _ a w h) (by kernel_rfl) rfl (by rfl) (by intro w' hSw; go_simp <;> rfl) ?_
 refine wpAnyZ_take 2 (oi := r107x2) (below_drew _ _) rfl (by kernel_rfl) (by kernel_rfl) (by kernel_rfl) (fun c a w h => hQ c _ _ a w h) (by kernel_rfl) rfl (by rfl) (by intro w' hSw; go_simp <;> rfl) ?_
 refine wpAnyZ_take 4 (oi := r107x4) (below_drew _ _) rfl (by kernel_rfl) (by kernel_rfl) (by kernel_rfl) (fun c a w h => hQ c _ _ a w h) (by kernel_rfl) rfl (by rfl) (by intro w' hSw; go_simp <;> rfl) ?_
 refine wpAnyZ_take 7 (oi := r107x7) (below_drew _ _) rfl (by kernel_rfl) (by kernel_rfl) (by kernel_rfl) (fun c a w h => hQ c _ _ a w h) (by kernel_rfl) rfl (by rfl) (by intro w' hSw; go_simp <;> rfl) ?_
 refine wpAnyZ_take 8 (oi := r107x8) (below_drew _ _) rfl (by kernel_rfl) (by kernel_rfl) (by kernel_rfl) (fun c a w h => hQ c _ _ a w h) (by kernel_rfl) rfl (by rfl) (by intro w' hSw; go_simp <;> rfl) ?_
 refine wpAnyZ_take 9 (oi := r107x9) (below_drew _ _) rfl (by kernel_rfl) (by kernel_rfl) (by kernel_rfl) (fun c a w h => hQ c _ _ a w h) (by kernel_rfl) rfl (by rfl) (by intro w' hSw; go_simp <;> rfl) ?_
 refine wpAnyZ_two 3 5 (o := r107x3) (o' := r107x5) (by kernel_rfl) rfl rfl (fun KK hKK => ?_) (fun KK hKK => ?_)
 ·refine step_append_any _ (by rfl) _ _ _ (by rfl) U.heap.size 9 i0 _ 1 16 Tz.underlying22 hi hz0 hz1 hz2 rfl (by decide) (.slice none 0 0) 0 [] (by go_simp) (World.ownsRow_nil _ _ _ _) (.slice none 0 0) k ((l.take k).map Value.string) (by go_simp) (HS1.o _ (below_drew _ _)) (by unfold maxLen; omega) (by omega) (Nat.le_refl _) ?_
  intro v3 w3 hown3 hgr3 hat3
  rw [Nat.zero_add, List.nil_append] at hown3
  have hb3 : Below U.heap.size U w3 := (below_drew _ _).trans (below_of_grown hgr3 (Nat.le_refl _) fun g hg => by cases hg)
  refine hKK.o _ _ (fun _ => hb3) ?_
  clear hKK KK
  refine wpAnyZ_one 5 (o := r107x5) (by kernel_rfl) rfl fun KK hKK => ?_
  go_simp
  have hb5 : Below U.heap.size U (w3.alloc (.cells #[.string s] 9)) := hb3.alloc hb3.size _
  have hx5 := heap_alloc_new w3 (.cells #[.string s] 9)
  have hs5 : (w3.alloc (.cells #[.string s] 9)).heap.size = w3.heap.size + 1 := by simp
  have hr5 : (w3.alloc (.cells #[.string s] 9)).ownsRow U.heap.size 9 1 v3 k ((l.take k).map Value.string) := ownsRow_of_block hown3 fun g hg => Below.heap_alloc _ _ _ (hown3.lt g hg).2
  refine hKK.o _ _ (fun _ => hb5) ?_
  clear hKK KK
  generalize (w3.alloc (.cells #[.string s] 9)) = w5 at *
  generalize w3.heap.size = c5 at *
  have hc5 : AppSrc w5 1 (.slice (some ⟨c5, 0, none⟩) 1 1) 1 [Value.string s] := .inr ⟨⟨c5, 0, none⟩, 1, rfl, rfl, fun j u hj => by
   match j, hj with
   | 0, hj => exact (cell_box hx5).trans hj
   | j + 1, hj => simp at hj, fun u hu => by simp at hu; subst hu; rfl⟩
  have HB5 := lh hb5; have HR3 := lh hr5; have HC5 := lh hc5
  have hsz5 := hb5.size
  clear hb3 hown3 hgr3 hat3 hb5 hx5 hs5 hr5 hc5
  refine wpAnyZ_one 6 (o := r107x6) (by kernel_rfl) rfl fun KK hKK => ?_
  refine step_append_any _ (by rfl) _ _ _ (by rfl) U.heap.size 9 i0 _ 1 16 Tz.underlying22 hi hz0 hz1 hz2 rfl (by decide) v3 k ((l.take k).map Value.string) (by go_simp) HR3.o (.slice (some ⟨c5, 0, none⟩) 1 1) 1 [Value.string s] (by go_simp) HC5.o (by unfold maxLen; omega) (by omega) (by omega) ?_
  intro v6 w6 hown6 hgr6 hat6
  have hb6 : Below U.heap.size U w6 := HB5.o.trans (below_of_grown hgr6 HB5.o.size fun g hg => (HR3.o.lt g hg).1)
  have HR6 := lh hown6; have HB6 := lh hb6
  have hs6 := hb6.size
  clear hown6 hgr6 hat6 hb6
  refine hKK.o _ _ (fun _ => HB6.o) ?_
  clear hKK KK
  refine wpAnyZ_one 10 (o := r107x10) (by kernel_rfl) rfl fun KK hKK => ?_
  refine step_append_any _ (by rfl) _ _ _ (by rfl) U.heap.size 9 i0 _ 1 16 Tz.underlying22 hi hz0 hz1 hz2 rfl (by decide) v6 (k + 1) ((l.take k).map Value.string ++ [Value.string s]) (by go_simp) HR6.o (.slice none 0 0) (l.length - k) ((l.drop k).map Value.string) (by go_simp) (HS2.o _ HB6.o) (by unfold maxLen; omega) (by omega) (by omega) ?_
  intro v7 w7 hown7 hgr7 hat7
  have hb7 : Below U.heap.size U w7 := HB6.o.trans (below_of_grown hgr7 HB6.o.size fun g hg => (HR6.o.lt g hg).1)
  have hn7 : k + 1 + (l.length - k) = l.length + 1 := by omega
  have hx7 : (l.take k).map Value.string ++ [Value.string s] ++ (l.drop k).map Value.string = (l.take k ++ s :: l.drop k).map Value.string := by simp
  rw [hn7, hx7] at hown7
  have HR7 := lh hown7; have HB7 := lh hb7
  clear hown7 hgr7 hat7 hb7 hn7 hx7
  refine hKK.o _ _ (fun _ => HB7.o) ?_
  clear hKK KK
  refine wpAnyZ_one 11 (o := r107x11) (by kernel_rfl) rfl fun KK hKK => ?_
  go_simp
  refine hKK.o _ _ (fun h => absurd rfl h) ?_
  refine wpAnyZ_done (by kernel_rfl) ?_ _
  exact HK.o _ _ v7 (by simp [hsz]) rfl (by simp [hsz]) HR7.o HB7.o
 ·go_simp
  have hb5 : Below U.heap.size U (U.alloc (.cells #[.string s] 9)).drew := ((Below.refl _ _).alloc (Nat.le_refl _) _).trans (below_drew _ _)
  have hx5 : (U.alloc (.cells #[.string s] 9)).drew.heap[U.heap.size]? = _ := heap_alloc_new U (.cells #[.string s] 9)
  have hs5 : (U.alloc (.cells #[.string s] 9)).drew.heap.size = U.heap.size + 1 := by simp [World.drew]
  refine hKK.o _ _ (fun _ => hb5) ?_
  clear hKK KK
  generalize (U.alloc (.cells #[.string s] 9)).drew = w5 at *
  refine wpAnyZ_one 3 (o := r107x3) (by kernel_rfl) rfl fun KK hKK => ?_
  refine step_append_any _ (by rfl) _ _ _ (by rfl) U.heap.size 9 i0 _ 1 16 Tz.underlying22 hi hz0 hz1 hz2 rfl (by decide) (.slice none 0 0) 0 [] (by go_simp) (World.ownsRow_nil _ _ _ _) (.slice none 0 0) k ((l.take k).map Value.string) (by go_simp) (HS1.o _ hb5) (by unfold maxLen; omega) (by omega) (by omega) ?_
  intro v3 w3 hown3 hgr3 hat3
  rw [Nat.zero_add, List.nil_append] at hown3
  have hb3 : Below U.heap.size U w3 := hb5.trans (below_of_grown hgr3 (by omega) fun g hg => by cases hg)
  have hx3 := (hgr3.block _ (by omega) (fun e => by cases e)).trans hx5
  refine hKK.o _ _ (fun _ => hb3) ?_
  clear hKK KK
  generalize hc5' : U.heap.size = c5 at hx3 ⊢
  have hc5 : AppSrc w3 1 (.slice (some ⟨c5, 0, none⟩) 1 1) 1 [Value.string s] := .inr ⟨⟨c5, 0, none⟩, 1, rfl, rfl, fun j u hj => by
   match j, hj with
   | 0, hj => exact (cell_box hx3).trans hj
   | j + 1, hj => simp at hj, fun u hu => by simp at hu; subst hu; rfl⟩
  have HB5 := lh hb3; have HR3 := lh hown3; have HC5 := lh hc5
  have hsz5 := hb3.size
  clear hb3 hown3 hgr3 hat3 hb5 hx5 hs5 hx3 hc5
  rw [← hc5']
  rw [← hc5'] at HC5
  clear hc5'
  refine wpAnyZ_one 6 (o := r107x6) (by kernel_rfl) rfl fun KK hKK => ?_
  refine step_append_any _ (by rfl) _ _ _ (by rfl) U.heap.size 9 i0 _ 1 16 Tz.underlying22 hi hz0 hz1 hz2 rfl (by decide) v3 k ((l.take k).map Value.string) (by go_simp) HR3.o (.slice (some ⟨U.heap.size, 0, none⟩) 1 1) 1 [Value.string s] (by go_simp) HC5.o (by unfold maxLen; omega) (by omega) (by omega) ?_
  intro v6 w6 hown6 hgr6 hat6
  have hb6 : Below U.heap.size U w6 := HB5.o.trans (below_of_grown hgr6 HB5.o.size fun g hg => (HR3.o.lt g hg).1)
  have HR6 := lh hown6; have HB6 := lh hb6
  have hs6 := hb6.size
  clear hown6 hgr6 hat6 hb6
  refine hKK.o _ _ (fun _ => HB6.o) ?_
  clear hKK KK
  refine wpAnyZ_one 10 (o := r107x10) (by kernel_rfl) rfl fun KK hKK => ?_
  refine step_append_any _ (by rfl) _ _ _ (by rfl) U.heap.size 9 i0 _ 1 16 Tz.underlying22 hi hz0 hz1 hz2 rfl (by decide) v6 (k + 1) ((l.take k).map Value.string ++ [Value.string s]) (by go_simp) HR6.o (.slice none 0 0) (l.length - k) ((l.drop k).map Value.string) (by go_simp) (HS2.o _ HB6.o) (by unfold maxLen; omega) (by omega) (by omega) ?_
  intro v7 w7 hown7 hgr7 hat7
  have hb7 : Below U.heap.size U w7 := HB6.o.trans (below_of_grown hgr7 HB6.o.size fun g hg => (HR6.o.lt g hg).1)
  have hn7 : k + 1 + (l.length - k) = l.length + 1 := by omega
  have hx7 : (l.take k).map Value.string ++ [Value.string s] ++ (l.drop k).map Value.string = (l.take k ++ s :: l.drop k).map Value.string := by simp
  rw [hn7, hx7] at hown7
  have HR7 := lh hown7; have HB7 := lh hb7
  clear hown7 hgr7 hat7 hb7 hn7 hx7
  refine hKK.o _ _ (fun _ => HB7.o) ?_
  clear hKK KK
  refine wpAnyZ_one 11 (o := r107x11) (by kernel_rfl) rfl fun KK hKK => ?_
  go_simp
  refine hKK.o _ _ (fun h => absurd rfl h) ?_
  refine wpAnyZ_done (by kernel_rfl) ?_ _
  exact HK.o _ _ v7 (by simp [hsz]) rfl (by simp [hsz]) HR7.o HB7.o
end Go.Proofs.YtjpahjfjpkbcnaaGreat
namespace Go.Proofs.YtjpahjfjpkbcnaaGreat
open Go.Proofs Go.RowKit
def ltB (a b : ByteArray) : Bool := Op.bytesLess a.toList b.toList
def idxB (s : ByteArray) : List ByteArray → Nat
 | [] => 0
 | x :: xs => if ltB x s then idxB s xs + 1 else 0
def putL (s : ByteArray) : List ByteArray → List ByteArray
 | [] => [s]
 | x :: xs => if ltB x s then x :: putL s xs else if x.toList == s.toList then x :: xs else s :: x :: xs
theorem idxB_drop (s : ByteArray) (l : List ByteArray) (k : Nat) (h : k < l.length) : idxB s (l.drop k) = if ltB l[k] s then idxB s (l.drop (k + 1)) + 1 else 0 := by
 rw [List.drop_eq_getElem_cons h]
 rfl
theorem putL_at (s : ByteArray) : ∀ (l : List ByteArray) (k : Nat), idxB s l = k → putL s l = if h : k < l.length then (if l[k].toList == s.toList then l else l.take k ++ s :: l.drop k) else l.take k ++ s :: l.drop k
 | [], k, h => by simp [putL]
 | x :: xs, k, h => by
  unfold putL
  unfold idxB at h
  cases hx : ltB x s with
  | false =>
   rw [hx] at h
   subst h
   simp
  | true =>
   rw [hx, if_pos rfl] at h
   subst h
   rw [if_pos rfl, putL_at s xs _ rfl]
   by_cases h2 : idxB s xs < xs.length
   ·rw [dif_pos h2, dif_pos (show idxB s xs + 1 < (x :: xs).length by simpa using h2)]
    simp only [List.getElem_cons_succ]
    split <;> simp
   ·rw [dif_neg h2, dif_neg (show ¬ (idxB s xs + 1 < (x :: xs).length) by simpa using h2)]
    simp
theorem addr_add (b o j : Nat) : (⟨b, o, none⟩ : Addr).add j = ⟨b, o + j, none⟩ := by unfold Addr.add; split <;> simp_all
theorem strsAt_cells {w : World} : ∀ (ss : List ByteArray) (b o : Nat), (∀ i u, (ss.map Value.string)[i]? = some u → w.cell? ⟨b, o + i, none⟩ = some u) → (∀ s ∈ ss, s.size ≤ maxLen) → StrsAt w ss b o
 | [], _, _, _, _ => trivial
 | s :: ss, b, o, h, hs => ⟨⟨h 0 _ rfl, hs s List.mem_cons_self⟩, strsAt_cells ss b (o + 1) (fun i u hi => by
   have := h (i + 1) u (by simpa using hi)
   rwa [show o + 1 + i = o + (i + 1) by omega]) fun x hx => hs x (List.mem_cons_of_mem _ hx)⟩
theorem strs_owned {w : World} {base : Nat} {v : Value} {n : Nat} {ss : List ByteArray} (h : w.ownsRow base 9 1 v n (ss.map Value.string)) (hn : ss.length = n) (hs : ∀ s ∈ ss, s.size ≤ maxLen) :
  SlIn (fun b => base ≤ b ∧ b < w.heap.size) v ss.length fun b o => StrsAt w ss b o := by
 subst hn
 exact owned_sl h (fun b hb => h.lt b hb) fun b hb hc => strsAt_cells ss b 0 hc hs
attribute [local go_sem] eval_put_same eval_put_ne size_put
def r48x0 : Oper := { dst := some 21, op := Op.fieldAddr 32 (Operand.tmp 1) 3, type := 0, pos := "ref.go:366", after := #[], guard := none }
def r48x1 : Oper := { dst := some 22, op := Op.load 29 (Operand.tmp 21), type := 29, pos := "ref.go:366", after := #[{ on := 0, ground := Ground.data }], guard := none }
def r48x2 : Oper := { dst := some 23, op := Op.move (Operand.tmp 4), type := 3, pos := "ref.go:366", after := #[], guard := none }
def r48x3 : Oper := { dst := some 24, op := Op.indexAddr 29 (Operand.tmp 22) (Operand.tmp 23), type := 0, pos := "ref.go:366", after := #[{ on := 1, ground := Ground.data }, { on := 2, ground := Ground.data }], guard := none }
def r48x4 : Oper := { dst := some 25, op := Op.load 32 (Operand.tmp 24), type := 32, pos := "ref.go:366", after := #[{ on := 3, ground := Ground.data }], guard := none }
def r48x5 : Oper := { dst := some 26, op := Op.call { callee := Callee.value (Operand.func 48), args := #[Operand.tmp 25], argTypes := #[32] }, type := 22, pos := "ref.go:366", after := #[{ on := 4, ground := Ground.data }], guard := none }
def r48x6 : Oper := { dst := some 27, op := Op.load 32 (Operand.tmp 1), type := 32, pos := "ref.go:366", after := #[], guard := none }
def r48x7 : Oper := { dst := some 28, op := Op.move (Operand.tmp 4), type := 3, pos := "ref.go:366", after := #[], guard := none }
def r48x8 : Oper := { dst := some 29, op := Op.call { callee := Callee.value (Operand.func 106), args := #[Operand.tmp 27, Operand.tmp 28], argTypes := #[32, 3] }, type := 22, pos := "ref.go:366", after := #[{ on := 6, ground := Ground.data }, { on := 7, ground := Ground.data }, { on := 5, ground := Ground.chain }], guard := none }
def r48x9 : Oper := { dst := some 5, op := Op.assign (Operand.tmp 26), type := 22, pos := "ref.go:366", after := #[{ on := 5, ground := Ground.data }, { on := 8, ground := Ground.chain }, { on := 0, ground := Ground.phase }, { on := 1, ground := Ground.phase }, { on := 2, ground := Ground.phase }, { on := 3, ground := Ground.phase }, { on := 4, ground := Ground.phase }, { on := 5, ground := Ground.phase }, { on := 6, ground := Ground.textOnly Departure.lateStores }, { on := 7, ground := Ground.textOnly Departure.lateStores }, { on := 8, ground := Ground.textOnly Departure.lateStoresUnsure }], guard := none }
def r48x10 : Oper := { dst := some 6, op := Op.assign (Operand.tmp 29), type := 22, pos := "ref.go:366", after := #[{ on := 8, ground := Ground.data }, { on := 9, ground := Ground.chain }, { on := 0, ground := Ground.phase }, { on := 1, ground := Ground.phase }, { on := 2, ground := Ground.phase }, { on := 3, ground := Ground.phase }, { on := 4, ground := Ground.phase }, { on := 5, ground := Ground.phase }, { on := 6, ground := Ground.phase }, { on := 7, ground := Ground.phase }, { on := 8, ground := Ground.phase }, { on := 9, ground := Ground.phase }], guard := none }
def ops48 : Array Oper := #[r48x0, r48x1, r48x2, r48x3, r48x4, r48x5, r48x6, r48x7, r48x8, r48x9, r48x10]
attribute [local go_sem] r48x0 r48x1 r48x2 r48x3 r48x4 r48x5 r48x6 r48x7 r48x8 r48x9 r48x10
set_option maxHeartbeats 2000000 in
set_option maxRecDepth 100000 in
theorem reg48 {Q : Exit → Act → World → Prop} {a : Act} {U : World} {T : Tm} {qb b o k kc pc : Nat} {pa : Option Addr} {oo nn : Int} {tt : ByteArray} {ka2 pa2 : Option Addr} {kn2 kc2 pn2 pc2 : Nat} {R1 : Value → World → Prop} {R2 : Value → World → World → Prop}
  (hsz : a.tmps.size = 50) (h1 : a.tmps[1]'(by omega) = .pointer (some ⟨qb, 0, none⟩)) (h4 : a.tmps[4]'(by omega) = .int .i64 k)
  (hQ : ∀ c (d : Nat) v (a : Act) w, Q (.panic c) (a.put (some d) v) w → Q (.panic c) a w)
  (hS : (U.cell? ⟨qb, 0, none⟩ = some (.int .i64 T.op) ∧ U.cell? ⟨qb, 1, none⟩ = some (.int .i64 T.n) ∧ U.cell? ⟨qb, 2, none⟩ = some (.string T.text) ∧ U.cell? ⟨qb, 3, none⟩ = some (.slice (some ⟨b, o, none⟩) T.kids.length kc) ∧ U.cell? ⟨qb, 4, none⟩ = some (.slice pa T.pats.length pc)) ∧ (U.cell? ⟨b, o + k * 5, none⟩ = some (.int .i64 oo) ∧ U.cell? ⟨b, o + k * 5 + 1, none⟩ = some (.int .i64 nn) ∧ U.cell? ⟨b, o + k * 5 + 2, none⟩ = some (.string tt) ∧ U.cell? ⟨b, o + k * 5 + 3, none⟩ = some (.slice ka2 kn2 kc2) ∧ U.cell? ⟨b, o + k * 5 + 4, none⟩ = some (.slice pa2 pn2 pc2))) (hqb : qb < U.heap.size) (hbb : b < U.heap.size) (hk : k < T.kids.length)
  (hc1 : Calls Tryz.prog 48 #[.agg #[.int .i64 oo, .int .i64 nn, .string tt, .slice ka2 kn2 kc2, .slice pa2 pn2 pc2]] U.drew fun e w' => (∃ v1, e = .returned v1 ∧ R1 v1 w') ∧ Below U.heap.size U w')
  (hc2 : ∀ w1, Below U.heap.size U w1 → Calls Tryz.prog 106 #[.agg #[.int .i64 T.op, .int .i64 T.n, .string T.text, .slice (some ⟨b, o, none⟩) T.kids.length kc, .slice pa T.pats.length pc], .int .i64 k] w1 fun e w' => (∃ v2, e = .returned v2 ∧ R2 v2 w1 w') ∧ Below w1.heap.size w1 w')
  (hK : ∀ (u21 u22 u23 u24 u25 u27 u28 v1 v2 : Value) (w1 w2 : World), R1 v1 w1 → R2 v2 w1 w2 → Below U.heap.size U w1 → Below w1.heap.size w1 w2 →
   Q .normal { tmps := (((((((((((a.tmps.setIfInBounds 21 u21).setIfInBounds 22 u22).setIfInBounds 23 u23).setIfInBounds 24 u24).setIfInBounds 25 u25).setIfInBounds 27 u27).setIfInBounds 28 u28).setIfInBounds 26 v1).setIfInBounds 29 v2).setIfInBounds 5 v1).setIfInBounds 6 v2), defers := a.defers } w2) :
  (Code.region 7 ops48 true).wp Tryz.prog Q a U := by
 have hS0 : (U.drew.cell? ⟨qb, 0, none⟩ = some (.int .i64 T.op) ∧ U.drew.cell? ⟨qb, 1, none⟩ = some (.int .i64 T.n) ∧ U.drew.cell? ⟨qb, 2, none⟩ = some (.string T.text) ∧ U.drew.cell? ⟨qb, 3, none⟩ = some (.slice (some ⟨b, o, none⟩) T.kids.length kc) ∧ U.drew.cell? ⟨qb, 4, none⟩ = some (.slice pa T.pats.length pc)) ∧ (U.drew.cell? ⟨b, o + k * 5, none⟩ = some (.int .i64 oo) ∧ U.drew.cell? ⟨b, o + k * 5 + 1, none⟩ = some (.int .i64 nn) ∧ U.drew.cell? ⟨b, o + k * 5 + 2, none⟩ = some (.string tt) ∧ U.drew.cell? ⟨b, o + k * 5 + 3, none⟩ = some (.slice ka2 kn2 kc2) ∧ U.drew.cell? ⟨b, o + k * 5 + 4, none⟩ = some (.slice pa2 pn2 pc2)) := hS
 have hk' : (k : Int) < (T.kids.length : Int) := by omega
 have HS := lh hS; have HC1 := lh hc1; have HC2 := lh hc2; have HK := lh hK
 clear hS hc1 hc2 hK
 refine wp_region_z (fun w' => (w'.cell? ⟨qb, 0, none⟩ = some (.int .i64 T.op) ∧ w'.cell? ⟨qb, 1, none⟩ = some (.int .i64 T.n) ∧ w'.cell? ⟨qb, 2, none⟩ = some (.string T.text) ∧ w'.cell? ⟨qb, 3, none⟩ = some (.slice (some ⟨b, o, none⟩) T.kids.length kc) ∧ w'.cell? ⟨qb, 4, none⟩ = some (.slice pa T.pats.length pc)) ∧ (w'.cell? ⟨b, o + k * 5, none⟩ = some (.int .i64 oo) ∧ w'.cell? ⟨b, o + k * 5 + 1, none⟩ = some (.int .i64 nn) ∧ w'.cell? ⟨b, o + k * 5 + 2, none⟩ = some (.string tt) ∧ w'.cell? ⟨b, o + k * 5 + 3, none⟩ = some (.slice ka2 kn2 kc2) ∧ w'.cell? ⟨b, o + k * 5 + 4, none⟩ = some (.slice pa2 pn2 pc2))) 10 (by kernel_rfl) ?_
 refine wpAnyZ_take 0 (oi := r48x0) hS0 rfl (by kernel_rfl) (by kernel_rfl) (by kernel_rfl) (fun c a w h => hQ c _ _ a w h) (by kernel_rfl) rfl (by rfl) (by rintro w' ⟨⟨k0, k1, k2, k3, k4⟩, ⟨m0, m1, m2, m3, m4⟩⟩; go_simp <;> rfl) ?_
 refine wpAnyZ_take 1 (oi := r48x1) hS0 rfl (by kernel_rfl) (by kernel_rfl) (by kernel_rfl) (fun c a w h => hQ c _ _ a w h) (by kernel_rfl) rfl (by rfl) (by rintro w' ⟨⟨k0, k1, k2, k3, k4⟩, ⟨m0, m1, m2, m3, m4⟩⟩; go_simp <;> rfl) ?_
 refine wpAnyZ_take 2 (oi := r48x2) hS0 rfl (by kernel_rfl) (by kernel_rfl) (by kernel_rfl) (fun c a w h => hQ c _ _ a w h) (by kernel_rfl) rfl (by rfl) (by rintro w' ⟨⟨k0, k1, k2, k3, k4⟩, ⟨m0, m1, m2, m3, m4⟩⟩; go_simp <;> rfl) ?_
 refine wpAnyZ_take 3 (oi := r48x3) hS0 rfl (by kernel_rfl) (by kernel_rfl) (by kernel_rfl) (fun c a w h => hQ c _ _ a w h) (by kernel_rfl) rfl (by rfl) (by rintro w' ⟨⟨k0, k1, k2, k3, k4⟩, ⟨m0, m1, m2, m3, m4⟩⟩; go_simp <;> rfl) ?_
 refine wpAnyZ_take 4 (oi := r48x4) hS0 rfl (by kernel_rfl) (by kernel_rfl) (by kernel_rfl) (fun c a w h => hQ c _ _ a w h) (by kernel_rfl) rfl (by rfl) (by rintro w' ⟨⟨k0, k1, k2, k3, k4⟩, ⟨m0, m1, m2, m3, m4⟩⟩; go_simp <;> rfl) ?_
 refine wpAnyZ_take 6 (oi := r48x6) hS0 rfl (by kernel_rfl) (by kernel_rfl) (by kernel_rfl) (fun c a w h => hQ c _ _ a w h) (by kernel_rfl) rfl (by rfl) (by rintro w' ⟨⟨k0, k1, k2, k3, k4⟩, ⟨m0, m1, m2, m3, m4⟩⟩; go_simp <;> rfl) ?_
 refine wpAnyZ_take 7 (oi := r48x7) hS0 rfl (by kernel_rfl) (by kernel_rfl) (by kernel_rfl) (fun c a w h => hQ c _ _ a w h) (by kernel_rfl) rfl (by rfl) (by rintro w' ⟨⟨k0, k1, k2, k3, k4⟩, ⟨m0, m1, m2, m3, m4⟩⟩; go_simp <;> rfl) ?_
 clear hS0
 refine wpAnyZ_one 5 (o := r48x5) (by kernel_rfl) rfl fun KK hKK => ?_
 go_simp
 refine HC1.o.mono ?_
 rintro e w1 ⟨⟨v1, rfl, hr1⟩, hb1⟩
 have HB1 := lh hb1; have HR1 := lh hr1
 clear hb1 hr1
 refine hKK.o _ _ (fun _ => ⟨⟨(HB1.o.cell (p := ⟨qb, 0, none⟩) hqb).trans HS.o.1.1, (HB1.o.cell (p := ⟨qb, 1, none⟩) hqb).trans HS.o.1.2.1, (HB1.o.cell (p := ⟨qb, 2, none⟩) hqb).trans HS.o.1.2.2.1, (HB1.o.cell (p := ⟨qb, 3, none⟩) hqb).trans HS.o.1.2.2.2.1, (HB1.o.cell (p := ⟨qb, 4, none⟩) hqb).trans HS.o.1.2.2.2.2⟩, ⟨(HB1.o.cell (p := ⟨b, _, none⟩) hbb).trans HS.o.2.1, (HB1.o.cell (p := ⟨b, _, none⟩) hbb).trans HS.o.2.2.1, (HB1.o.cell (p := ⟨b, _, none⟩) hbb).trans HS.o.2.2.2.1, (HB1.o.cell (p := ⟨b, _, none⟩) hbb).trans HS.o.2.2.2.2.1, (HB1.o.cell (p := ⟨b, _, none⟩) hbb).trans HS.o.2.2.2.2.2⟩⟩) ?_
 clear hKK KK
 refine wpAnyZ_one 8 (o := r48x8) (by kernel_rfl) rfl fun KK hKK => ?_
 have HC2' := lh (HC2.o w1 HB1.o)
 go_simp
 refine HC2'.o.mono ?_
 rintro e w2 ⟨⟨v2, rfl, hr2⟩, hb2⟩
 have HB2 := lh hb2; have HR2 := lh hr2; have HBU := lh (HB1.o.trans (hb2.mono HB1.o.size))
 clear hb2 hr2
 refine hKK.o _ _ (fun _ => ⟨⟨(HBU.o.cell (p := ⟨qb, 0, none⟩) hqb).trans HS.o.1.1, (HBU.o.cell (p := ⟨qb, 1, none⟩) hqb).trans HS.o.1.2.1, (HBU.o.cell (p := ⟨qb, 2, none⟩) hqb).trans HS.o.1.2.2.1, (HBU.o.cell (p := ⟨qb, 3, none⟩) hqb).trans HS.o.1.2.2.2.1, (HBU.o.cell (p := ⟨qb, 4, none⟩) hqb).trans HS.o.1.2.2.2.2⟩, ⟨(HBU.o.cell (p := ⟨b, _, none⟩) hbb).trans HS.o.2.1, (HBU.o.cell (p := ⟨b, _, none⟩) hbb).trans HS.o.2.2.1, (HBU.o.cell (p := ⟨b, _, none⟩) hbb).trans HS.o.2.2.2.1, (HBU.o.cell (p := ⟨b, _, none⟩) hbb).trans HS.o.2.2.2.2.1, (HBU.o.cell (p := ⟨b, _, none⟩) hbb).trans HS.o.2.2.2.2.2⟩⟩) ?_
 clear hKK KK
 refine wpAnyZ_one 9 (o := r48x9) (by kernel_rfl) rfl fun KK hKK => ?_
 go_simp
 refine hKK.o _ _ (fun _ => ⟨⟨(HBU.o.cell (p := ⟨qb, 0, none⟩) hqb).trans HS.o.1.1, (HBU.o.cell (p := ⟨qb, 1, none⟩) hqb).trans HS.o.1.2.1, (HBU.o.cell (p := ⟨qb, 2, none⟩) hqb).trans HS.o.1.2.2.1, (HBU.o.cell (p := ⟨qb, 3, none⟩) hqb).trans HS.o.1.2.2.2.1, (HBU.o.cell (p := ⟨qb, 4, none⟩) hqb).trans HS.o.1.2.2.2.2⟩, ⟨(HBU.o.cell (p := ⟨b, _, none⟩) hbb).trans HS.o.2.1, (HBU.o.cell (p := ⟨b, _, none⟩) hbb).trans HS.o.2.2.1, (HBU.o.cell (p := ⟨b, _, none⟩) hbb).trans HS.o.2.2.2.1, (HBU.o.cell (p := ⟨b, _, none⟩) hbb).trans HS.o.2.2.2.2.1, (HBU.o.cell (p := ⟨b, _, none⟩) hbb).trans HS.o.2.2.2.2.2⟩⟩) ?_
 clear hKK KK
 refine wpAnyZ_one 10 (o := r48x10) (by kernel_rfl) rfl fun KK hKK => ?_
 go_simp
 refine hKK.o _ _ (fun h => absurd rfl h) ?_
 refine wpAnyZ_done (by kernel_rfl) ?_ _
 exact HK.o _ _ _ _ _ _ _ v1 v2 w1 w2 HR1.o HR2.o HB1.o HB2.o
end Go.Proofs.YtjpahjfjpkbcnaaGreat
namespace Go.Proofs.YtjpahjfjpkbcnaaGreat
open Go.Proofs Go.RowKit
def addL (b : List ByteArray) : List ByteArray → List ByteArray → List ByteArray
 | [], out => out
 | x :: xs, out => addL b xs (if hasB b x then out else putL x out)
mutual
def rfree : Tm → List ByteArray
 | .mk op n t ks ps => if op = 4 then [t] else rfreeK (boundL (.mk op n t ks ps)) ks 0 []
def rfreeK (bnd : Nat → List ByteArray) : List Tm → Nat → List ByteArray → List ByteArray
 | [], _, out => out
 | k :: ks, i, out => rfreeK bnd ks (i + 1) (addL (bnd i) (rfree k) out)
end
theorem putL_len (s : ByteArray) : ∀ l : List ByteArray, (putL s l).length ≤ l.length + 1
 | [] => Nat.le_refl _
 | x :: xs => by
  unfold putL
  have := putL_len s xs
  split
  ·simp; omega
  ·split <;> simp
theorem addL_len (b : List ByteArray) : ∀ (xs out : List ByteArray), (addL b xs out).length ≤ out.length + xs.length
 | [], out => by unfold addL; simp
 | x :: xs, out => by
  unfold addL
  have h1 := addL_len b xs (if hasB b x then out else putL x out)
  have h2 : (if hasB b x then out else putL x out).length ≤ out.length + 1 := by
   split
   ·omega
   ·exact putL_len x out
  simp
  omega
mutual
theorem rfree_len : ∀ (T : Tm) (d : Int), (rfree T).length ≤ (partsM d T).length
 | .mk op n t ks ps, d => by
  unfold rfree partsM
  rw [List.length_cons]
  split
  ·simp
  ·have := rfreeK_len (boundL (.mk op n t ks ps)) ks 0 [] (d + 1)
   simp at this
   omega
theorem rfreeK_len (bnd : Nat → List ByteArray) : ∀ (ks : List Tm) (i : Nat) (out : List ByteArray) (d : Int), (rfreeK bnd ks i out).length ≤ out.length + (partssM d ks).length
 | [], i, out, d => by unfold rfreeK; omega
 | k :: ks, i, out, d => by
  unfold rfreeK partssM
  have h1 := rfreeK_len bnd ks (i + 1) (addL (bnd i) (rfree k) out) d
  have h2 := addL_len (bnd i) (rfree k) out
  have h3 := rfree_len k d
  rw [List.length_append]
  omega
end
theorem rfreeK_drop (bnd : Nat → List ByteArray) (ks : List Tm) (k : Nat) (out : List ByteArray) (h : k < ks.length) : rfreeK bnd (ks.drop k) k out = rfreeK bnd (ks.drop (k + 1)) (k + 1) (addL (bnd k) (rfree ks[k]) out) := by
 rw [List.drop_eq_getElem_cons h]
 conv => lhs; unfold rfreeK
theorem addL_drop (b xs out : List ByteArray) (k : Nat) (h : k < xs.length) : addL b (xs.drop k) out = addL b (xs.drop (k + 1)) (if hasB b xs[k] then out else putL xs[k] out) := by
 rw [List.drop_eq_getElem_cons h]
 rfl
theorem partssM_drop (ks : List Tm) (k : Nat) (d : Int) (h : k < ks.length) : (partssM d (ks.drop k)).length = (partsM d ks[k]).length + (partssM d (ks.drop (k + 1))).length := by
 rw [List.drop_eq_getElem_cons h]
 conv => lhs; unfold partssM
 rw [List.length_append]
mutual
theorem partsM_len : ∀ (T : Tm) (d d' : Int), (partsM d T).length = (partsM d' T).length
 | .mk op n t ks ps, d, d' => by
  unfold partsM
  rw [List.length_cons, List.length_cons, partssM_len ks (d + 1) (d' + 1)]
theorem partssM_len : ∀ (ts : List Tm) (d d' : Int), (partssM d ts).length = (partssM d' ts).length
 | [], _, _ => rfl
 | t :: ts, d, d' => by
  unfold partssM
  rw [List.length_append, List.length_append, partsM_len t d d', partssM_len ts d d']
end
mutual
/-- What the specification's walks ask of a term's nodes. -/
def okF : Tm → Prop
 | .mk op _ _ ks ps => (op = 15 → ks.length ≤ ps.length + 1) ∧ ks.length ≤ 900000 ∧ (∀ p ∈ ps, patsB p = true ∧ (partsP 1 p).length ≤ 1000000) ∧ okFs ks
def okFs : List Tm → Prop
 | [] => True
 | k :: ks => okF k ∧ okFs ks
end
theorem okFs_get : ∀ {ks : List Tm}, okFs ks → ∀ (k : Nat) (h : k < ks.length), okF ks[k]
 | p :: ps, h, 0, _ => by unfold okFs at h; exact h.1
 | p :: ps, h, k + 1, hk => by unfold okFs at h; exact okFs_get h.2 k (by simpa using hk)
mutual
def rnM (nm ot : ByteArray) : Tm → Tm
 | .mk op n text kids pats => if op = 4 then .mk op n (if (text.toList == nm.toList) = true then ot else text) kids pats else .mk op n text (rnK nm ot (boundL (.mk op n text kids pats)) kids 0) pats
def rnK (nm ot : ByteArray) (bnd : Nat → List ByteArray) : List Tm → Nat → List Tm
 | [], _ => []
 | k :: ks, i => (if hasB (bnd i) nm = true then k else rnM nm ot k) :: rnK nm ot bnd ks (i + 1)
end
theorem rnM_mk (nm ot : ByteArray) (op n : Int) (text : ByteArray) (kids : List Tm) (pats : List Pt) : rnM nm ot (.mk op n text kids pats) = if op = 4 then .mk op n (if (text.toList == nm.toList) = true then ot else text) kids pats else .mk op n text (rnK nm ot (boundL (.mk op n text kids pats)) kids 0) pats := by
 conv => lhs; unfold rnM
theorem rnK_nil (nm ot : ByteArray) (bnd : Nat → List ByteArray) (i : Nat) : rnK nm ot bnd [] i = [] := by unfold rnK; rfl
theorem rnK_cons (nm ot : ByteArray) (bnd : Nat → List ByteArray) (k : Tm) (ks : List Tm) (i : Nat) : rnK nm ot bnd (k :: ks) i = (if hasB (bnd i) nm = true then k else rnM nm ot k) :: rnK nm ot bnd ks (i + 1) := by conv => lhs; unfold rnK
theorem rnK_snoc (nm ot : ByteArray) (bnd : Nat → List ByteArray) (x : Tm) : ∀ (ks : List Tm) (i : Nat), rnK nm ot bnd (ks ++ [x]) i = rnK nm ot bnd ks i ++ [if hasB (bnd (i + ks.length)) nm = true then x else rnM nm ot x]
 | [], i => by rw [List.nil_append, rnK_cons, rnK_nil, rnK_nil]; rfl
 | k :: ks, i => by
  rw [List.cons_append, rnK_cons, rnK_cons, rnK_snoc nm ot bnd x ks (i + 1), List.length_cons, show i + 1 + ks.length = i + (ks.length + 1) by omega]
  rfl
theorem rnK_len (nm ot : ByteArray) (bnd : Nat → List ByteArray) : ∀ (ks : List Tm) (i : Nat), (rnK nm ot bnd ks i).length = ks.length
 | [], i => by rw [rnK_nil]
 | k :: ks, i => by rw [rnK_cons, List.length_cons, rnK_len nm ot bnd ks (i + 1), List.length_cons]
def rbM (nm ot : ByteArray) (i : Nat) : Tm → Tm
 | .mk op n text kids pats => .mk op n (if op = 15 then text else ot) (kids.set i (rnM nm ot (kids.getD i default))) (if op = 15 then pats.set (i - 1) (rnP nm ot (pats.getD (i - 1) default)) else pats)
theorem put4 (W : World) (b o : Nat) (t0 t1 t2 t3 u0 u1 u2 u3 : Value) (h0 : W.cell? ⟨b, o, none⟩ = some t0) (h1 : W.cell? ⟨b, o + 1, none⟩ = some t1) (h2 : W.cell? ⟨b, o + 2, none⟩ = some t2) (h3 : W.cell? ⟨b, o + 3, none⟩ = some t3) :
  ∀ W', W' = ((((W.setCell ⟨b, o, none⟩ u0).setCell ⟨b, o + 1, none⟩ u1).setCell ⟨b, o + 2, none⟩ u2).setCell ⟨b, o + 3, none⟩ u3) →
  Kept (fun k => k = b) W W' ∧ (W'.cell? ⟨b, o, none⟩ = some u0 ∧ W'.cell? ⟨b, o + 1, none⟩ = some u1 ∧ W'.cell? ⟨b, o + 2, none⟩ = some u2 ∧ W'.cell? ⟨b, o + 3, none⟩ = some u3) ∧
  ∀ j, (j < o ∨ o + 4 ≤ j) → W'.cell? ⟨b, j, none⟩ = W.cell? ⟨b, j, none⟩ := by
 intro W' hW
 rw [hW]
 obtain ⟨a0, b0⟩ := put1 W b o u0 t0 h0
 obtain ⟨a1, b1⟩ := put1 _ b (o + 1) u1 t1 ((b0 (o + 1) (by omega)).trans h1)
 obtain ⟨a2, b2⟩ := put1 _ b (o + 2) u2 t2 ((b1 (o + 2) (by omega)).trans ((b0 (o + 2) (by omega)).trans h2))
 obtain ⟨a3, b3⟩ := put1 _ b (o + 3) u3 t3 ((b2 (o + 3) (by omega)).trans ((b1 (o + 3) (by omega)).trans ((b0 (o + 3) (by omega)).trans h3)))
 exact ⟨(((kept1 _ b _ u0).trans (kept1 _ b _ u1)).trans (kept1 _ b _ u2)).trans (kept1 _ b _ u3),
  ⟨(b3 o (by omega)).trans ((b2 o (by omega)).trans ((b1 o (by omega)).trans a0)), (b3 _ (by omega)).trans ((b2 _ (by omega)).trans a1), (b3 _ (by omega)).trans a2, a3⟩,
  fun j hj => (b3 j (by omega)).trans ((b2 j (by omega)).trans ((b1 j (by omega)).trans (b0 j (by omega))))⟩
theorem row_lay {w : World} {base size n m : Nat} {e : TypeId} {v : Value} {xs ys : List Value} (h : w.ownsRow base e size v m xs) (hm : m = n) (hx : xs = ys) (hn : 0 < n) : ∃ rg rcap cur, v = .slice (some ⟨rg, 0, none⟩) n rcap ∧ base ≤ rg ∧ w.heap[rg]? = some (.cells cur e (0, 0)) ∧ n ≤ rcap ∧ rcap ≤ maxLen ∧ cur.size = rcap * size ∧ cur.toList.take (n * size) = ys := by
 subst hm; subst hx
 obtain ⟨-, ⟨-, hno⟩ | ⟨rg, rcap, cur, rfl, h1, h2, h3, h4, h5, h6⟩⟩ := h
 ·omega
 ·exact ⟨rg, rcap, cur, rfl, h1, h2, h3, h4, h5, h6⟩
theorem lay_cell {w : World} {rg : Nat} {cur : Array Value} {e : TypeId} {k : Nat} {ys : List Value} (h : w.heap[rg]? = some (.cells cur e (0, 0))) (ht : cur.toList.take k = ys) {j : Nat} {u : Value} (hj : ys[j]? = some u) : w.cell? ⟨rg, j, none⟩ = some u := by
 rw [cell_box h]
 rw [← ht, List.getElem?_take] at hj
 split at hj
 ·simpa using hj
 ·cases hj
def SlX (B : Nat → Prop) (v : Value) (n : Nat) (R : Nat → Nat → Prop) : Prop :=
 (n = 0 ∧ ∃ (a : Option Addr) (cap : Nat), v = .slice a 0 cap ∧ cap ≤ maxLen) ∨ ∃ b o cap, v = .slice (some ⟨b, o, none⟩) n cap ∧ n ≤ cap ∧ cap ≤ maxLen ∧ B b ∧ R b o
theorem SlX.mono {B B' : Nat → Prop} {v : Value} {n : Nat} {R R' : Nat → Nat → Prop} (h : SlX B v n R) (hB : ∀ b, B b → B' b) (hr : ∀ b o, B b → R b o → R' b o) : SlX B' v n R' := by
 rcases h with h | ⟨b, o, cap, h1, h2, h3, h4, h5⟩
 ·exact .inl h
 ·exact .inr ⟨b, o, cap, h1, h2, h3, hB b h4, hr b o h4 h5⟩
theorem SlX.to {B : Nat → Prop} {n₀ : Nat} {v : Value} {n : Nat} {R R' : Nat → Nat → Prop} (h : SlX B v n R) (hB : ∀ b, B b → b < n₀) (hr : ∀ b o, R b o → R' b o) : SlV n₀ v n R' := by
 rcases h with h | ⟨b, o, cap, h1, h2, h3, h4, h5⟩
 ·exact .inl h
 ·exact .inr ⟨b, o, cap, h1, h2, h3, hB b h4, hr b o h5⟩
theorem SlX.of {n₀ : Nat} {v : Value} {n : Nat} {R R' : Nat → Nat → Prop} (h : SlV n₀ v n R) (hr : ∀ b o, R b o → R' b o) : SlX (fun b => b < n₀) v n R' := by
 rcases h with h | ⟨b, o, cap, h1, h2, h3, h4, h5⟩
 ·exact .inl h
 ·exact .inr ⟨b, o, cap, h1, h2, h3, h4, hr b o h5⟩
theorem SlX.ofIn {B : Nat → Prop} {v : Value} {n : Nat} {R R' : Nat → Nat → Prop} (h : SlIn B v n R) (hr : ∀ b o, R b o → R' b o) : SlX B v n R' := by
 rcases h with h | ⟨b, o, cap, h1, h2, h3, h4, h5⟩
 ·exact .inl ⟨h.1, none, 0, h.2, Nat.zero_le _⟩
 ·exact .inr ⟨b, o, cap, h1, h2, h3, h4, hr b o h5⟩
theorem SlX.split {B : Nat → Prop} {v : Value} {n : Nat} {R : Nat → Nat → Prop} (h : SlX B v n R) : ∃ (a : Option Addr) (cap : Nat), v = .slice a n cap ∧ cap ≤ maxLen ∧ n ≤ cap ∧ (0 < n → ∃ b o, a = some ⟨b, o, none⟩ ∧ B b ∧ R b o) := by
 rcases h with ⟨h1, a, cap, h2, h3⟩ | ⟨b, o, cap, h1, h2, h3, h4, h5⟩
 ·exact ⟨a, cap, by rw [h2, h1], h3, by omega, fun h => by omega⟩
 ·exact ⟨some ⟨b, o, none⟩, cap, h1, h3, h2, fun _ => ⟨b, o, rfl, h4, h5⟩⟩
mutual
def PtX (B : Nat → Prop) (w : World) : Pt → Value → Prop
 | .mk form n text parts, v => ∃ kv, v = .agg #[.int .i64 form, .int .i64 n, .string text, kv] ∧ text.size ≤ maxLen ∧ SlX B kv parts.length fun b o => PtsX B w parts b o
def PtsX (B : Nat → Prop) (w : World) : List Pt → Nat → Nat → Prop
 | [], _, _ => True
 | p :: ps, b, o => (∃ c0 c1 c2 c3, w.cell? ⟨b, o, none⟩ = some c0 ∧ w.cell? ⟨b, o + 1, none⟩ = some c1 ∧ w.cell? ⟨b, o + 2, none⟩ = some c2 ∧ w.cell? ⟨b, o + 3, none⟩ = some c3 ∧ PtX B w p (.agg #[c0, c1, c2, c3])) ∧ PtsX B w ps b (o + 4)
end
mutual
def TmX (B : Nat → Prop) (w : World) : Tm → Value → Prop
 | .mk op n text kids pats, v => ∃ kv pv, v = .agg #[.int .i64 op, .int .i64 n, .string text, kv, pv] ∧ text.size ≤ maxLen ∧ SlX B kv kids.length (fun b o => TmsX B w kids b o) ∧ SlX B pv pats.length (fun b o => PtsX B w pats b o)
def TmsX (B : Nat → Prop) (w : World) : List Tm → Nat → Nat → Prop
 | [], _, _ => True
 | p :: ps, b, o => (∃ c0 c1 c2 c3 c4, w.cell? ⟨b, o, none⟩ = some c0 ∧ w.cell? ⟨b, o + 1, none⟩ = some c1 ∧ w.cell? ⟨b, o + 2, none⟩ = some c2 ∧ w.cell? ⟨b, o + 3, none⟩ = some c3 ∧ w.cell? ⟨b, o + 4, none⟩ = some c4 ∧ TmX B w p (.agg #[c0, c1, c2, c3, c4])) ∧ TmsX B w ps b (o + 5)
end
mutual
theorem PtX.keep {B B' : Nat → Prop} {w w' : World} (hb : ∀ b, B b → w'.heap[b]? = w.heap[b]?) (hB : ∀ b, B b → B' b) : ∀ (p : Pt) (v : Value), PtX B w p v → PtX B' w' p v
 | .mk form n text parts, v, h => by
  unfold PtX at h ⊢
  obtain ⟨kv, h1, h2, h3⟩ := h
  exact ⟨kv, h1, h2, h3.mono hB fun b o hlt hr => PtsX.keep hb hB parts b o hlt hr⟩
theorem PtsX.keep {B B' : Nat → Prop} {w w' : World} (hb : ∀ b, B b → w'.heap[b]? = w.heap[b]?) (hB : ∀ b, B b → B' b) : ∀ (ps : List Pt) (b o : Nat), B b → PtsX B w ps b o → PtsX B' w' ps b o
 | [], _, _, _, _ => by unfold PtsX; trivial
 | p :: ps, b, o, hlt, h => by
  unfold PtsX at h ⊢
  obtain ⟨⟨c0, c1, c2, c3, h0, h1, h2, h3, hp⟩, hs⟩ := h
  exact ⟨⟨c0, c1, c2, c3, (cell_of_heap (hb b hlt)).trans h0, (cell_of_heap (hb b hlt)).trans h1, (cell_of_heap (hb b hlt)).trans h2, (cell_of_heap (hb b hlt)).trans h3, PtX.keep hb hB p _ hp⟩, PtsX.keep hb hB ps b _ hlt hs⟩
end
mutual
theorem TmX.keep {B B' : Nat → Prop} {w w' : World} (hb : ∀ b, B b → w'.heap[b]? = w.heap[b]?) (hB : ∀ b, B b → B' b) : ∀ (p : Tm) (v : Value), TmX B w p v → TmX B' w' p v
 | .mk op n text kids pats, v, h => by
  unfold TmX at h ⊢
  obtain ⟨kv, pv, h1, h2, h3, h4⟩ := h
  exact ⟨kv, pv, h1, h2, h3.mono hB fun b o hlt hr => TmsX.keep hb hB kids b o hlt hr, h4.mono hB fun b o hlt hr => PtsX.keep hb hB pats b o hlt hr⟩
theorem TmsX.keep {B B' : Nat → Prop} {w w' : World} (hb : ∀ b, B b → w'.heap[b]? = w.heap[b]?) (hB : ∀ b, B b → B' b) : ∀ (ps : List Tm) (b o : Nat), B b → TmsX B w ps b o → TmsX B' w' ps b o
 | [], _, _, _, _ => by unfold TmsX; trivial
 | p :: ps, b, o, hlt, h => by
  unfold TmsX at h ⊢
  obtain ⟨⟨c0, c1, c2, c3, c4, h0, h1, h2, h3, h4, hp⟩, hs⟩ := h
  exact ⟨⟨c0, c1, c2, c3, c4, (cell_of_heap (hb b hlt)).trans h0, (cell_of_heap (hb b hlt)).trans h1, (cell_of_heap (hb b hlt)).trans h2, (cell_of_heap (hb b hlt)).trans h3, (cell_of_heap (hb b hlt)).trans h4, TmX.keep hb hB p _ hp⟩, TmsX.keep hb hB ps b _ hlt hs⟩
end
mutual
theorem PtX.to {B : Nat → Prop} {n₀ : Nat} {w : World} (hB : ∀ b, B b → b < n₀) : ∀ (p : Pt) (v : Value), PtX B w p v → PtAt n₀ w p v
 | .mk form n text parts, v, h => by
  unfold PtX at h; unfold PtAt
  obtain ⟨kv, h1, h2, h3⟩ := h
  exact ⟨kv, h1, h2, h3.to hB fun b o hr => PtsX.to hB parts b o hr⟩
theorem PtsX.to {B : Nat → Prop} {n₀ : Nat} {w : World} (hB : ∀ b, B b → b < n₀) : ∀ (ps : List Pt) (b o : Nat), PtsX B w ps b o → PtsAt n₀ w ps b o
 | [], _, _, _ => by unfold PtsAt; trivial
 | p :: ps, b, o, h => by
  unfold PtsX at h; unfold PtsAt
  obtain ⟨⟨c0, c1, c2, c3, h0, h1, h2, h3, hp⟩, hs⟩ := h
  exact ⟨⟨c0, c1, c2, c3, h0, h1, h2, h3, PtX.to hB p _ hp⟩, PtsX.to hB ps b _ hs⟩
end
mutual
theorem TmX.to {B : Nat → Prop} {n₀ : Nat} {w : World} (hB : ∀ b, B b → b < n₀) : ∀ (p : Tm) (v : Value), TmX B w p v → TmAt n₀ w p v
 | .mk op n text kids pats, v, h => by
  unfold TmX at h; unfold TmAt
  obtain ⟨kv, pv, h1, h2, h3, h4⟩ := h
  exact ⟨kv, pv, h1, h2, h3.to hB fun b o hr => TmsX.to hB kids b o hr, h4.to hB fun b o hr => PtsX.to hB pats b o hr⟩
theorem TmsX.to {B : Nat → Prop} {n₀ : Nat} {w : World} (hB : ∀ b, B b → b < n₀) : ∀ (ps : List Tm) (b o : Nat), TmsX B w ps b o → TmsAt n₀ w ps b o
 | [], _, _, _ => by unfold TmsAt; trivial
 | p :: ps, b, o, h => by
  unfold TmsX at h; unfold TmsAt
  obtain ⟨⟨c0, c1, c2, c3, c4, h0, h1, h2, h3, h4, hp⟩, hs⟩ := h
  exact ⟨⟨c0, c1, c2, c3, c4, h0, h1, h2, h3, h4, TmX.to hB p _ hp⟩, TmsX.to hB ps b _ hs⟩
end
mutual
theorem PtX.of {n₀ : Nat} {w : World} : ∀ (p : Pt) (v : Value), PtAt n₀ w p v → PtX (fun b => b < n₀) w p v
 | .mk form n text parts, v, h => by
  unfold PtAt at h; unfold PtX
  obtain ⟨kv, h1, h2, h3⟩ := h
  exact ⟨kv, h1, h2, SlX.of h3 fun b o hr => PtsX.of parts b o hr⟩
theorem PtsX.of {n₀ : Nat} {w : World} : ∀ (ps : List Pt) (b o : Nat), PtsAt n₀ w ps b o → PtsX (fun b => b < n₀) w ps b o
 | [], _, _, _ => by unfold PtsX; trivial
 | p :: ps, b, o, h => by
  unfold PtsAt at h; unfold PtsX
  obtain ⟨⟨c0, c1, c2, c3, h0, h1, h2, h3, hp⟩, hs⟩ := h
  exact ⟨⟨c0, c1, c2, c3, h0, h1, h2, h3, PtX.of p _ hp⟩, PtsX.of ps b _ hs⟩
end
mutual
theorem TmX.of {n₀ : Nat} {w : World} : ∀ (p : Tm) (v : Value), TmAt n₀ w p v → TmX (fun b => b < n₀) w p v
 | .mk op n text kids pats, v, h => by
  unfold TmAt at h; unfold TmX
  obtain ⟨kv, pv, h1, h2, h3, h4⟩ := h
  exact ⟨kv, pv, h1, h2, SlX.of h3 fun b o hr => TmsX.of kids b o hr, SlX.of h4 fun b o hr => PtsX.of pats b o hr⟩
theorem TmsX.of {n₀ : Nat} {w : World} : ∀ (ps : List Tm) (b o : Nat), TmsAt n₀ w ps b o → TmsX (fun b => b < n₀) w ps b o
 | [], _, _, _ => by unfold TmsX; trivial
 | p :: ps, b, o, h => by
  unfold TmsAt at h; unfold TmsX
  obtain ⟨⟨c0, c1, c2, c3, c4, h0, h1, h2, h3, h4, hp⟩, hs⟩ := h
  exact ⟨⟨c0, c1, c2, c3, c4, h0, h1, h2, h3, h4, TmX.of p _ hp⟩, TmsX.of ps b _ hs⟩
end
mutual
theorem PtX.ofIn {B : Nat → Prop} {w : World} : ∀ (p : Pt) (v : Value), PtIn B w p v → PtX B w p v
 | .mk form n text parts, v, h => by
  unfold PtIn at h; unfold PtX
  obtain ⟨kv, h1, h2, h3⟩ := h
  exact ⟨kv, h1, h2, SlX.ofIn h3 fun b o hr => PtsX.ofIn parts b o hr⟩
theorem PtsX.ofIn {B : Nat → Prop} {w : World} : ∀ (ps : List Pt) (b o : Nat), PtsIn B w ps b o → PtsX B w ps b o
 | [], _, _, _ => by unfold PtsX; trivial
 | p :: ps, b, o, h => by
  unfold PtsIn at h; unfold PtsX
  obtain ⟨⟨c0, c1, c2, c3, h0, h1, h2, h3, hp⟩, hs⟩ := h
  exact ⟨⟨c0, c1, c2, c3, h0, h1, h2, h3, PtX.ofIn p _ hp⟩, PtsX.ofIn ps b _ hs⟩
end
theorem PtX.shape {B : Nat → Prop} {w : World} {T : Pt} {v : Value} (h : PtX B w T v) : ∃ (a : Option Addr) (cap : Nat), v = .agg #[.int .i64 T.form, .int .i64 T.n, .string T.text, .slice a T.parts.length cap] := by
 cases T with
 | mk op n text kids =>
  unfold PtX at h
  obtain ⟨kv, h1, h2, h3⟩ := h
  obtain ⟨a, cap, rfl, -⟩ := h3.split
  exact ⟨_, _, h1⟩
theorem TmX.shape {B : Nat → Prop} {w : World} {T : Tm} {v : Value} (h : TmX B w T v) : ∃ a cap a' cap', v = .agg #[.int .i64 T.op, .int .i64 T.n, .string T.text, .slice a T.kids.length cap, .slice a' T.pats.length cap'] := by
 cases T with
 | mk op n text kids pats =>
  unfold TmX at h
  obtain ⟨kv, pv, h1, h2, h3, h4⟩ := h
  obtain ⟨a, cap, rfl, -⟩ := h3.split
  obtain ⟨a', cap', rfl, -⟩ := h4.split
  exact ⟨_, _, _, _, h1⟩
theorem TmsX.get {B : Nat → Prop} {w : World} : ∀ (ps : List Tm) (b o : Nat), TmsX B w ps b o → ∀ (i : Nat) (h : i < ps.length),
  ∃ c0 c1 c2 c3 c4, w.cell? ⟨b, o + i * 5, none⟩ = some c0 ∧ w.cell? ⟨b, o + i * 5 + 1, none⟩ = some c1 ∧ w.cell? ⟨b, o + i * 5 + 2, none⟩ = some c2 ∧ w.cell? ⟨b, o + i * 5 + 3, none⟩ = some c3 ∧ w.cell? ⟨b, o + i * 5 + 4, none⟩ = some c4 ∧ TmX B w ps[i] (.agg #[c0, c1, c2, c3, c4])
 | p :: ps, b, o, h, 0, _ => by unfold TmsX at h; simpa using h.1
 | p :: ps, b, o, h, i + 1, hi => by
  unfold TmsX at h
  have := TmsX.get ps b (o + 5) h.2 i (by simpa using hi)
  rw [show o + (i + 1) * 5 = o + 5 + i * 5 by omega]
  simpa using this
def FlaP (B : Nat → Prop) (w : World) : List Pt → List Value → Prop
 | [], cs => cs = []
 | p :: ps, cs => ∃ c0 c1 c2 c3 r, cs = c0 :: c1 :: c2 :: c3 :: r ∧ PtX B w p (.agg #[c0, c1, c2, c3]) ∧ FlaP B w ps r
def FlaM (B : Nat → Prop) (w : World) : List Tm → List Value → Prop
 | [], cs => cs = []
 | p :: ps, cs => ∃ c0 c1 c2 c3 c4 r, cs = c0 :: c1 :: c2 :: c3 :: c4 :: r ∧ TmX B w p (.agg #[c0, c1, c2, c3, c4]) ∧ FlaM B w ps r
theorem FlaP.keep {B B' : Nat → Prop} {w w' : World} (hb : ∀ b, B b → w'.heap[b]? = w.heap[b]?) (hB : ∀ b, B b → B' b) : ∀ (ps : List Pt) (cs : List Value), FlaP B w ps cs → FlaP B' w' ps cs
 | [], _, h => h
 | _ :: ps, _, ⟨c0, c1, c2, c3, r, h1, h2, h3⟩ => ⟨c0, c1, c2, c3, r, h1, PtX.keep hb hB _ _ h2, FlaP.keep hb hB ps r h3⟩
theorem FlaM.keep {B B' : Nat → Prop} {w w' : World} (hb : ∀ b, B b → w'.heap[b]? = w.heap[b]?) (hB : ∀ b, B b → B' b) : ∀ (ps : List Tm) (cs : List Value), FlaM B w ps cs → FlaM B' w' ps cs
 | [], _, h => h
 | _ :: ps, _, ⟨c0, c1, c2, c3, c4, r, h1, h2, h3⟩ => ⟨c0, c1, c2, c3, c4, r, h1, TmX.keep hb hB _ _ h2, FlaM.keep hb hB ps r h3⟩
theorem FlaP.snoc {B : Nat → Prop} {w : World} {p : Pt} {c0 c1 c2 c3 : Value} (hp : PtX B w p (.agg #[c0, c1, c2, c3])) : ∀ (ps : List Pt) (cs : List Value), FlaP B w ps cs → FlaP B w (ps ++ [p]) (cs ++ [c0, c1, c2, c3])
 | [], _, h => by cases h; exact ⟨c0, c1, c2, c3, [], rfl, hp, rfl⟩
 | _ :: ps, _, ⟨d0, d1, d2, d3, r, h1, h2, h3⟩ => ⟨d0, d1, d2, d3, r ++ [c0, c1, c2, c3], by rw [h1]; rfl, h2, FlaP.snoc hp ps r h3⟩
theorem FlaM.snoc {B : Nat → Prop} {w : World} {p : Tm} {c0 c1 c2 c3 c4 : Value} (hp : TmX B w p (.agg #[c0, c1, c2, c3, c4])) : ∀ (ps : List Tm) (cs : List Value), FlaM B w ps cs → FlaM B w (ps ++ [p]) (cs ++ [c0, c1, c2, c3, c4])
 | [], _, h => by cases h; exact ⟨c0, c1, c2, c3, c4, [], rfl, hp, rfl⟩
 | _ :: ps, _, ⟨d0, d1, d2, d3, d4, r, h1, h2, h3⟩ => ⟨d0, d1, d2, d3, d4, r ++ [c0, c1, c2, c3, c4], by rw [h1]; rfl, h2, FlaM.snoc hp ps r h3⟩
theorem FlaP.ptsX {B : Nat → Prop} {w : World} {b : Nat} : ∀ (ps : List Pt) (cs : List Value) (o : Nat), FlaP B w ps cs → (∀ i u, cs[i]? = some u → w.cell? ⟨b, o + i, none⟩ = some u) → PtsX B w ps b o
 | [], _, _, _, _ => by unfold PtsX; trivial
 | p :: ps, _, o, ⟨c0, c1, c2, c3, r, h1, h2, h3⟩, hc => by
  subst h1
  unfold PtsX
  refine ⟨⟨c0, c1, c2, c3, hc 0 c0 rfl, hc 1 c1 rfl, hc 2 c2 rfl, hc 3 c3 rfl, h2⟩, FlaP.ptsX ps r (o + 4) h3 fun i u hi => ?_⟩
  rw [Nat.add_assoc, Nat.add_comm 4 i]; exact hc (i + 4) u hi
theorem FlaM.tmsX {B : Nat → Prop} {w : World} {b : Nat} : ∀ (ps : List Tm) (cs : List Value) (o : Nat), FlaM B w ps cs → (∀ i u, cs[i]? = some u → w.cell? ⟨b, o + i, none⟩ = some u) → TmsX B w ps b o
 | [], _, _, _, _ => by unfold TmsX; trivial
 | p :: ps, _, o, ⟨c0, c1, c2, c3, c4, r, h1, h2, h3⟩, hc => by
  subst h1
  unfold TmsX
  refine ⟨⟨c0, c1, c2, c3, c4, hc 0 c0 rfl, hc 1 c1 rfl, hc 2 c2 rfl, hc 3 c3 rfl, hc 4 c4 rfl, h2⟩, FlaM.tmsX ps r (o + 5) h3 fun i u hi => ?_⟩
  rw [Nat.add_assoc, Nat.add_comm 5 i]; exact hc (i + 5) u hi
theorem FlaM.get {B : Nat → Prop} {w : World} : ∀ (ps : List Tm) (cs : List Value), FlaM B w ps cs → ∀ (k : Nat) (hk : k < ps.length), ∃ c0 c1 c2 c3 c4, cs[k * 5]? = some c0 ∧ cs[k * 5 + 1]? = some c1 ∧ cs[k * 5 + 2]? = some c2 ∧ cs[k * 5 + 3]? = some c3 ∧ cs[k * 5 + 4]? = some c4 ∧ TmX B w ps[k] (.agg #[c0, c1, c2, c3, c4])
 | p :: ps, _, ⟨c0, c1, c2, c3, c4, r, h1, h2, h3⟩, 0, _ => by subst h1; exact ⟨c0, c1, c2, c3, c4, rfl, rfl, rfl, rfl, rfl, h2⟩
 | p :: ps, _, ⟨c0, c1, c2, c3, c4, r, h1, h2, h3⟩, k + 1, hk => by
  subst h1
  obtain ⟨d0, d1, d2, d3, d4, g0, g1, g2, g3, g4, ht⟩ := FlaM.get ps r h3 k (by simpa using hk)
  rw [show (k + 1) * 5 = k * 5 + 5 by omega]
  exact ⟨d0, d1, d2, d3, d4, g0, g1, g2, g3, g4, ht⟩
theorem FlaP.of {B : Nat → Prop} {w : World} {b : Nat} : ∀ (ps : List Pt) (o : Nat), PtsX B w ps b o → ∃ cs, FlaP B w ps cs ∧ ∀ j u, cs[j]? = some u → w.cell? ⟨b, o + j, none⟩ = some u
 | [], _, _ => ⟨[], rfl, fun j u h => by simp at h⟩
 | p :: ps, o, h => by
  unfold PtsX at h
  obtain ⟨⟨c0, c1, c2, c3, h0, h1, h2, h3, hp⟩, hs⟩ := h
  obtain ⟨r, hr, hc⟩ := FlaP.of ps (o + 4) hs
  refine ⟨c0 :: c1 :: c2 :: c3 :: r, ⟨c0, c1, c2, c3, r, rfl, hp, hr⟩, fun j u hj => ?_⟩
  match j with
  | 0 => cases hj; exact h0
  | 1 => cases hj; exact h1
  | 2 => cases hj; exact h2
  | 3 => cases hj; exact h3
  | j + 4 =>
   have := hc j u hj
   rwa [Nat.add_assoc, Nat.add_comm 4 j] at this
theorem FlaP.length {B : Nat → Prop} {w : World} : ∀ (ps : List Pt) (cs : List Value), FlaP B w ps cs → cs.length = ps.length * 4
 | [], cs, h => by cases h; rfl
 | p :: ps, cs, ⟨c0, c1, c2, c3, r, h1, h2, h3⟩ => by
  rw [h1]
  have := FlaP.length ps r h3
  simp only [List.length_cons]
  omega
theorem FlaP.one {B : Nat → Prop} {w : World} : ∀ (ps : List Pt) (cs : List Value), FlaP B w ps cs → ∀ u ∈ cs, u.oneCell' = true
 | [], cs, h, u, hu => by cases h; cases hu
 | p :: ps, cs, ⟨c0, c1, c2, c3, r, h1, h2, h3⟩, u, hu => by
  obtain ⟨a, cap, he⟩ := h2.shape
  simp only [Value.agg.injEq, Array.mk.injEq, List.cons.injEq, and_true] at he
  obtain ⟨rfl, rfl, rfl, rfl⟩ := he
  rw [h1] at hu
  simp only [List.mem_cons] at hu
  rcases hu with rfl | rfl | rfl | rfl | hu
  ·rfl
  ·rfl
  ·rfl
  ·rfl
  ·exact FlaP.one ps r h3 u hu
theorem FlaP.get {B : Nat → Prop} {w : World} : ∀ (ps : List Pt) (cs : List Value), FlaP B w ps cs → ∀ (k : Nat) (hk : k < ps.length), ∃ c0 c1 c2 c3, cs[k * 4]? = some c0 ∧ cs[k * 4 + 1]? = some c1 ∧ cs[k * 4 + 2]? = some c2 ∧ cs[k * 4 + 3]? = some c3 ∧ PtX B w ps[k] (.agg #[c0, c1, c2, c3])
 | p :: ps, _, ⟨c0, c1, c2, c3, r, h1, h2, h3⟩, 0, _ => by subst h1; exact ⟨c0, c1, c2, c3, rfl, rfl, rfl, rfl, h2⟩
 | p :: ps, _, ⟨c0, c1, c2, c3, r, h1, h2, h3⟩, k + 1, hk => by
  subst h1
  obtain ⟨d0, d1, d2, d3, g0, g1, g2, g3, ht⟩ := FlaP.get ps r h3 k (by simpa using hk)
  rw [show (k + 1) * 4 = k * 4 + 4 by omega]
  exact ⟨d0, d1, d2, d3, g0, g1, g2, g3, ht⟩
theorem FlaP.set {B : Nat → Prop} {w : World} {b : Nat} {T : Pt} {e0 e1 e2 e3 : Value} : ∀ (ps : List Pt) (cs : List Value) (o k : Nat), k < ps.length → FlaP B w ps cs → (∀ j u, (j < k * 4 ∨ k * 4 + 4 ≤ j) → cs[j]? = some u → w.cell? ⟨b, o + j, none⟩ = some u) →
  w.cell? ⟨b, o + k * 4, none⟩ = some e0 → w.cell? ⟨b, o + k * 4 + 1, none⟩ = some e1 → w.cell? ⟨b, o + k * 4 + 2, none⟩ = some e2 → w.cell? ⟨b, o + k * 4 + 3, none⟩ = some e3 → PtX B w T (.agg #[e0, e1, e2, e3]) → PtsX B w (ps.set k T) b o
 | [], _, _, _, hk, _, _, _, _, _, _, _ => absurd hk (by simp)
 | p :: ps, _, o, 0, _, ⟨c0, c1, c2, c3, r, h1, h2, h3⟩, hc, g0, g1, g2, g3, ht => by
  subst h1
  simp only [Nat.zero_mul, Nat.add_zero] at g0 g1 g2 g3
  show PtsX B w (T :: ps) b o
  unfold PtsX
  refine ⟨⟨e0, e1, e2, e3, g0, g1, g2, g3, ht⟩, FlaP.ptsX ps r (o + 4) h3 fun i u hi => ?_⟩
  rw [Nat.add_assoc, Nat.add_comm 4 i]; exact hc (i + 4) u (by omega) hi
 | p :: ps, _, o, k + 1, hk, ⟨c0, c1, c2, c3, r, h1, h2, h3⟩, hc, g0, g1, g2, g3, ht => by
  subst h1
  show PtsX B w (p :: ps.set k T) b o
  unfold PtsX
  refine ⟨⟨c0, c1, c2, c3, hc 0 c0 (by omega) rfl, hc 1 c1 (by omega) rfl, hc 2 c2 (by omega) rfl, hc 3 c3 (by omega) rfl, h2⟩, FlaP.set ps r (o + 4) k (by simpa using hk) h3 (fun i u hi1 hi => ?_) ?_ ?_ ?_ ?_ ht⟩
  ·rw [Nat.add_assoc, Nat.add_comm 4 i]; exact hc (i + 4) u (by omega) hi
  all_goals (first | rw [show o + 4 + k * 4 = o + (k + 1) * 4 by omega]; assumption)
theorem FlaM.of {B : Nat → Prop} {w : World} {b : Nat} : ∀ (ps : List Tm) (o : Nat), TmsX B w ps b o → ∃ cs, FlaM B w ps cs ∧ ∀ j u, cs[j]? = some u → w.cell? ⟨b, o + j, none⟩ = some u
 | [], _, _ => ⟨[], rfl, fun j u h => by simp at h⟩
 | p :: ps, o, h => by
  unfold TmsX at h
  obtain ⟨⟨c0, c1, c2, c3, c4, h0, h1, h2, h3, h4, hp⟩, hs⟩ := h
  obtain ⟨r, hr, hc⟩ := FlaM.of ps (o + 5) hs
  refine ⟨c0 :: c1 :: c2 :: c3 :: c4 :: r, ⟨c0, c1, c2, c3, c4, r, rfl, hp, hr⟩, fun j u hj => ?_⟩
  match j with
  | 0 => cases hj; exact h0
  | 1 => cases hj; exact h1
  | 2 => cases hj; exact h2
  | 3 => cases hj; exact h3
  | 4 => cases hj; exact h4
  | j + 5 =>
   have := hc j u hj
   rwa [Nat.add_assoc, Nat.add_comm 5 j] at this
theorem FlaM.length {B : Nat → Prop} {w : World} : ∀ (ps : List Tm) (cs : List Value), FlaM B w ps cs → cs.length = ps.length * 5
 | [], cs, h => by cases h; rfl
 | p :: ps, cs, ⟨c0, c1, c2, c3, c4, r, h1, h2, h3⟩ => by
  rw [h1]
  have := FlaM.length ps r h3
  simp only [List.length_cons]
  omega
theorem FlaM.one {B : Nat → Prop} {w : World} : ∀ (ps : List Tm) (cs : List Value), FlaM B w ps cs → ∀ u ∈ cs, u.oneCell' = true
 | [], cs, h, u, hu => by cases h; cases hu
 | p :: ps, cs, ⟨c0, c1, c2, c3, c4, r, h1, h2, h3⟩, u, hu => by
  obtain ⟨a, cap, a', cap', he⟩ := h2.shape
  simp only [Value.agg.injEq, Array.mk.injEq, List.cons.injEq, and_true] at he
  obtain ⟨rfl, rfl, rfl, rfl, rfl⟩ := he
  rw [h1] at hu
  simp only [List.mem_cons] at hu
  rcases hu with rfl | rfl | rfl | rfl | rfl | hu
  ·rfl
  ·rfl
  ·rfl
  ·rfl
  ·rfl
  ·exact FlaM.one ps r h3 u hu
theorem FlaM.set {B : Nat → Prop} {w : World} {b : Nat} {T : Tm} {e0 e1 e2 e3 e4 : Value} : ∀ (ps : List Tm) (cs : List Value) (o k : Nat), k < ps.length → FlaM B w ps cs → (∀ j u, (j < k * 5 ∨ k * 5 + 5 ≤ j) → cs[j]? = some u → w.cell? ⟨b, o + j, none⟩ = some u) →
  w.cell? ⟨b, o + k * 5, none⟩ = some e0 → w.cell? ⟨b, o + k * 5 + 1, none⟩ = some e1 → w.cell? ⟨b, o + k * 5 + 2, none⟩ = some e2 → w.cell? ⟨b, o + k * 5 + 3, none⟩ = some e3 → w.cell? ⟨b, o + k * 5 + 4, none⟩ = some e4 → TmX B w T (.agg #[e0, e1, e2, e3, e4]) → TmsX B w (ps.set k T) b o
 | [], _, _, _, hk, _, _, _, _, _, _, _, _ => absurd hk (by simp)
 | p :: ps, _, o, 0, _, ⟨c0, c1, c2, c3, c4, r, h1, h2, h3⟩, hc, g0, g1, g2, g3, g4, ht => by
  subst h1
  simp only [Nat.zero_mul, Nat.add_zero] at g0 g1 g2 g3 g4
  show TmsX B w (T :: ps) b o
  unfold TmsX
  refine ⟨⟨e0, e1, e2, e3, e4, g0, g1, g2, g3, g4, ht⟩, FlaM.tmsX ps r (o + 5) h3 fun i u hi => ?_⟩
  rw [Nat.add_assoc, Nat.add_comm 5 i]; exact hc (i + 5) u (by omega) hi
 | p :: ps, _, o, k + 1, hk, ⟨c0, c1, c2, c3, c4, r, h1, h2, h3⟩, hc, g0, g1, g2, g3, g4, ht => by
  subst h1
  show TmsX B w (p :: ps.set k T) b o
  unfold TmsX
  refine ⟨⟨c0, c1, c2, c3, c4, hc 0 c0 (by omega) rfl, hc 1 c1 (by omega) rfl, hc 2 c2 (by omega) rfl, hc 3 c3 (by omega) rfl, hc 4 c4 (by omega) rfl, h2⟩, FlaM.set ps r (o + 5) k (by simpa using hk) h3 (fun i u hi1 hi => ?_) ?_ ?_ ?_ ?_ ?_ ht⟩
  ·rw [Nat.add_assoc, Nat.add_comm 5 i]; exact hc (i + 5) u (by omega) hi
  all_goals (first | rw [show o + 5 + k * 5 = o + (k + 1) * 5 by omega]; assumption)
def OwnX (B : Nat → Prop) (W W' : World) (v : Value) (b : Nat) : Prop := B b ∨ Own W W' v b
theorem ownX_step {B : Nat → Prop} {w wr w1 w' : World} {vo v' : Value} {X : Obj} (hBb : ∀ b, B b → b < w.heap.size) (hB : Below w.heap.size w wr) (hb1 : Below wr.heap.size wr w1) (hown : ∀ k, vo.ownBlock = some k → w.heap.size ≤ k ∧ k < wr.heap.size)
  (hgr : (w1.alloc X).grownBy w' vo.ownBlock) (hat : v'.ownBlock = vo.ownBlock ∨ v'.ownBlock = some (w1.alloc X).heap.size) :
  (∀ b, OwnX B w wr vo b → w'.heap[b]? = wr.heap[b]?) ∧ (∀ b, OwnX B w wr vo b → OwnX B w w' v' b) ∧ (∀ b, (B b ∨ wr.heap.size ≤ b) → b < w1.heap.size → w'.heap[b]? = w1.heap[b]? ∧ OwnX B w w' v' b) ∧ Below w.heap.size w w' := by
 obtain ⟨s1, s2, s3, s4⟩ := own_step hB hb1 hown hgr hat
 have hs := hB.size
 refine ⟨fun b h => ?_, fun b h => ?_, fun b h hlt => ?_, s4⟩
 ·rcases h with h | h
  ·have := hBb b h
   exact (s4.block b (by omega)).trans (hB.block b (by omega)).symm
  ·exact s1 b h
 ·exact h.imp_right (s2 b)
 ·rcases h with h | h
  ·have := hBb b h
   exact ⟨(s4.block b (by omega)).trans ((hb1.block b (by omega)).trans (hB.block b (by omega))).symm, .inl h⟩
  ·exact ⟨(s3 b h hlt).1, .inr (s3 b h hlt).2⟩
theorem TmX.cells {B : Nat → Prop} {w : World} {T : Tm} {c0 c1 c2 c3 c4 : Value} (h : TmX B w T (.agg #[c0, c1, c2, c3, c4])) :
  ∃ (o n : Int) (t : ByteArray) (ka : Option Addr) (kn kc : Nat) (pa : Option Addr) (pn pc : Nat), c0 = .int .i64 o ∧ c1 = .int .i64 n ∧ c2 = .string t ∧ c3 = .slice ka kn kc ∧ c4 = .slice pa pn pc := by
 obtain ⟨a, cap, a', cap', he⟩ := h.shape
 simp only [Value.agg.injEq, Array.mk.injEq, List.cons.injEq, and_true] at he
 obtain ⟨rfl, rfl, rfl, rfl, rfl⟩ := he
 exact ⟨_, _, _, _, _, _, _, _, _, rfl, rfl, rfl, rfl, rfl⟩
theorem PtX.cells {B : Nat → Prop} {w : World} {T : Pt} {c0 c1 c2 c3 : Value} (h : PtX B w T (.agg #[c0, c1, c2, c3])) :
  ∃ (o n : Int) (t : ByteArray) (ka : Option Addr) (kn kc : Nat), c0 = .int .i64 o ∧ c1 = .int .i64 n ∧ c2 = .string t ∧ c3 = .slice ka kn kc := by
 obtain ⟨a, cap, he⟩ := h.shape
 simp only [Value.agg.injEq, Array.mk.injEq, List.cons.injEq, and_true] at he
 obtain ⟨rfl, rfl, rfl, rfl⟩ := he
 exact ⟨_, _, _, _, _, _, rfl, rfl, rfl, rfl⟩
end Go.Proofs.YtjpahjfjpkbcnaaGreat
