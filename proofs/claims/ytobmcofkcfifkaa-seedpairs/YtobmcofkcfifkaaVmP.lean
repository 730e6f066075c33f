/- The functions that the law reaches, as the small machine takes them. -/
import Derived.Test.YtobmcofkcfifkaaVmA
import Derived.KernelRfl
open Go.Vm
namespace Go.Proofs.Ytobmcofkcfifkaa.T
open Go
def fn7 : AFn := (AFn.mk 90 [(.t 6)] (.seq (.ops [
  (.mk (some 6) none (.pure (.mv (.c (.b false)))))]) (.seq (.ops [
  (.mk (some 16) none (.pure (.mv (.t 0)))), 
  (.mk (some 17) none (.call 33 [(.t 16)])), 
  (.mk (some 15) none (.pure (.mv (.t 17)))), 
  (.mk (some 18) none (.pure (.ext 0 (.t 15)))), 
  (.mk (some 19) none (.pure (.ext 1 (.t 15)))), 
  (.mk (some 20) none (.pure (.ext 2 (.t 15)))), 
  (.mk (some 7) none (.pure (.mv (.t 18)))), 
  (.mk (some 8) none (.pure (.mv (.t 19)))), 
  (.mk (some 9) none (.pure (.mv (.t 20))))]) (.seq (.ops [
  (.mk (some 22) none (.pure (.mv (.t 0)))), 
  (.mk (some 23) none (.call 34 [(.t 22)])), 
  (.mk (some 21) none (.pure (.mv (.t 23)))), 
  (.mk (some 24) none (.pure (.ext 0 (.t 21)))), 
  (.mk (some 25) none (.pure (.ext 1 (.t 21)))), 
  (.mk (some 26) none (.pure (.ext 2 (.t 21)))), 
  (.mk (some 10) none (.pure (.mv (.t 24)))), 
  (.mk (some 11) none (.pure (.mv (.t 25)))), 
  (.mk (some 12) none (.pure (.mv (.t 26))))]) (.seq (.seq (.ops [
  (.mk (some 27) none (.pure (.mv (.t 7)))), 
  (.mk (some 28) none (.pure (.mv (.t 10)))), 
  (.mk (some 29) none (.pure (.bin .neq (.t 27) (.t 28)))), 
  (.mk (some 30) none (.pure (.mv (.t 29)))), 
  (.mk (some 31) (some (30, false)) (.pure (.mv (.t 8)))), 
  (.mk (some 32) (some (30, false)) (.pure (.mv (.t 11)))), 
  (.mk (some 33) (some (30, false)) (.pure (.bin .neq (.t 31) (.t 32)))), 
  (.mk (some 34) none (.pure (.pick (.t 30) (.c (.b true)) (.t 33)))), 
  (.mk (some 35) none (.pure (.mv (.t 34)))), 
  (.mk (some 36) (some (35, false)) (.pure (.mv (.t 9)))), 
  (.mk (some 37) (some (35, false)) (.pure (.mv (.t 12)))), 
  (.mk (some 38) (some (35, false)) (.pure (.bin .neq (.t 36) (.t 37)))), 
  (.mk (some 39) none (.pure (.pick (.t 35) (.c (.b true)) (.t 38))))]) (.cond (.t 39) (.seq (.ops [
  (.mk (some 6) none (.pure (.mv (.c (.b false)))))]) .ret) .skip)) (.seq (.ops [
  (.mk (some 41) none (.pure (.mv (.t 1)))), 
  (.mk (some 42) none (.pure (.mv (.t 2)))), 
  (.mk (some 43) none (.call 35 [(.t 41), (.t 42)])), 
  (.mk (some 40) none (.pure (.mv (.t 43)))), 
  (.mk (some 44) none (.pure (.ext 0 (.t 40)))), 
  (.mk (some 45) none (.pure (.ext 1 (.t 40)))), 
  (.mk (some 13) none (.pure (.mv (.t 44)))), 
  (.mk (some 9) none (.pure (.mv (.t 45))))]) (.seq (.ops [
  (.mk (some 47) none (.pure (.mv (.t 1)))), 
  (.mk (some 48) none (.pure (.mv (.t 2)))), 
  (.mk (some 49) none (.call 36 [(.t 47), (.t 48)])), 
  (.mk (some 46) none (.pure (.mv (.t 49)))), 
  (.mk (some 50) none (.pure (.ext 0 (.t 46)))), 
  (.mk (some 51) none (.pure (.ext 1 (.t 46)))), 
  (.mk (some 14) none (.pure (.mv (.t 50)))), 
  (.mk (some 12) none (.pure (.mv (.t 51))))]) (.seq (.seq (.ops [
  (.mk (some 52) none (.pure (.mv (.t 13)))), 
  (.mk (some 53) none (.pure (.mv (.t 14)))), 
  (.mk (some 54) none (.pure (.beq true (.t 52) (.t 53)))), 
  (.mk (some 55) none (.pure (.mv (.t 54)))), 
  (.mk (some 56) (some (55, false)) (.pure (.mv (.t 9)))), 
  (.mk (some 57) (some (55, false)) (.pure (.mv (.t 12)))), 
  (.mk (some 58) (some (55, false)) (.pure (.bin .neq (.t 56) (.t 57)))), 
  (.mk (some 59) none (.pure (.pick (.t 55) (.c (.b true)) (.t 58))))]) (.cond (.t 59) (.seq (.ops [
  (.mk (some 6) none (.pure (.mv (.c (.b false)))))]) .ret) .skip)) (.seq (.ops [
  (.mk (some 61) none (.pure (.mv (.t 1)))), 
  (.mk (some 62) none (.pure (.mv (.t 2)))), 
  (.mk (some 63) none (.call 37 [(.t 61), (.t 62)])), 
  (.mk (some 60) none (.pure (.mv (.t 63)))), 
  (.mk (some 64) none (.pure (.ext 0 (.t 60)))), 
  (.mk (some 65) none (.pure (.ext 1 (.t 60)))), 
  (.mk (some 66) none (.pure (.ext 2 (.t 60)))), 
  (.mk (some 7) none (.pure (.mv (.t 64)))), 
  (.mk (some 8) none (.pure (.mv (.t 65)))), 
  (.mk (some 9) none (.pure (.mv (.t 66))))]) (.seq (.ops [
  (.mk (some 68) none (.pure (.mv (.t 1)))), 
  (.mk (some 69) none (.pure (.mv (.t 2)))), 
  (.mk (some 70) none (.call 38 [(.t 68), (.t 69)])), 
  (.mk (some 67) none (.pure (.mv (.t 70)))), 
  (.mk (some 71) none (.pure (.ext 0 (.t 67)))), 
  (.mk (some 72) none (.pure (.ext 1 (.t 67)))), 
  (.mk (some 73) none (.pure (.ext 2 (.t 67)))), 
  (.mk (some 10) none (.pure (.mv (.t 71)))), 
  (.mk (some 11) none (.pure (.mv (.t 72)))), 
  (.mk (some 12) none (.pure (.mv (.t 73))))]) (.seq (.ops [
  (.mk (some 74) none (.pure (.mv (.t 7)))), 
  (.mk (some 75) none (.pure (.mv (.t 10)))), 
  (.mk (some 76) none (.pure (.bin .eql (.t 74) (.t 75)))), 
  (.mk (some 77) none (.pure (.mv (.t 76)))), 
  (.mk (some 78) (some (77, true)) (.pure (.mv (.t 8)))), 
  (.mk (some 79) (some (77, true)) (.pure (.mv (.t 11)))), 
  (.mk (some 80) (some (77, true)) (.pure (.bin .eql (.t 78) (.t 79)))), 
  (.mk (some 81) none (.pure (.pick (.t 77) (.t 80) (.c (.b false))))), 
  (.mk (some 82) none (.pure (.mv (.t 81)))), 
  (.mk (some 83) (some (82, true)) (.pure (.mv (.t 9)))), 
  (.mk (some 84) (some (82, true)) (.pure (.mv (.t 12)))), 
  (.mk (some 85) (some (82, true)) (.pure (.bin .eql (.t 83) (.t 84)))), 
  (.mk (some 86) none (.pure (.pick (.t 82) (.t 85) (.c (.b false))))), 
  (.mk (some 87) none (.pure (.mv (.t 86)))), 
  (.mk (some 88) (some (87, true)) (.call 18 [])), 
  (.mk (some 89) none (.pure (.pick (.t 87) (.t 88) (.c (.b false))))), 
  (.mk (some 6) none (.pure (.mv (.t 89))))]) .ret)))))))))))
def fn18 : AFn := (AFn.mk 75 [(.t 0)] (.seq (.ops [
  (.mk (some 0) none (.pure (.mv (.c (.b false)))))]) (.seq (.ops [
  (.mk (some 13) none (.call 19 [(.c (.i .i64 11))])), 
  (.mk (some 12) none (.pure (.mv (.t 13)))), 
  (.mk (some 14) none (.pure (.ext 0 (.t 12)))), 
  (.mk (some 15) none (.pure (.ext 1 (.t 12)))), 
  (.mk (some 1) none (.pure (.mv (.t 14)))), 
  (.mk (some 2) none (.pure (.mv (.t 15))))]) (.seq (.ops [
  (.mk (some 17) none (.call 25 [(.c (.i .i64 11))])), 
  (.mk (some 16) none (.pure (.mv (.t 17)))), 
  (.mk (some 18) none (.pure (.ext 0 (.t 16)))), 
  (.mk (some 19) none (.pure (.ext 1 (.t 16)))), 
  (.mk (some 3) none (.pure (.mv (.t 18)))), 
  (.mk (some 4) none (.pure (.mv (.t 19))))]) (.seq (.ops [
  (.mk (some 21) none (.call 29 [(.c (.i .i64 3)), (.c (.i .i64 4))])), 
  (.mk (some 20) none (.pure (.mv (.t 21)))), 
  (.mk (some 22) none (.pure (.ext 0 (.t 20)))), 
  (.mk (some 23) none (.pure (.ext 1 (.t 20)))), 
  (.mk (some 5) none (.pure (.mv (.t 22)))), 
  (.mk (some 6) none (.pure (.mv (.t 23))))]) (.seq (.ops [
  (.mk (some 25) none (.call 37 [(.c (.i .i64 2)), (.c (.i .i64 2))])), 
  (.mk (some 24) none (.pure (.mv (.t 25)))), 
  (.mk (some 26) none (.pure (.ext 0 (.t 24)))), 
  (.mk (some 27) none (.pure (.ext 1 (.t 24)))), 
  (.mk (some 28) none (.pure (.ext 2 (.t 24)))), 
  (.mk (some 7) none (.pure (.mv (.t 26)))), 
  (.mk (some 8) none (.pure (.mv (.t 27)))), 
  (.mk (some 9) none (.pure (.mv (.t 28))))]) (.seq (.ops [
  (.mk (some 30) none (.call 39 [(.c (.i .i64 11)), (.c (.i .i64 10))])), 
  (.mk (some 29) none (.pure (.mv (.t 30)))), 
  (.mk (some 31) none (.pure (.ext 0 (.t 29)))), 
  (.mk (some 32) none (.pure (.ext 1 (.t 29)))), 
  (.mk (some 10) none (.pure (.mv (.t 31)))), 
  (.mk (some 11) none (.pure (.mv (.t 32))))]) (.seq (.ops [
  (.mk (some 33) none (.pure (.mv (.t 2)))), 
  (.mk (some 34) none (.pure (.bin .eql (.t 33) (.c (.i .i64 0))))), 
  (.mk (some 35) none (.pure (.mv (.t 34)))), 
  (.mk (some 36) (some (35, true)) (.pure (.mv (.t 1)))), 
  (.mk (some 37) (some (35, true)) (.pure (.sbin .eql (.t 36) (.c (.s [49, 48, 49, 48, 48]))))), 
  (.mk (some 38) none (.pure (.pick (.t 35) (.t 37) (.c (.b false))))), 
  (.mk (some 39) none (.pure (.mv (.t 38)))), 
  (.mk (some 40) (some (39, true)) (.pure (.mv (.t 4)))), 
  (.mk (some 41) (some (39, true)) (.pure (.bin .eql (.t 40) (.c (.i .i64 0))))), 
  (.mk (some 42) none (.pure (.pick (.t 39) (.t 41) (.c (.b false))))), 
  (.mk (some 43) none (.pure (.mv (.t 42)))), 
  (.mk (some 44) (some (43, true)) (.pure (.mv (.t 3)))), 
  (.mk (some 45) (some (43, true)) (.pure (.bin .eql (.t 44) (.c (.i .i64 3))))), 
  (.mk (some 46) none (.pure (.pick (.t 43) (.t 45) (.c (.b false))))), 
  (.mk (some 47) none (.pure (.mv (.t 46)))), 
  (.mk (some 48) (some (47, true)) (.pure (.mv (.t 6)))), 
  (.mk (some 49) (some (47, true)) (.pure (.bin .eql (.t 48) (.c (.i .i64 0))))), 
  (.mk (some 50) none (.pure (.pick (.t 47) (.t 49) (.c (.b false))))), 
  (.mk (some 51) none (.pure (.mv (.t 50)))), 
  (.mk (some 52) (some (51, true)) (.pure (.mv (.t 5)))), 
  (.mk (some 53) (some (51, true)) (.pure (.bin .eql (.t 52) (.c (.i .i64 29))))), 
  (.mk (some 54) none (.pure (.pick (.t 51) (.t 53) (.c (.b false))))), 
  (.mk (some 55) none (.pure (.mv (.t 54)))), 
  (.mk (some 56) (some (55, true)) (.pure (.mv (.t 9)))), 
  (.mk (some 57) (some (55, true)) (.pure (.bin .eql (.t 56) (.c (.i .i64 0))))), 
  (.mk (some 58) none (.pure (.pick (.t 55) (.t 57) (.c (.b false))))), 
  (.mk (some 59) none (.pure (.mv (.t 58)))), 
  (.mk (some 60) (some (59, true)) (.pure (.mv (.t 7)))), 
  (.mk (some 61) (some (59, true)) (.pure (.bin .eql (.t 60) (.c (.i .i64 0))))), 
  (.mk (some 62) none (.pure (.pick (.t 59) (.t 61) (.c (.b false))))), 
  (.mk (some 63) none (.pure (.mv (.t 62)))), 
  (.mk (some 64) (some (63, true)) (.pure (.mv (.t 8)))), 
  (.mk (some 65) (some (63, true)) (.pure (.bin .eql (.t 64) (.c (.i .i64 1))))), 
  (.mk (some 66) none (.pure (.pick (.t 63) (.t 65) (.c (.b false))))), 
  (.mk (some 67) none (.pure (.mv (.t 66)))), 
  (.mk (some 68) (some (67, true)) (.pure (.mv (.t 11)))), 
  (.mk (some 69) (some (67, true)) (.pure (.bin .eql (.t 68) (.c (.i .i64 0))))), 
  (.mk (some 70) none (.pure (.pick (.t 67) (.t 69) (.c (.b false))))), 
  (.mk (some 71) none (.pure (.mv (.t 70)))), 
  (.mk (some 72) (some (71, true)) (.pure (.mv (.t 10)))), 
  (.mk (some 73) (some (71, true)) (.pure (.bin .eql (.t 72) (.c (.i .i64 3))))), 
  (.mk (some 74) none (.pure (.pick (.t 71) (.t 73) (.c (.b false))))), 
  (.mk (some 0) none (.pure (.mv (.t 74))))]) .ret))))))))
def fn19 : AFn := (AFn.mk 10 [(.t 2), (.t 3)] (.seq (.ops [
  (.mk (some 2) none (.pure (.mv (.c (.s []))))), 
  (.mk (some 3) none (.pure (.mv (.c (.i .i64 0)))))]) (.seq (.seq (.ops [
  (.mk (some 4) none (.pure (.mv (.t 0)))), 
  (.mk (some 5) none (.bsl 3 1 [(.i .i64 0)] 1 [((0, 1), (.t 4))])), 
  (.mk (some 6) none (.call 51 [(.t 5)])), 
  (.mk (some 7) none (.pure (.not (.t 6))))]) (.cond (.t 7) (.seq (.ops [
  (.mk (some 2) none (.pure (.mv (.c (.s []))))), 
  (.mk (some 3) none (.pure (.mv (.c (.i .i64 4)))))]) .ret) .skip)) (.seq (.ops [
  (.mk (some 8) none (.pure (.mv (.t 0)))), 
  (.mk (some 9) none (.call 52 [(.t 8)])), 
  (.mk (some 2) none (.pure (.mv (.t 9)))), 
  (.mk (some 3) none (.pure (.mv (.c (.i .i64 0)))))]) .ret))))
def fn25 : AFn := (AFn.mk 39 [(.t 2), (.t 3)] (.seq (.ops [
  (.mk (some 2) none (.pure (.mv (.c (.i .i64 0))))), 
  (.mk (some 3) none (.pure (.mv (.c (.i .i64 0)))))]) (.seq (.seq (.ops [
  (.mk (some 10) none (.pure (.mv (.t 0)))), 
  (.mk (some 11) none (.bsl 3 1 [(.i .i64 0)] 1 [((0, 1), (.t 10))])), 
  (.mk (some 12) none (.call 51 [(.t 11)])), 
  (.mk (some 13) none (.pure (.not (.t 12))))]) (.cond (.t 13) (.seq (.ops [
  (.mk (some 2) none (.pure (.mv (.c (.i .i64 0))))), 
  (.mk (some 3) none (.pure (.mv (.c (.i .i64 4)))))]) .ret) .skip)) (.seq (.ops [
  (.mk (some 4) none (.al 3 [(.i .i64 0)])), 
  (.mk (some 5) none (.al 3 [(.i .i64 0)])), 
  (.mk (some 6) none (.al 3 [(.i .i64 0)])), 
  (.mk none none (.st 1 (.t 4) (.c (.i .i64 1)))), 
  (.mk none none (.st 1 (.t 5) (.c (.i .i64 0)))), 
  (.mk none none (.st 1 (.t 6) (.c (.i .i64 1))))]) (.seq (.seq (.ops [
  (.mk (some 14) none (.pure (.mv (.t 0)))), 
  (.mk (some 15) none (.call 60 [(.t 14)])), 
  (.mk (some 16) none (.call 59 [(.t 15)]))]) (.block 0 (.rng (.t 16) [17, 18] (.ops [
  (.mk (some 8) none (.pure (.mv (.t 18))))]) (.block 1 (.seq (.ops [
  (.mk (some 19) none (.pure (.mv (.t 8)))), 
  (.mk (some 20) none (.ld true 1 (.t 6))), 
  (.mk (some 21) none (.pure (.bin .sub (.t 19) (.t 20)))), 
  (.mk (some 9) none (.pure (.mv (.t 21))))]) (.seq (.any [(
  (.mk (some 22) none (.ld true 1 (.t 4))), false), (
  (.mk (some 23) none (.ld true 1 (.t 5))), false), (
  (.mk (some 24) none (.pure (.bin .add (.t 22) (.t 23)))), false), (
  (.mk (some 25) none (.ld true 1 (.t 4))), false), (
  (.mk (some 26) none (.pure (.mv (.t 9)))), false), (
  (.mk (some 27) none (.pure (.bin .sub (.t 26) (.c (.i .i64 1))))), false), (
  (.mk (some 28) none (.pure (.bin .quo (.t 27) (.c (.i .i64 2))))), false), (
  (.mk (some 29) none (.pure (.bin .mul (.t 25) (.t 28)))), false), (
  (.mk (some 30) none (.ld true 1 (.t 5))), true), (
  (.mk (some 31) none (.pure (.mv (.t 9)))), false), (
  (.mk (some 32) none (.pure (.bin .quo (.t 31) (.c (.i .i64 2))))), false), (
  (.mk (some 33) none (.pure (.bin .mul (.t 30) (.t 32)))), false), (
  (.mk (some 34) none (.pure (.bin .add (.t 29) (.t 33)))), false), (
  (.mk none none (.st 1 (.t 4) (.t 24))), false), (
  (.mk none none (.st 1 (.t 5) (.t 34))), true)]) (.ops [
  (.mk (some 35) none (.pure (.mv (.t 8)))), 
  (.mk none none (.st 1 (.t 6) (.t 35)))]))))))) (.seq (.ops [
  (.mk (some 36) none (.ld true 1 (.t 4))), 
  (.mk (some 37) none (.ld true 1 (.t 5))), 
  (.mk (some 38) none (.pure (.bin .add (.t 36) (.t 37)))), 
  (.mk (some 2) none (.pure (.mv (.t 38)))), 
  (.mk (some 3) none (.pure (.mv (.c (.i .i64 0)))))]) .ret))))))
def fn29 : AFn := (AFn.mk 31 [(.t 4), (.t 5)] (.seq (.ops [
  (.mk (some 4) none (.pure (.mv (.c (.i .i64 0))))), 
  (.mk (some 5) none (.pure (.mv (.c (.i .i64 0)))))]) (.seq (.seq (.ops [
  (.mk (some 9) none (.pure (.mv (.t 0)))), 
  (.mk (some 10) none (.pure (.mv (.t 1)))), 
  (.mk (some 11) none (.bsl 3 1 [(.i .i64 0)] 2 [((0, 1), (.t 9)), ((1, 1), (.t 10))])), 
  (.mk (some 12) none (.call 51 [(.t 11)])), 
  (.mk (some 13) none (.pure (.not (.t 12))))]) (.cond (.t 13) (.seq (.ops [
  (.mk (some 4) none (.pure (.mv (.c (.i .i64 0))))), 
  (.mk (some 5) none (.pure (.mv (.c (.i .i64 4)))))]) .ret) .skip)) (.seq (.ops [
  (.mk (some 6) none (.pure (.mv (.c (.i .i64 0)))))]) (.seq (.seq (.ops [
  (.mk (some 14) none (.pure (.mv (.t 1)))), 
  (.mk (some 15) none (.call 60 [(.t 14)])), 
  (.mk (some 16) none (.pure (.len false (.t 15)))), 
  (.mk (some 17) none (.pure (.mv (.c (.i .i64 0)))))]) (.block 0 (.loop (.seq (.ops [
  (.mk (some 18) none (.pure (.bin .lss (.t 17) (.t 16))))]) (.seq (.cond (.t 18) .skip (.exit 0)) (.seq (.block 1 (.seq (.ops [
  (.mk (some 19) none (.pure (.ixS 1 (.t 15) (.t 17)))), 
  (.mk (some 20) none (.ld true 1 (.t 19))), 
  (.mk (some 8) none (.pure (.mv (.t 20))))]) (.ops [
  (.mk (some 21) none (.pure (.mv (.t 6)))), 
  (.mk (some 22) none (.pure (.mv (.t 0)))), 
  (.mk (some 23) none (.pure (.mv (.t 8)))), 
  (.mk (some 24) none (.call 63 [(.t 22), (.t 23)])), 
  (.mk (some 25) none (.pure (.bin .add (.t 21) (.t 24)))), 
  (.mk (some 26) none (.pure (.mx false (.t 25) (.c (.i .i64 1152921504606846977))))), 
  (.mk (some 6) none (.pure (.mv (.t 26))))]))) (.ops [
  (.mk (some 27) none (.pure (.bin .add (.t 17) (.c (.i .i64 1))))), 
  (.mk (some 17) none (.pure (.mv (.t 27))))]))))))) (.seq (.seq (.ops [
  (.mk (some 28) none (.pure (.mv (.t 6)))), 
  (.mk (some 29) none (.pure (.bin .gtr (.t 28) (.c (.i .i64 1152921504606846976)))))]) (.cond (.t 29) (.seq (.ops [
  (.mk (some 4) none (.pure (.mv (.c (.i .i64 0))))), 
  (.mk (some 5) none (.pure (.mv (.c (.i .i64 4)))))]) .ret) .skip)) (.seq (.ops [
  (.mk (some 30) none (.pure (.mv (.t 6)))), 
  (.mk (some 4) none (.pure (.mv (.t 30)))), 
  (.mk (some 5) none (.pure (.mv (.c (.i .i64 0)))))]) .ret)))))))
def fn33 : AFn := (AFn.mk 18 [(.t 2), (.t 3), (.t 4)] (.seq (.ops [
  (.mk (some 2) none (.pure (.mv (.c (.i .i64 0))))), 
  (.mk (some 3) none (.pure (.mv (.c (.i .i64 0))))), 
  (.mk (some 4) none (.pure (.mv (.c (.i .i64 0)))))]) (.seq (.seq (.ops [
  (.mk (some 6) none (.pure (.mv (.t 0)))), 
  (.mk (some 7) none (.pure (.bin .lss (.t 6) (.c (.i .i64 0))))), 
  (.mk (some 8) none (.pure (.mv (.t 7)))), 
  (.mk (some 9) (some (8, false)) (.pure (.mv (.t 0)))), 
  (.mk (some 10) (some (8, false)) (.pure (.bin .gtr (.t 9) (.c (.i .i64 288230376151711744))))), 
  (.mk (some 11) none (.pure (.pick (.t 8) (.c (.b true)) (.t 10))))]) (.cond (.t 11) (.seq (.ops [
  (.mk (some 2) none (.pure (.mv (.c (.i .i64 0))))), 
  (.mk (some 3) none (.pure (.mv (.c (.i .i64 0))))), 
  (.mk (some 4) none (.pure (.mv (.c (.i .i64 4)))))]) .ret) .skip)) (.seq (.ops [
  (.mk (some 12) none (.pure (.mv (.t 0)))), 
  (.mk (some 13) none (.call 66 [(.t 12)])), 
  (.mk (some 5) none (.pure (.mv (.t 13))))]) (.seq (.ops [
  (.mk (some 14) none (.pure (.mv (.t 5)))), 
  (.mk (some 15) none (.pure (.mv (.t 5)))), 
  (.mk (some 16) none (.pure (.mv (.t 0)))), 
  (.mk (some 17) none (.pure (.bin .add (.t 15) (.t 16)))), 
  (.mk (some 2) none (.pure (.mv (.t 14)))), 
  (.mk (some 3) none (.pure (.mv (.t 17)))), 
  (.mk (some 4) none (.pure (.mv (.c (.i .i64 0)))))]) .ret)))))
def fn34 : AFn := (AFn.mk 18 [(.t 2), (.t 3), (.t 4)] (.seq (.ops [
  (.mk (some 2) none (.pure (.mv (.c (.i .i64 0))))), 
  (.mk (some 3) none (.pure (.mv (.c (.i .i64 0))))), 
  (.mk (some 4) none (.pure (.mv (.c (.i .i64 0)))))]) (.seq (.seq (.ops [
  (.mk (some 6) none (.pure (.mv (.t 0)))), 
  (.mk (some 7) none (.pure (.bin .lss (.t 6) (.c (.i .i64 0))))), 
  (.mk (some 8) none (.pure (.mv (.t 7)))), 
  (.mk (some 9) (some (8, false)) (.pure (.mv (.t 0)))), 
  (.mk (some 10) (some (8, false)) (.pure (.bin .gtr (.t 9) (.c (.i .i64 288230376151711744))))), 
  (.mk (some 11) none (.pure (.pick (.t 8) (.c (.b true)) (.t 10))))]) (.cond (.t 11) (.seq (.ops [
  (.mk (some 2) none (.pure (.mv (.c (.i .i64 0))))), 
  (.mk (some 3) none (.pure (.mv (.c (.i .i64 0))))), 
  (.mk (some 4) none (.pure (.mv (.c (.i .i64 4)))))]) .ret) .skip)) (.seq (.ops [
  (.mk (some 12) none (.pure (.mv (.t 0)))), 
  (.mk (some 13) none (.call 67 [(.t 12)])), 
  (.mk (some 5) none (.pure (.mv (.t 13))))]) (.seq (.ops [
  (.mk (some 14) none (.pure (.mv (.t 5)))), 
  (.mk (some 15) none (.pure (.mv (.t 5)))), 
  (.mk (some 16) none (.pure (.mv (.t 0)))), 
  (.mk (some 17) none (.pure (.bin .add (.t 15) (.t 16)))), 
  (.mk (some 2) none (.pure (.mv (.t 14)))), 
  (.mk (some 3) none (.pure (.mv (.t 17)))), 
  (.mk (some 4) none (.pure (.mv (.c (.i .i64 0)))))]) .ret)))))
def fn35 : AFn := (AFn.mk 15 [(.t 4), (.t 5)] (.seq (.ops [
  (.mk (some 4) none (.pure (.mv (.c (.b false))))), 
  (.mk (some 5) none (.pure (.mv (.c (.i .i64 0)))))]) (.seq (.seq (.ops [
  (.mk (some 6) none (.pure (.mv (.t 0)))), 
  (.mk (some 7) none (.pure (.mv (.t 1)))), 
  (.mk (some 8) none (.bsl 3 1 [(.i .i64 0)] 2 [((0, 1), (.t 6)), ((1, 1), (.t 7))])), 
  (.mk (some 9) none (.call 51 [(.t 8)])), 
  (.mk (some 10) none (.pure (.not (.t 9))))]) (.cond (.t 10) (.seq (.ops [
  (.mk (some 4) none (.pure (.mv (.c (.b false))))), 
  (.mk (some 5) none (.pure (.mv (.c (.i .i64 4)))))]) .ret) .skip)) (.seq (.ops [
  (.mk (some 11) none (.pure (.mv (.t 0)))), 
  (.mk (some 12) none (.call 68 [(.t 11)])), 
  (.mk (some 13) none (.pure (.mv (.t 1)))), 
  (.mk (some 14) none (.pure (.bin .eql (.t 12) (.t 13)))), 
  (.mk (some 4) none (.pure (.mv (.t 14)))), 
  (.mk (some 5) none (.pure (.mv (.c (.i .i64 0)))))]) .ret))))
def fn36 : AFn := (AFn.mk 17 [(.t 4), (.t 5)] (.seq (.ops [
  (.mk (some 4) none (.pure (.mv (.c (.b false))))), 
  (.mk (some 5) none (.pure (.mv (.c (.i .i64 0)))))]) (.seq (.seq (.ops [
  (.mk (some 6) none (.pure (.mv (.t 0)))), 
  (.mk (some 7) none (.call 53 [(.t 6)])), 
  (.mk (some 8) none (.pure (.not (.t 7)))), 
  (.mk (some 9) none (.pure (.mv (.t 8)))), 
  (.mk (some 10) (some (9, false)) (.pure (.mv (.t 1)))), 
  (.mk (some 11) (some (9, false)) (.call 53 [(.t 10)])), 
  (.mk (some 12) (some (9, false)) (.pure (.not (.t 11)))), 
  (.mk (some 13) none (.pure (.pick (.t 9) (.c (.b true)) (.t 12))))]) (.cond (.t 13) (.seq (.ops [
  (.mk (some 4) none (.pure (.mv (.c (.b false))))), 
  (.mk (some 5) none (.pure (.mv (.c (.i .i64 4)))))]) .ret) .skip)) (.seq (.ops [
  (.mk (some 14) none (.pure (.mv (.t 0)))), 
  (.mk (some 15) none (.pure (.mv (.t 1)))), 
  (.mk (some 16) none (.call 69 [(.t 14), (.t 15)])), 
  (.mk (some 4) none (.pure (.mv (.t 16)))), 
  (.mk (some 5) none (.pure (.mv (.c (.i .i64 0)))))]) .ret))))
def fn37 : AFn := (AFn.mk 56 [(.t 4), (.t 5), (.t 6)] (.seq (.ops [
  (.mk (some 4) none (.pure (.mv (.c (.i .i64 0))))), 
  (.mk (some 5) none (.pure (.mv (.c (.i .i64 0))))), 
  (.mk (some 6) none (.pure (.mv (.c (.i .i64 0)))))]) (.seq (.seq (.ops [
  (.mk (some 9) none (.pure (.mv (.t 0)))), 
  (.mk (some 10) none (.pure (.mv (.t 1)))), 
  (.mk (some 11) none (.bsl 3 1 [(.i .i64 0)] 2 [((0, 1), (.t 9)), ((1, 1), (.t 10))])), 
  (.mk (some 12) none (.call 51 [(.t 11)])), 
  (.mk (some 13) none (.pure (.not (.t 12))))]) (.cond (.t 13) (.seq (.ops [
  (.mk (some 4) none (.pure (.mv (.c (.i .i64 0))))), 
  (.mk (some 5) none (.pure (.mv (.c (.i .i64 0))))), 
  (.mk (some 6) none (.pure (.mv (.c (.i .i64 4)))))]) .ret) .skip)) (.seq (.seq (.ops [
  (.mk (some 14) none (.pure (.mv (.t 0)))), 
  (.mk (some 15) none (.call 68 [(.t 14)])), 
  (.mk (some 16) none (.pure (.mv (.t 1)))), 
  (.mk (some 17) none (.pure (.bin .eql (.t 15) (.t 16))))]) (.cond (.t 17) (.seq (.ops [
  (.mk (some 4) none (.pure (.mv (.c (.i .i64 0))))), 
  (.mk (some 5) none (.pure (.mv (.c (.i .i64 0))))), 
  (.mk (some 6) none (.pure (.mv (.c (.i .i64 10)))))]) .ret) .skip)) (.seq (.seq (.ops [
  (.mk (some 18) none (.pure (.mv (.t 0)))), 
  (.mk (some 19) none (.call 68 [(.t 18)])), 
  (.mk (some 20) none (.pure (.mv (.t 1)))), 
  (.mk (some 21) none (.pure (.bin .lss (.t 19) (.t 20))))]) (.cond (.t 21) (.seq (.ops [
  (.mk (some 22) none (.pure (.mv (.t 1)))), 
  (.mk (some 23) none (.pure (.mv (.t 0)))), 
  (.mk (some 24) none (.call 68 [(.t 23)])), 
  (.mk (some 25) none (.pure (.bin .sub (.t 22) (.t 24)))), 
  (.mk (some 4) none (.pure (.mv (.c (.i .i64 0))))), 
  (.mk (some 5) none (.pure (.mv (.t 25)))), 
  (.mk (some 6) none (.pure (.mv (.c (.i .i64 0)))))]) .ret) .skip)) (.seq (.ops [
  (.mk (some 26) none (.pure (.mv (.t 0)))), 
  (.mk (some 27) none (.pure (.mv (.t 1)))), 
  (.mk (some 28) none (.call 68 [(.t 27)])), 
  (.mk (some 29) none (.pure (.bin .sub (.t 26) (.t 28)))), 
  (.mk (some 7) none (.pure (.mv (.t 29))))]) (.seq (.ops [
  (.mk (some 30) none (.pure (.mv (.t 0)))), 
  (.mk (some 31) none (.pure (.mv (.t 1)))), 
  (.mk (some 32) none (.pure (.mx false (.t 30) (.t 31)))), 
  (.mk (some 33) none (.pure (.mv (.t 0)))), 
  (.mk (some 34) none (.pure (.mv (.t 1)))), 
  (.mk (some 35) none (.pure (.mx true (.t 33) (.t 34)))), 
  (.mk (some 36) none (.pure (.mv (.t 0)))), 
  (.mk (some 37) none (.pure (.mv (.t 1)))), 
  (.mk (some 38) none (.pure (.mx false (.t 36) (.t 37)))), 
  (.mk (some 39) none (.pure (.bin .sub (.t 35) (.t 38)))), 
  (.mk (some 40) none (.call 66 [(.t 39)])), 
  (.mk (some 41) none (.pure (.bin .sub (.t 32) (.t 40)))), 
  (.mk (some 8) none (.pure (.mv (.t 41))))]) (.seq (.seq (.ops [
  (.mk (some 42) none (.pure (.mv (.t 8)))), 
  (.mk (some 43) none (.pure (.bin .gtr (.t 42) (.c (.i .i64 0))))), 
  (.mk (some 44) none (.pure (.mv (.t 43)))), 
  (.mk (some 45) (some (44, true)) (.pure (.mv (.t 7)))), 
  (.mk (some 46) (some (44, true)) (.pure (.bin .lss (.t 45) (.c (.i .i64 0))))), 
  (.mk (some 47) (some (44, true)) (.pure (.mv (.t 46)))), 
  (.mk (some 48) (some (47, false)) (.pure (.mv (.t 8)))), 
  (.mk (some 49) (some (47, false)) (.pure (.mv (.t 7)))), 
  (.mk (some 50) (some (47, false)) (.pure (.bin .lss (.t 48) (.t 49)))), 
  (.mk (some 51) (some (44, true)) (.pure (.pick (.t 47) (.c (.b true)) (.t 50)))), 
  (.mk (some 52) none (.pure (.pick (.t 44) (.t 51) (.c (.b false)))))]) (.cond (.t 52) (.seq (.ops [
  (.mk (some 53) none (.pure (.mv (.t 8)))), 
  (.mk (some 54) none (.pure (.mv (.t 8)))), 
  (.mk (some 4) none (.pure (.mv (.t 53)))), 
  (.mk (some 5) none (.pure (.mv (.t 54)))), 
  (.mk (some 6) none (.pure (.mv (.c (.i .i64 0)))))]) .ret) .skip)) (.seq (.ops [
  (.mk (some 55) none (.pure (.mv (.t 7)))), 
  (.mk (some 4) none (.pure (.mv (.t 55)))), 
  (.mk (some 5) none (.pure (.mv (.c (.i .i64 0))))), 
  (.mk (some 6) none (.pure (.mv (.c (.i .i64 0)))))]) .ret)))))))))
def fn38 : AFn := (AFn.mk 68 [(.t 4), (.t 5), (.t 6)] (.seq (.ops [
  (.mk (some 4) none (.pure (.mv (.c (.i .i64 0))))), 
  (.mk (some 5) none (.pure (.mv (.c (.i .i64 0))))), 
  (.mk (some 6) none (.pure (.mv (.c (.i .i64 0)))))]) (.seq (.seq (.ops [
  (.mk (some 13) none (.pure (.mv (.t 0)))), 
  (.mk (some 14) none (.call 53 [(.t 13)])), 
  (.mk (some 15) none (.pure (.not (.t 14)))), 
  (.mk (some 16) none (.pure (.mv (.t 15)))), 
  (.mk (some 17) (some (16, false)) (.pure (.mv (.t 1)))), 
  (.mk (some 18) (some (16, false)) (.call 53 [(.t 17)])), 
  (.mk (some 19) (some (16, false)) (.pure (.not (.t 18)))), 
  (.mk (some 20) none (.pure (.pick (.t 16) (.c (.b true)) (.t 19))))]) (.cond (.t 20) (.seq (.ops [
  (.mk (some 4) none (.pure (.mv (.c (.i .i64 0))))), 
  (.mk (some 5) none (.pure (.mv (.c (.i .i64 0))))), 
  (.mk (some 6) none (.pure (.mv (.c (.i .i64 4)))))]) .ret) .skip)) (.seq (.seq (.ops [
  (.mk (some 21) none (.pure (.mv (.t 0)))), 
  (.mk (some 22) none (.pure (.mv (.t 1)))), 
  (.mk (some 23) none (.call 69 [(.t 21), (.t 22)]))]) (.cond (.t 23) (.seq (.ops [
  (.mk (some 4) none (.pure (.mv (.c (.i .i64 0))))), 
  (.mk (some 5) none (.pure (.mv (.c (.i .i64 0))))), 
  (.mk (some 6) none (.pure (.mv (.c (.i .i64 10)))))]) .ret) .skip)) (.seq (.ops [
  (.mk (some 24) none (.pure (.mv (.t 0)))), 
  (.mk (some 25) none (.call 70 [(.t 24)])), 
  (.mk (some 7) none (.pure (.mv (.t 25))))]) (.seq (.seq (.ops [
  (.mk (some 26) none (.pure (.mv (.t 7)))), 
  (.mk (some 27) none (.pure (.mv (.t 1)))), 
  (.mk (some 28) none (.pure (.bin .lss (.t 26) (.t 27))))]) (.cond (.t 28) (.seq (.ops [
  (.mk (some 29) none (.pure (.mv (.t 1)))), 
  (.mk (some 30) none (.pure (.mv (.t 7)))), 
  (.mk (some 31) none (.pure (.bin .sub (.t 29) (.t 30)))), 
  (.mk (some 4) none (.pure (.mv (.c (.i .i64 0))))), 
  (.mk (some 5) none (.pure (.mv (.t 31)))), 
  (.mk (some 6) none (.pure (.mv (.c (.i .i64 0)))))]) .ret) .skip)) (.seq (.ops [
  (.mk (some 8) none (.pure (.mv (.c (.i .i64 (-1)))))), 
  (.mk (some 9) none (.pure (.mv (.c (.i .i64 0)))))]) (.seq (.ops [
  (.mk (some 32) none (.pure (.mv (.t 1)))), 
  (.mk (some 33) none (.call 70 [(.t 32)])), 
  (.mk (some 10) none (.pure (.mv (.t 33))))]) (.seq (.seq (.ops [
  (.mk (some 34) none (.pure (.mv (.t 10)))), 
  (.mk (some 35) none (.pure (.mv (.t 0)))), 
  (.mk (some 36) none (.pure (.bin .lss (.t 34) (.t 35))))]) (.cond (.t 36) (.ops [
  (.mk (some 37) none (.pure (.mv (.t 0)))), 
  (.mk (some 38) none (.pure (.mv (.t 10)))), 
  (.mk (some 39) none (.pure (.bin .sub (.t 37) (.t 38)))), 
  (.mk (some 8) none (.pure (.mv (.t 39))))]) .skip)) (.seq (.ops [
  (.mk (some 40) none (.pure (.mv (.t 0)))), 
  (.mk (some 41) none (.pure (.mv (.t 1)))), 
  (.mk (some 42) none (.pure (.mx true (.t 40) (.t 41)))), 
  (.mk (some 43) none (.pure (.mv (.t 0)))), 
  (.mk (some 44) none (.pure (.mv (.t 1)))), 
  (.mk (some 45) none (.pure (.mx false (.t 43) (.t 44)))), 
  (.mk (some 46) none (.pure (.bin .sub (.t 42) (.t 45)))), 
  (.mk (some 47) none (.call 67 [(.t 46)])), 
  (.mk (some 11) none (.pure (.mv (.t 47))))]) (.seq (.ops [
  (.mk (some 48) none (.pure (.mv (.t 0)))), 
  (.mk (some 49) none (.pure (.mv (.t 1)))), 
  (.mk (some 50) none (.pure (.mx false (.t 48) (.t 49)))), 
  (.mk (some 51) none (.pure (.mv (.t 11)))), 
  (.mk (some 52) none (.pure (.bin .sub (.t 50) (.t 51)))), 
  (.mk (some 12) none (.pure (.mv (.t 52))))]) (.seq (.seq (.ops [
  (.mk (some 53) none (.pure (.mv (.t 12)))), 
  (.mk (some 54) none (.pure (.bin .gtr (.t 53) (.c (.i .i64 0))))), 
  (.mk (some 55) none (.pure (.mv (.t 54)))), 
  (.mk (some 56) (some (55, true)) (.pure (.mv (.t 8)))), 
  (.mk (some 57) (some (55, true)) (.pure (.bin .lss (.t 56) (.c (.i .i64 0))))), 
  (.mk (some 58) (some (55, true)) (.pure (.mv (.t 57)))), 
  (.mk (some 59) (some (58, false)) (.pure (.mv (.t 12)))), 
  (.mk (some 60) (some (58, false)) (.pure (.mv (.t 8)))), 
  (.mk (some 61) (some (58, false)) (.pure (.bin .lss (.t 59) (.t 60)))), 
  (.mk (some 62) (some (55, true)) (.pure (.pick (.t 58) (.c (.b true)) (.t 61)))), 
  (.mk (some 63) none (.pure (.pick (.t 55) (.t 62) (.c (.b false)))))]) (.cond (.t 63) (.seq (.ops [
  (.mk (some 64) none (.pure (.mv (.t 12)))), 
  (.mk (some 8) none (.pure (.mv (.t 64))))]) (.ops [
  (.mk (some 65) none (.pure (.mv (.t 12)))), 
  (.mk (some 9) none (.pure (.mv (.t 65))))])) .skip)) (.seq (.ops [
  (.mk (some 66) none (.pure (.mv (.t 8)))), 
  (.mk (some 67) none (.pure (.mv (.t 9)))), 
  (.mk (some 4) none (.pure (.mv (.t 66)))), 
  (.mk (some 5) none (.pure (.mv (.t 67)))), 
  (.mk (some 6) none (.pure (.mv (.c (.i .i64 0)))))]) .ret)))))))))))))
def fn39 : AFn := (AFn.mk 22 [(.t 4), (.t 5)] (.seq (.ops [
  (.mk (some 4) none (.pure (.mv (.c (.i .i64 0))))), 
  (.mk (some 5) none (.pure (.mv (.c (.i .i64 0)))))]) (.seq (.seq (.ops [
  (.mk (some 7) none (.pure (.mv (.t 0)))), 
  (.mk (some 8) none (.bsl 3 1 [(.i .i64 0)] 1 [((0, 1), (.t 7))])), 
  (.mk (some 9) none (.call 51 [(.t 8)])), 
  (.mk (some 10) none (.pure (.not (.t 9))))]) (.cond (.t 10) (.seq (.ops [
  (.mk (some 4) none (.pure (.mv (.c (.i .i64 0))))), 
  (.mk (some 5) none (.pure (.mv (.c (.i .i64 4)))))]) .ret) .skip)) (.seq (.seq (.ops [
  (.mk (some 11) none (.pure (.mv (.t 1)))), 
  (.mk (some 12) none (.pure (.bin .lss (.t 11) (.c (.i .i64 1)))))]) (.cond (.t 12) (.seq (.ops [
  (.mk (some 4) none (.pure (.mv (.c (.i .i64 0))))), 
  (.mk (some 5) none (.pure (.mv (.c (.i .i64 2)))))]) .ret) .skip)) (.seq (.seq (.ops [
  (.mk (some 13) none (.pure (.mv (.t 0)))), 
  (.mk (some 14) none (.pure (.bin .eql (.t 13) (.c (.i .i64 0)))))]) (.cond (.t 14) (.seq (.ops [
  (.mk (some 4) none (.pure (.mv (.c (.i .i64 0))))), 
  (.mk (some 5) none (.pure (.mv (.c (.i .i64 10)))))]) .ret) .skip)) (.seq (.ops [
  (.mk (some 15) none (.pure (.mv (.t 0)))), 
  (.mk (some 16) none (.call 72 [(.t 15)])), 
  (.mk (some 17) none (.call 71 [(.t 16)])), 
  (.mk (some 6) none (.pure (.mv (.t 17))))]) (.seq (.seq (.ops [
  (.mk (some 18) none (.pure (.mv (.t 6)))), 
  (.mk (some 19) none (.pure (.mv (.t 1)))), 
  (.mk (some 20) none (.pure (.bin .gtr (.t 18) (.t 19))))]) (.cond (.t 20) (.seq (.ops [
  (.mk (some 4) none (.pure (.mv (.c (.i .i64 0))))), 
  (.mk (some 5) none (.pure (.mv (.c (.i .i64 10)))))]) .ret) .skip)) (.seq (.ops [
  (.mk (some 21) none (.pure (.mv (.t 6)))), 
  (.mk (some 4) none (.pure (.mv (.t 21)))), 
  (.mk (some 5) none (.pure (.mv (.c (.i .i64 0)))))]) .ret))))))))
def fn51 : AFn := (AFn.mk 18 [(.t 2)] (.seq (.ops [
  (.mk (some 2) none (.pure (.mv (.c (.b false)))))]) (.seq (.seq (.ops [
  (.mk (some 5) none (.pure (.mv (.t 0)))), 
  (.mk (some 6) none (.pure (.len false (.t 5)))), 
  (.mk (some 7) none (.pure (.mv (.c (.i .i64 0)))))]) (.block 0 (.loop (.seq (.ops [
  (.mk (some 8) none (.pure (.bin .lss (.t 7) (.t 6))))]) (.seq (.cond (.t 8) .skip (.exit 0)) (.seq (.block 1 (.seq (.ops [
  (.mk (some 9) none (.pure (.ixS 1 (.t 5) (.t 7)))), 
  (.mk (some 10) none (.ld true 1 (.t 9))), 
  (.mk (some 4) none (.pure (.mv (.t 10))))]) (.seq (.ops [
  (.mk (some 11) none (.pure (.mv (.t 4)))), 
  (.mk (some 12) none (.pure (.bin .lss (.t 11) (.c (.i .i64 0))))), 
  (.mk (some 13) none (.pure (.mv (.t 12)))), 
  (.mk (some 14) (some (13, false)) (.pure (.mv (.t 4)))), 
  (.mk (some 15) (some (13, false)) (.pure (.bin .gtr (.t 14) (.c (.i .i64 1152921504606846976))))), 
  (.mk (some 16) none (.pure (.pick (.t 13) (.c (.b true)) (.t 15))))]) (.cond (.t 16) (.seq (.ops [
  (.mk (some 2) none (.pure (.mv (.c (.b false)))))]) .ret) .skip)))) (.ops [
  (.mk (some 17) none (.pure (.bin .add (.t 7) (.c (.i .i64 1))))), 
  (.mk (some 7) none (.pure (.mv (.t 17))))]))))))) (.seq (.ops [
  (.mk (some 2) none (.pure (.mv (.c (.b true)))))]) .ret))))
def fn52 : AFn := (AFn.mk 35 [(.t 2)] (.seq (.ops [
  (.mk (some 2) none (.pure (.mv (.c (.s [])))))]) (.seq (.seq (.ops [
  (.mk (some 8) none (.pure (.mv (.t 0)))), 
  (.mk (some 9) none (.pure (.bin .eql (.t 8) (.c (.i .i64 0)))))]) (.cond (.t 9) (.seq (.ops [
  (.mk (some 2) none (.pure (.mv (.c (.s [48])))))]) .ret) .skip)) (.seq (.ops [
  (.mk (some 10) none (.pure (.mv (.t 0)))), 
  (.mk (some 11) none (.call 60 [(.t 10)])), 
  (.mk (some 3) none (.pure (.mv (.t 11))))]) (.seq (.ops [
  (.mk (some 12) none (.pure (.mv (.t 3)))), 
  (.mk (some 13) none (.pure (.ixS 1 (.t 12) (.c (.i .i64 0))))), 
  (.mk (some 14) none (.ld true 1 (.t 13))), 
  (.mk (some 4) none (.pure (.mv (.t 14))))]) (.seq (.ops [
  (.mk (some 15) none (.bsl 5 1 [(.i .u8 0)] 1 [((0, 1), (.c (.i .u8 48)))])), 
  (.mk (some 16) none (.mks (.t 15))), 
  (.mk (some 17) none (.pure (.mv (.t 4)))), 
  (.mk (some 18) none (.pure (.bin .sub (.t 17) (.c (.i .i64 2))))), 
  (.mk (some 19) none (.pure (.bin .add (.t 18) (.c (.i .i64 1))))), 
  (.mk (some 20) none (.call 73 [(.t 16), (.t 19)])), 
  (.mk (some 5) none (.pure (.mv (.t 20))))]) (.seq (.seq (.ops [
  (.mk (some 21) none (.pure (.mv (.t 3)))), 
  (.mk (some 22) none (.pure (.len false (.t 21)))), 
  (.mk (some 23) none (.pure (.mv (.c (.i .i64 0)))))]) (.block 0 (.loop (.seq (.ops [
  (.mk (some 24) none (.pure (.bin .lss (.t 23) (.t 22))))]) (.seq (.cond (.t 24) .skip (.exit 0)) (.seq (.block 1 (.seq (.ops [
  (.mk (some 25) none (.pure (.ixS 1 (.t 21) (.t 23)))), 
  (.mk (some 26) none (.ld true 1 (.t 25))), 
  (.mk (some 7) none (.pure (.mv (.t 26))))]) (.ops [
  (.mk (some 27) none (.pure (.mv (.t 5)))), 
  (.mk (some 28) none (.pure (.mv (.t 4)))), 
  (.mk (some 29) none (.pure (.mv (.t 7)))), 
  (.mk (some 30) none (.pure (.bin .sub (.t 28) (.t 29)))), 
  (.mk (some 31) none (.pure (.ixS 1 (.t 27) (.t 30)))), 
  (.mk none none (.st 1 (.t 31) (.c (.i .u8 49))))]))) (.ops [
  (.mk (some 32) none (.pure (.bin .add (.t 23) (.c (.i .i64 1))))), 
  (.mk (some 23) none (.pure (.mv (.t 32))))]))))))) (.seq (.ops [
  (.mk (some 33) none (.pure (.mv (.t 5)))), 
  (.mk (some 34) none (.bts (.t 33))), 
  (.mk (some 2) none (.pure (.mv (.t 34))))]) .ret))))))))
def fn53 : AFn := (AFn.mk 9 [(.t 2)] (.seq (.ops [
  (.mk (some 2) none (.pure (.mv (.c (.b false)))))]) (.seq (.ops [
  (.mk (some 3) none (.pure (.mv (.t 0)))), 
  (.mk (some 4) none (.pure (.bin .geq (.t 3) (.c (.i .i64 0))))), 
  (.mk (some 5) none (.pure (.mv (.t 4)))), 
  (.mk (some 6) (some (5, true)) (.pure (.mv (.t 0)))), 
  (.mk (some 7) (some (5, true)) (.pure (.bin .leq (.t 6) (.c (.i .i64 1152921504606846976))))), 
  (.mk (some 8) none (.pure (.pick (.t 5) (.t 7) (.c (.b false))))), 
  (.mk (some 2) none (.pure (.mv (.t 8))))]) .ret)))
def fn59 : AFn := (AFn.mk 4 [(.t 2)] (.seq (.ops [
  (.mk (some 1) none (.bx 50 1 (.t 0))), 
  (.mk (some 2) none (.pure (.mv (.c .nfn))))]) (.seq (.ops [
  (.mk (some 3) none (.pure (.mkfn 75 [] [(.t 1)]))), 
  (.mk (some 2) none (.pure (.mv (.t 3))))]) .ret)))
def fn60 : AFn := (AFn.mk 28 [(.t 2)] (.seq (.ops [
  (.mk (some 2) none (.pure (.mv (.c .nsl))))]) (.seq (.ops [
  (.mk (some 3) none (.pure (.mv (.c .nsl))))]) (.seq (.ops [
  (.mk (some 7) none (.call 71 [(.c (.i .i64 88))])), 
  (.mk (some 8) none (.call 71 [(.c (.i .i64 87))])), 
  (.mk (some 4) none (.pure (.mv (.t 7)))), 
  (.mk (some 5) none (.pure (.mv (.t 8))))]) (.seq (.seq (.ops [
  (.mk (some 6) none (.pure (.mv (.c (.i .i64 88)))))]) (.block 0 (.loop (.seq (.seq (.ops [
  (.mk (some 9) none (.pure (.mv (.t 0)))), 
  (.mk (some 10) none (.pure (.bin .gtr (.t 9) (.c (.i .i64 0)))))]) (.cond (.t 10) .skip (.exit 0))) (.seq (.block 1 (.seq (.seq (.ops [
  (.mk (some 13) none (.pure (.mv (.t 4)))), 
  (.mk (some 14) none (.pure (.mv (.t 0)))), 
  (.mk (some 15) none (.pure (.bin .leq (.t 13) (.t 14))))]) (.cond (.t 15) (.seq (.ops [
  (.mk (some 16) none (.pure (.mv (.t 3)))), 
  (.mk (some 17) none (.pure (.mv (.t 6)))), 
  (.mk (some 18) none (.bsl 3 1 [(.i .i64 0)] 1 [((0, 1), (.t 17))])), 
  (.mk (some 19) none (.app 3 1 8 [(.i .i64 0)] (.t 16) (.t 18))), 
  (.mk (some 3) none (.pure (.mv (.t 19))))]) (.ops [
  (.mk (some 20) none (.pure (.mv (.t 0)))), 
  (.mk (some 21) none (.pure (.mv (.t 4)))), 
  (.mk (some 22) none (.pure (.bin .sub (.t 20) (.t 21)))), 
  (.mk (some 0) none (.pure (.mv (.t 22))))])) .skip)) (.ops [
  (.mk (some 23) none (.pure (.mv (.t 5)))), 
  (.mk (some 24) none (.pure (.mv (.t 4)))), 
  (.mk (some 25) none (.pure (.mv (.t 5)))), 
  (.mk (some 26) none (.pure (.bin .sub (.t 24) (.t 25)))), 
  (.mk (some 4) none (.pure (.mv (.t 23)))), 
  (.mk (some 5) none (.pure (.mv (.t 26))))]))) (.ops [
  (.mk (some 11) none (.pure (.mv (.t 6)))), 
  (.mk (some 12) none (.pure (.bin .sub (.t 11) (.c (.i .i64 1))))), 
  (.mk (some 6) none (.pure (.mv (.t 12))))])))))) (.seq (.ops [
  (.mk (some 27) none (.pure (.mv (.t 3)))), 
  (.mk (some 2) none (.pure (.mv (.t 27))))]) .ret))))))
def fn63 : AFn := (AFn.mk 24 [(.t 4)] (.seq (.ops [
  (.mk (some 4) none (.pure (.mv (.c (.i .i64 0)))))]) (.seq (.ops [
  (.mk (some 5) none (.pure (.mv (.c (.i .i64 0)))))]) (.seq (.seq (.ops [
  (.mk (some 8) none (.pure (.mv (.t 0)))), 
  (.mk (some 9) none (.call 60 [(.t 8)])), 
  (.mk (some 10) none (.pure (.len false (.t 9)))), 
  (.mk (some 11) none (.pure (.mv (.c (.i .i64 0)))))]) (.block 0 (.loop (.seq (.ops [
  (.mk (some 12) none (.pure (.bin .lss (.t 11) (.t 10))))]) (.seq (.cond (.t 12) .skip (.exit 0)) (.seq (.block 1 (.seq (.ops [
  (.mk (some 13) none (.pure (.ixS 1 (.t 9) (.t 11)))), 
  (.mk (some 14) none (.ld true 1 (.t 13))), 
  (.mk (some 7) none (.pure (.mv (.t 14))))]) (.ops [
  (.mk (some 15) none (.pure (.mv (.t 5)))), 
  (.mk (some 16) none (.pure (.mv (.t 7)))), 
  (.mk (some 17) none (.pure (.mv (.t 1)))), 
  (.mk (some 18) none (.pure (.bin .add (.t 16) (.t 17)))), 
  (.mk (some 19) none (.call 71 [(.t 18)])), 
  (.mk (some 20) none (.pure (.bin .add (.t 15) (.t 19)))), 
  (.mk (some 21) none (.pure (.mx false (.t 20) (.c (.i .i64 1152921504606846977))))), 
  (.mk (some 5) none (.pure (.mv (.t 21))))]))) (.ops [
  (.mk (some 22) none (.pure (.bin .add (.t 11) (.c (.i .i64 1))))), 
  (.mk (some 11) none (.pure (.mv (.t 22))))]))))))) (.seq (.ops [
  (.mk (some 23) none (.pure (.mv (.t 5)))), 
  (.mk (some 4) none (.pure (.mv (.t 23))))]) .ret)))))
def fn66 : AFn := (AFn.mk 9 [(.t 2)] (.seq (.ops [
  (.mk (some 2) none (.pure (.mv (.c (.i .i64 0)))))]) (.seq (.seq (.ops [
  (.mk (some 3) none (.pure (.mv (.t 0)))), 
  (.mk (some 4) none (.pure (.bin .eql (.t 3) (.c (.i .i64 0)))))]) (.cond (.t 4) (.seq (.ops [
  (.mk (some 2) none (.pure (.mv (.c (.i .i64 0)))))]) .ret) .skip)) (.seq (.ops [
  (.mk (some 5) none (.pure (.mv (.t 0)))), 
  (.mk (some 6) none (.pure (.bin .sub (.t 5) (.c (.i .i64 1))))), 
  (.mk (some 7) none (.call 63 [(.t 6), (.c (.i .i64 1))])), 
  (.mk (some 8) none (.pure (.bin .add (.t 7) (.c (.i .i64 1))))), 
  (.mk (some 2) none (.pure (.mv (.t 8))))]) .ret))))
def fn67 : AFn := (AFn.mk 27 [(.t 2)] (.seq (.ops [
  (.mk (some 2) none (.pure (.mv (.c (.i .i64 0)))))]) (.seq (.seq (.ops [
  (.mk (some 6) none (.pure (.mv (.t 0)))), 
  (.mk (some 7) none (.pure (.bin .eql (.t 6) (.c (.i .i64 0)))))]) (.cond (.t 7) (.seq (.ops [
  (.mk (some 2) none (.pure (.mv (.c (.i .i64 0)))))]) .ret) .skip)) (.seq (.ops [
  (.mk (some 8) none (.pure (.mv (.t 0)))), 
  (.mk (some 9) none (.pure (.mv (.t 0)))), 
  (.mk (some 10) none (.pure (.bin .mul (.c (.i .i64 2)) (.t 9)))), 
  (.mk (some 3) none (.pure (.mv (.t 8)))), 
  (.mk (some 4) none (.pure (.mv (.t 10))))]) (.seq (.block 0 (.loop (.seq (.seq (.ops [
  (.mk (some 11) none (.pure (.mv (.t 3)))), 
  (.mk (some 12) none (.pure (.bin .add (.t 11) (.c (.i .i64 1))))), 
  (.mk (some 13) none (.pure (.mv (.t 4)))), 
  (.mk (some 14) none (.pure (.bin .lss (.t 12) (.t 13))))]) (.cond (.t 14) .skip (.exit 0))) (.block 1 (.seq (.ops [
  (.mk (some 15) none (.pure (.mv (.t 3)))), 
  (.mk (some 16) none (.pure (.mv (.t 4)))), 
  (.mk (some 17) none (.pure (.mv (.t 3)))), 
  (.mk (some 18) none (.pure (.bin .sub (.t 16) (.t 17)))), 
  (.mk (some 19) none (.pure (.bin .quo (.t 18) (.c (.i .i64 2))))), 
  (.mk (some 20) none (.pure (.bin .add (.t 15) (.t 19)))), 
  (.mk (some 5) none (.pure (.mv (.t 20))))]) (.seq (.ops [
  (.mk (some 21) none (.pure (.mv (.t 5)))), 
  (.mk (some 22) none (.pure (.mv (.t 0)))), 
  (.mk (some 23) none (.call 77 [(.t 21), (.t 22)]))]) (.cond (.t 23) (.ops [
  (.mk (some 24) none (.pure (.mv (.t 5)))), 
  (.mk (some 3) none (.pure (.mv (.t 24))))]) (.ops [
  (.mk (some 25) none (.pure (.mv (.t 5)))), 
  (.mk (some 4) none (.pure (.mv (.t 25))))])))))))) (.seq (.ops [
  (.mk (some 26) none (.pure (.mv (.t 3)))), 
  (.mk (some 2) none (.pure (.mv (.t 26))))]) .ret))))))
def fn68 : AFn := (AFn.mk 16 [(.t 2)] (.seq (.ops [
  (.mk (some 2) none (.pure (.mv (.c (.i .i64 0)))))]) (.seq (.seq (.ops [
  (.mk (some 4) none (.pure (.mv (.t 0)))), 
  (.mk (some 5) none (.pure (.bin .eql (.t 4) (.c (.i .i64 0)))))]) (.cond (.t 5) (.seq (.ops [
  (.mk (some 2) none (.pure (.mv (.c (.i .i64 0)))))]) .ret) .skip)) (.seq (.seq (.ops [
  (.mk (some 6) none (.pure (.mv (.t 0)))), 
  (.mk (some 7) none (.call 72 [(.t 6)])), 
  (.mk (some 8) none (.pure (.bin .sub (.t 7) (.c (.i .i64 2))))), 
  (.mk (some 3) none (.pure (.mv (.t 8))))]) (.seq (.ops [
  (.mk (some 9) none (.pure (.mv (.t 3)))), 
  (.mk (some 10) none (.pure (.bin .rem (.t 9) (.c (.i .i64 2))))), 
  (.mk (some 11) none (.pure (.bin .eql (.t 10) (.c (.i .i64 0)))))]) (.cond (.t 11) (.seq (.ops [
  (.mk (some 12) none (.pure (.mv (.t 0)))), 
  (.mk (some 13) none (.call 63 [(.t 12), (.c (.i .i64 1))])), 
  (.mk (some 2) none (.pure (.mv (.t 13))))]) .ret) .skip))) (.seq (.ops [
  (.mk (some 14) none (.pure (.mv (.t 0)))), 
  (.mk (some 15) none (.call 63 [(.t 14), (.c (.i .i64 (-1)))])), 
  (.mk (some 2) none (.pure (.mv (.t 15))))]) .ret)))))
def fn69 : AFn := (AFn.mk 17 [(.t 4)] (.seq (.ops [
  (.mk (some 4) none (.pure (.mv (.c (.b false)))))]) (.seq (.ops [
  (.mk (some 5) none (.pure (.mv (.t 0)))), 
  (.mk (some 6) none (.pure (.mv (.t 1)))), 
  (.mk (some 7) none (.pure (.mx false (.t 5) (.t 6)))), 
  (.mk (some 8) none (.pure (.mv (.t 0)))), 
  (.mk (some 9) none (.pure (.mv (.t 1)))), 
  (.mk (some 10) none (.pure (.mx true (.t 8) (.t 9)))), 
  (.mk (some 11) none (.pure (.mv (.t 0)))), 
  (.mk (some 12) none (.pure (.mv (.t 1)))), 
  (.mk (some 13) none (.pure (.mx false (.t 11) (.t 12)))), 
  (.mk (some 14) none (.pure (.bin .sub (.t 10) (.t 13)))), 
  (.mk (some 15) none (.call 67 [(.t 14)])), 
  (.mk (some 16) none (.pure (.bin .eql (.t 7) (.t 15)))), 
  (.mk (some 4) none (.pure (.mv (.t 16))))]) .ret)))
def fn70 : AFn := (AFn.mk 57 [(.t 2)] (.seq (.ops [
  (.mk (some 2) none (.pure (.mv (.c (.i .i64 0)))))]) (.seq (.seq (.ops [
  (.mk (some 3) none (.pure (.mv (.c (.i .i64 0)))))]) (.block 0 (.loop (.seq (.seq (.ops [
  (.mk (some 8) none (.pure (.mv (.t 3)))), 
  (.mk (some 9) none (.pure (.bin .lss (.t 8) (.c (.i .i64 2)))))]) (.cond (.t 9) .skip (.exit 0))) (.seq (.block 1 (.seq (.ops [
  (.mk (some 12) none (.pure (.mv (.t 0)))), 
  (.mk (some 13) none (.pure (.bin .add (.t 12) (.c (.i .i64 1))))), 
  (.mk (some 4) none (.pure (.mv (.c (.i .i64 0))))), 
  (.mk (some 5) none (.pure (.mv (.t 13))))]) (.seq (.block 2 (.loop (.seq (.seq (.ops [
  (.mk (some 14) none (.pure (.mv (.t 4)))), 
  (.mk (some 15) none (.pure (.bin .add (.t 14) (.c (.i .i64 1))))), 
  (.mk (some 16) none (.pure (.mv (.t 5)))), 
  (.mk (some 17) none (.pure (.bin .lss (.t 15) (.t 16))))]) (.cond (.t 17) .skip (.exit 2))) (.block 3 (.seq (.ops [
  (.mk (some 18) none (.pure (.mv (.t 4)))), 
  (.mk (some 19) none (.pure (.mv (.t 5)))), 
  (.mk (some 20) none (.pure (.mv (.t 4)))), 
  (.mk (some 21) none (.pure (.bin .sub (.t 19) (.t 20)))), 
  (.mk (some 22) none (.pure (.bin .quo (.t 21) (.c (.i .i64 2))))), 
  (.mk (some 23) none (.pure (.bin .add (.t 18) (.t 22)))), 
  (.mk (some 6) none (.pure (.mv (.t 23))))]) (.seq (.ops [
  (.mk (some 24) none (.pure (.mv (.t 6)))), 
  (.mk (some 25) none (.call 67 [(.t 24)])), 
  (.mk (some 26) none (.pure (.mv (.t 3)))), 
  (.mk (some 27) none (.pure (.mv (.t 6)))), 
  (.mk (some 28) none (.pure (.bin .mul (.t 26) (.t 27)))), 
  (.mk (some 29) none (.pure (.bin .add (.t 25) (.t 28)))), 
  (.mk (some 30) none (.pure (.mv (.t 0)))), 
  (.mk (some 31) none (.pure (.bin .leq (.t 29) (.t 30))))]) (.cond (.t 31) (.ops [
  (.mk (some 32) none (.pure (.mv (.t 6)))), 
  (.mk (some 4) none (.pure (.mv (.t 32))))]) (.ops [
  (.mk (some 33) none (.pure (.mv (.t 6)))), 
  (.mk (some 5) none (.pure (.mv (.t 33))))])))))))) (.seq (.ops [
  (.mk (some 34) none (.pure (.mv (.t 4)))), 
  (.mk (some 35) none (.call 67 [(.t 34)])), 
  (.mk (some 7) none (.pure (.mv (.t 35))))]) (.seq (.seq (.ops [
  (.mk (some 36) none (.pure (.mv (.t 3)))), 
  (.mk (some 37) none (.pure (.bin .eql (.t 36) (.c (.i .i64 0))))), 
  (.mk (some 38) none (.pure (.mv (.t 37)))), 
  (.mk (some 39) (some (38, true)) (.pure (.mv (.t 7)))), 
  (.mk (some 40) (some (38, true)) (.pure (.mv (.t 0)))), 
  (.mk (some 41) (some (38, true)) (.pure (.bin .eql (.t 39) (.t 40)))), 
  (.mk (some 42) none (.pure (.pick (.t 38) (.t 41) (.c (.b false)))))]) (.cond (.t 42) (.seq (.ops [
  (.mk (some 43) none (.pure (.mv (.t 7)))), 
  (.mk (some 44) none (.pure (.mv (.t 4)))), 
  (.mk (some 45) none (.pure (.bin .add (.t 43) (.t 44)))), 
  (.mk (some 2) none (.pure (.mv (.t 45))))]) .ret) .skip)) (.seq (.ops [
  (.mk (some 46) none (.pure (.mv (.t 3)))), 
  (.mk (some 47) none (.pure (.bin .eql (.t 46) (.c (.i .i64 1))))), 
  (.mk (some 48) none (.pure (.mv (.t 47)))), 
  (.mk (some 49) (some (48, true)) (.pure (.mv (.t 7)))), 
  (.mk (some 50) (some (48, true)) (.pure (.mv (.t 4)))), 
  (.mk (some 51) (some (48, true)) (.pure (.bin .add (.t 49) (.t 50)))), 
  (.mk (some 52) (some (48, true)) (.pure (.mv (.t 0)))), 
  (.mk (some 53) (some (48, true)) (.pure (.bin .eql (.t 51) (.t 52)))), 
  (.mk (some 54) none (.pure (.pick (.t 48) (.t 53) (.c (.b false)))))]) (.cond (.t 54) (.seq (.ops [
  (.mk (some 55) none (.pure (.mv (.t 7)))), 
  (.mk (some 2) none (.pure (.mv (.t 55))))]) .ret) .skip))))))) (.ops [
  (.mk (some 10) none (.pure (.mv (.t 3)))), 
  (.mk (some 11) none (.pure (.bin .add (.t 10) (.c (.i .i64 1))))), 
  (.mk (some 3) none (.pure (.mv (.t 11))))])))))) (.seq (.ops [
  (.mk (some 56) none (.pure (.mv (.t 0)))), 
  (.mk (some 2) none (.pure (.mv (.t 56))))]) .ret))))
def fn71 : AFn := (AFn.mk 25 [(.t 2)] (.seq (.ops [
  (.mk (some 2) none (.pure (.mv (.c (.i .i64 0)))))]) (.seq (.ops [
  (.mk (some 3) none (.pure (.mv (.c (.i .i64 0))))), 
  (.mk (some 4) none (.pure (.mv (.c (.i .i64 1)))))]) (.seq (.seq (.ops [
  (.mk (some 5) none (.pure (.mv (.t 0)))), 
  (.mk (some 6) none (.pure (.mx false (.t 5) (.c (.i .i64 89))))), 
  (.mk (some 7) none (.pure (.mv (.c (.i .i64 0)))))]) (.block 0 (.loop (.seq (.ops [
  (.mk (some 8) none (.pure (.bin .lss (.t 7) (.t 6))))]) (.seq (.cond (.t 8) .skip (.exit 0)) (.seq (.block 1 (.ops [
  (.mk (some 9) none (.pure (.mv (.t 4)))), 
  (.mk (some 10) none (.pure (.mv (.t 3)))), 
  (.mk (some 11) none (.pure (.mv (.t 4)))), 
  (.mk (some 12) none (.pure (.bin .add (.t 10) (.t 11)))), 
  (.mk (some 13) none (.pure (.mx false (.t 12) (.c (.i .i64 1152921504606846977))))), 
  (.mk (some 3) none (.pure (.mv (.t 9)))), 
  (.mk (some 4) none (.pure (.mv (.t 13))))])) (.ops [
  (.mk (some 14) none (.pure (.bin .add (.t 7) (.c (.i .i64 1))))), 
  (.mk (some 7) none (.pure (.mv (.t 14))))]))))))) (.seq (.seq (.ops [
  (.mk (some 15) none (.pure (.mv (.t 0)))), 
  (.mk (some 16) none (.pure (.neg (.t 15)))), 
  (.mk (some 17) none (.pure (.mv (.c (.i .i64 0)))))]) (.block 2 (.loop (.seq (.ops [
  (.mk (some 18) none (.pure (.bin .lss (.t 17) (.t 16))))]) (.seq (.cond (.t 18) .skip (.exit 2)) (.seq (.block 3 (.ops [
  (.mk (some 19) none (.pure (.mv (.t 4)))), 
  (.mk (some 20) none (.pure (.mv (.t 3)))), 
  (.mk (some 21) none (.pure (.bin .sub (.t 19) (.t 20)))), 
  (.mk (some 22) none (.pure (.mv (.t 3)))), 
  (.mk (some 3) none (.pure (.mv (.t 21)))), 
  (.mk (some 4) none (.pure (.mv (.t 22))))])) (.ops [
  (.mk (some 23) none (.pure (.bin .add (.t 17) (.c (.i .i64 1))))), 
  (.mk (some 17) none (.pure (.mv (.t 23))))]))))))) (.seq (.ops [
  (.mk (some 24) none (.pure (.mv (.t 3)))), 
  (.mk (some 2) none (.pure (.mv (.t 24))))]) .ret))))))
def fn72 : AFn := (AFn.mk 12 [(.t 2)] (.seq (.ops [
  (.mk (some 2) none (.pure (.mv (.c (.i .i64 0)))))]) (.seq (.ops [
  (.mk (some 4) none (.pure (.mv (.t 0)))), 
  (.mk (some 5) none (.call 60 [(.t 4)])), 
  (.mk (some 3) none (.pure (.mv (.t 5))))]) (.seq (.ops [
  (.mk (some 6) none (.pure (.mv (.t 3)))), 
  (.mk (some 7) none (.pure (.mv (.t 3)))), 
  (.mk (some 8) none (.pure (.len false (.t 7)))), 
  (.mk (some 9) none (.pure (.bin .sub (.t 8) (.c (.i .i64 1))))), 
  (.mk (some 10) none (.pure (.ixS 1 (.t 6) (.t 9)))), 
  (.mk (some 11) none (.ld true 1 (.t 10))), 
  (.mk (some 2) none (.pure (.mv (.t 11))))]) .ret))))
def fn73 : AFn := (AFn.mk 77 [(.t 4)] (.seq (.ops [
  (.mk (some 4) none (.pure (.mv (.c .nsl))))]) (.seq (.seq (.ops [
  (.mk (some 12) none (.pure (.mv (.t 1)))), 
  (.mk (some 13) none (.pure (.bin .eql (.t 12) (.c (.i .i64 0)))))]) (.cond (.t 13) (.seq (.ops [
  (.mk (some 14) none (.bsl 5 1 [(.i .u8 0)] 0 [])), 
  (.mk (some 4) none (.pure (.mv (.t 14))))]) .ret) .skip)) (.seq (.seq (.ops [
  (.mk (some 15) none (.pure (.mv (.t 1)))), 
  (.mk (some 16) none (.pure (.bin .lss (.t 15) (.c (.i .i64 0)))))]) (.cond (.t 16) (.ops [
  (.mk none none (.ld true 1 (.c (.b true))))]) .skip)) (.seq (.ops [
  (.mk (some 19) none (.pure (.mv (.t 0)))), 
  (.mk (some 20) none (.pure (.len false (.t 19)))), 
  (.mk (some 21) none (.pure (.conv .u64 (.t 20)))), 
  (.mk (some 22) none (.pure (.mv (.t 1)))), 
  (.mk (some 23) none (.pure (.conv .u64 (.t 22)))), 
  (.mk (some 24) none (.call 78 [(.t 21), (.t 23)])), 
  (.mk (some 18) none (.pure (.mv (.t 24)))), 
  (.mk (some 25) none (.pure (.ext 0 (.t 18)))), 
  (.mk (some 26) none (.pure (.ext 1 (.t 18)))), 
  (.mk (some 5) none (.pure (.mv (.t 25)))), 
  (.mk (some 6) none (.pure (.mv (.t 26))))]) (.seq (.seq (.ops [
  (.mk (some 27) none (.pure (.mv (.t 5)))), 
  (.mk (some 28) none (.pure (.bin .gtr (.t 27) (.c (.i .u64 0))))), 
  (.mk (some 29) none (.pure (.mv (.t 28)))), 
  (.mk (some 30) (some (29, false)) (.pure (.mv (.t 6)))), 
  (.mk (some 31) (some (29, false)) (.pure (.bin .gtr (.t 30) (.c (.i .u64 9223372036854775807))))), 
  (.mk (some 32) none (.pure (.pick (.t 29) (.c (.b true)) (.t 31))))]) (.cond (.t 32) (.ops [
  (.mk none none (.ld true 1 (.c (.b true))))]) .skip)) (.seq (.ops [
  (.mk (some 34) none (.pure (.mv (.t 6)))), 
  (.mk (some 35) none (.pure (.conv .i64 (.t 34)))), 
  (.mk (some 7) none (.pure (.mv (.t 35))))]) (.seq (.seq (.ops [
  (.mk (some 36) none (.pure (.mv (.t 0)))), 
  (.mk (some 37) none (.pure (.len false (.t 36)))), 
  (.mk (some 38) none (.pure (.bin .eql (.t 37) (.c (.i .i64 0)))))]) (.cond (.t 38) (.seq (.ops [
  (.mk (some 39) none (.bsl 5 1 [(.i .u8 0)] 0 [])), 
  (.mk (some 4) none (.pure (.mv (.t 39))))]) .ret) .skip)) (.seq (.ops [
  (.mk (some 40) none (.pure (.mv (.t 7)))), 
  (.mk (some 8) none (.pure (.mv (.t 40))))]) (.seq (.seq (.ops [
  (.mk (some 41) none (.pure (.mv (.t 8)))), 
  (.mk (some 42) none (.pure (.bin .gtr (.t 41) (.c (.i .i64 8192)))))]) (.cond (.t 42) (.seq (.ops [
  (.mk (some 43) none (.pure (.mv (.t 0)))), 
  (.mk (some 44) none (.pure (.len false (.t 43)))), 
  (.mk (some 45) none (.pure (.bin .quo (.c (.i .i64 8192)) (.t 44)))), 
  (.mk (some 46) none (.pure (.mv (.t 0)))), 
  (.mk (some 47) none (.pure (.len false (.t 46)))), 
  (.mk (some 48) none (.pure (.bin .mul (.t 45) (.t 47)))), 
  (.mk (some 8) none (.pure (.mv (.t 48))))]) (.seq (.ops [
  (.mk (some 49) none (.pure (.mv (.t 8)))), 
  (.mk (some 50) none (.pure (.bin .eql (.t 49) (.c (.i .i64 0)))))]) (.cond (.t 50) (.ops [
  (.mk (some 51) none (.pure (.mv (.t 0)))), 
  (.mk (some 52) none (.pure (.len false (.t 51)))), 
  (.mk (some 8) none (.pure (.mv (.t 52))))]) .skip))) .skip)) (.seq (.ops [
  (.mk (some 53) none (.pure (.mv (.t 7)))), 
  (.mk (some 54) none (.mnz 5 (.t 53))), 
  (.mk (some 55) none (.pure (.mv (.t 7)))), 
  (.mk (some 56) none (.pure (.mv (.t 7)))), 
  (.mk (some 57) none (.pure (.slS 1 (.t 54) none (some (.t 55)) (some (.t 56))))), 
  (.mk (some 9) none (.pure (.mv (.t 57))))]) (.seq (.ops [
  (.mk (some 58) none (.pure (.mv (.t 9)))), 
  (.mk (some 59) none (.pure (.mv (.t 0)))), 
  (.mk (some 60) none (.cpy 1 (.t 58) (.t 59))), 
  (.mk (some 10) none (.pure (.mv (.t 60))))]) (.seq (.block 0 (.loop (.seq (.seq (.ops [
  (.mk (some 61) none (.pure (.mv (.t 10)))), 
  (.mk (some 62) none (.pure (.mv (.t 7)))), 
  (.mk (some 63) none (.pure (.bin .lss (.t 61) (.t 62))))]) (.cond (.t 63) .skip (.exit 0))) (.block 1 (.seq (.ops [
  (.mk (some 64) none (.pure (.mv (.t 10)))), 
  (.mk (some 65) none (.pure (.mv (.t 8)))), 
  (.mk (some 66) none (.pure (.mx false (.t 64) (.t 65)))), 
  (.mk (some 11) none (.pure (.mv (.t 66))))]) (.ops [
  (.mk (some 67) none (.pure (.mv (.t 10)))), 
  (.mk (some 68) none (.pure (.mv (.t 9)))), 
  (.mk (some 69) none (.pure (.mv (.t 10)))), 
  (.mk (some 70) none (.pure (.slS 1 (.t 68) (some (.t 69)) none none))), 
  (.mk (some 71) none (.pure (.mv (.t 9)))), 
  (.mk (some 72) none (.pure (.mv (.t 11)))), 
  (.mk (some 73) none (.pure (.slS 1 (.t 71) none (some (.t 72)) none))), 
  (.mk (some 74) none (.cpy 1 (.t 70) (.t 73))), 
  (.mk (some 75) none (.pure (.bin .add (.t 67) (.t 74)))), 
  (.mk (some 10) none (.pure (.mv (.t 75))))])))))) (.seq (.ops [
  (.mk (some 76) none (.pure (.mv (.t 9)))), 
  (.mk (some 4) none (.pure (.mv (.t 76))))]) .ret))))))))))))))
def fn75 : AFn := (AFn.mk 19 [] (.seq (.ops [
  (.mk (some 4) none (.ld true 1 (.t 1))), 
  (.mk (some 5) none (.pure (.len false (.t 4)))), 
  (.mk (some 6) none (.pure (.bin .sub (.t 5) (.c (.i .i64 1))))), 
  (.mk (some 3) none (.pure (.mv (.t 6))))]) (.block 0 (.loop (.seq (.seq (.ops [
  (.mk (some 7) none (.pure (.mv (.t 3)))), 
  (.mk (some 8) none (.pure (.bin .geq (.t 7) (.c (.i .i64 0)))))]) (.cond (.t 8) .skip (.exit 0))) (.seq (.block 1 (.seq (.opsY [
  (.mk (some 11) none (.pure (.mv (.t 0)))), 
  (.mk (some 12) none (.pure (.mv (.t 3)))), 
  (.mk (some 13) none (.ld true 1 (.t 1))), 
  (.mk (some 14) none (.pure (.mv (.t 3)))), 
  (.mk (some 15) none (.pure (.ixS 1 (.t 13) (.t 14)))), 
  (.mk (some 16) none (.ld true 1 (.t 15))), 
  (.mk (some 17) none (.callv (.t 11) [(.t 12), (.t 16)])), 
  (.mk (some 18) none (.pure (.not (.t 17))))]) (.cond (.t 18) .ret .skip))) (.ops [
  (.mk (some 9) none (.pure (.mv (.t 3)))), 
  (.mk (some 10) none (.pure (.bin .sub (.t 9) (.c (.i .i64 1))))), 
  (.mk (some 3) none (.pure (.mv (.t 10))))])))))))
def fn77 : AFn := (AFn.mk 23 [(.t 4)] (.seq (.ops [
  (.mk (some 4) none (.pure (.mv (.c (.b false)))))]) (.seq (.ops [
  (.mk (some 7) none (.pure (.mv (.t 0)))), 
  (.mk (some 8) none (.call 81 [(.t 7)])), 
  (.mk (some 9) none (.pure (.mv (.t 1)))), 
  (.mk (some 10) none (.call 81 [(.t 9)])), 
  (.mk (some 5) none (.al 75 [(.b false), .nsl])), 
  (.mk (some 6) none (.al 75 [(.b false), .nsl])), 
  (.mk none none (.st 2 (.t 5) (.t 8))), 
  (.mk none none (.st 2 (.t 6) (.t 10)))]) (.seq (.flt [(
  (.mk (some 11) none (.ld false 2 (.t 5))), false), (
  (.mk (some 12) none (.ld false 2 (.t 5))), false), (
  (.mk (some 13) none (.call 83 [(.t 11), (.t 12)])), false), (
  (.mk (some 14) none (.ld false 2 (.t 5))), true), (
  (.mk (some 15) none (.ld false 2 (.t 6))), true), (
  (.mk (some 16) none (.call 83 [(.t 14), (.t 15)])), false), (
  (.mk (some 17) none (.ld false 2 (.t 6))), true), (
  (.mk (some 18) none (.ld false 2 (.t 6))), true), (
  (.mk (some 19) none (.call 83 [(.t 17), (.t 18)])), true), (
  (.mk (some 20) none (.call 84 [(.t 16), (.t 19)])), true), (
  (.mk (some 21) none (.call 82 [(.t 13), (.t 20)])), true), (
  (.mk (some 22) none (.pure (.bin .lss (.t 21) (.c (.i .i64 0))))), false), (
  (.mk (some 4) none (.pure (.mv (.t 22)))), false)]) .ret))))
def fn78 : AFn := (AFn.mk 30 [(.t 4), (.t 5)] (.seq (.ops [
  (.mk (some 4) none (.pure (.mv (.c (.i .u64 0))))), 
  (.mk (some 5) none (.pure (.mv (.c (.i .u64 0)))))]) (.seq (.cond (.c (.b false)) (.seq (.ops [
  (.mk (some 11) none (.pure (.mv (.t 0)))), 
  (.mk (some 12) none (.pure (.conv .u32 (.t 11)))), 
  (.mk (some 13) none (.pure (.mv (.t 1)))), 
  (.mk (some 14) none (.pure (.conv .u32 (.t 13)))), 
  (.mk (some 15) none (.call 85 [(.t 12), (.t 14)])), 
  (.mk (some 10) none (.pure (.mv (.t 15)))), 
  (.mk (some 16) none (.pure (.ext 0 (.t 10)))), 
  (.mk (some 17) none (.pure (.ext 1 (.t 10)))), 
  (.mk (some 6) none (.pure (.mv (.t 16)))), 
  (.mk (some 7) none (.pure (.mv (.t 17))))]) (.seq (.ops [
  (.mk (some 18) none (.pure (.mv (.t 6)))), 
  (.mk (some 19) none (.pure (.conv .u64 (.t 18)))), 
  (.mk (some 20) none (.pure (.mv (.t 7)))), 
  (.mk (some 21) none (.pure (.conv .u64 (.t 20)))), 
  (.mk (some 4) none (.pure (.mv (.t 19)))), 
  (.mk (some 5) none (.pure (.mv (.t 21))))]) .ret)) .skip) (.seq (.ops [
  (.mk (some 23) none (.pure (.mv (.t 0)))), 
  (.mk (some 24) none (.pure (.mv (.t 1)))), 
  (.mk (some 25) none (.call 86 [(.t 23), (.t 24)])), 
  (.mk (some 22) none (.pure (.mv (.t 25)))), 
  (.mk (some 26) none (.pure (.ext 0 (.t 22)))), 
  (.mk (some 27) none (.pure (.ext 1 (.t 22)))), 
  (.mk (some 8) none (.pure (.mv (.t 26)))), 
  (.mk (some 9) none (.pure (.mv (.t 27))))]) (.seq (.ops [
  (.mk (some 28) none (.pure (.mv (.t 8)))), 
  (.mk (some 29) none (.pure (.mv (.t 9)))), 
  (.mk (some 4) none (.pure (.mv (.t 28)))), 
  (.mk (some 5) none (.pure (.mv (.t 29))))]) .ret)))))
def fn81 : AFn := (AFn.mk 25 [(.c 2 false 2)] (.seq (.ops [
  (.mk (some 2) none (.al 75 [(.b false), .nsl]))]) (.seq (.ops [
  (.mk (some 3) none (.pure (.mv (.c .nsl))))]) (.seq (.ops [
  (.mk (some 6) none (.pure (.mv (.t 0)))), 
  (.mk (some 7) none (.pure (.bin .lss (.t 6) (.c (.i .i64 0))))), 
  (.mk (some 4) none (.pure (.mv (.t 7))))]) (.seq (.block 0 (.loop (.seq (.seq (.ops [
  (.mk (some 8) none (.pure (.mv (.t 0)))), 
  (.mk (some 9) none (.pure (.bin .neq (.t 8) (.c (.i .i64 0)))))]) (.cond (.t 9) .skip (.exit 0))) (.block 1 (.seq (.ops [
  (.mk (some 10) none (.pure (.mv (.t 0)))), 
  (.mk (some 11) none (.pure (.bin .rem (.t 10) (.c (.i .i64 10000))))), 
  (.mk (some 5) none (.pure (.mv (.t 11))))]) (.seq (.seq (.ops [
  (.mk (some 12) none (.pure (.mv (.t 5)))), 
  (.mk (some 13) none (.pure (.bin .lss (.t 12) (.c (.i .i64 0)))))]) (.cond (.t 13) (.ops [
  (.mk (some 14) none (.pure (.mv (.t 5)))), 
  (.mk (some 15) none (.pure (.neg (.t 14)))), 
  (.mk (some 5) none (.pure (.mv (.t 15))))]) .skip)) (.seq (.ops [
  (.mk (some 16) none (.pure (.mv (.t 3)))), 
  (.mk (some 17) none (.pure (.mv (.t 5)))), 
  (.mk (some 18) none (.bsl 3 1 [(.i .i64 0)] 1 [((0, 1), (.t 17))])), 
  (.mk (some 19) none (.app 3 1 8 [(.i .i64 0)] (.t 16) (.t 18))), 
  (.mk (some 3) none (.pure (.mv (.t 19))))]) (.ops [
  (.mk (some 20) none (.pure (.mv (.t 0)))), 
  (.mk (some 21) none (.pure (.bin .quo (.t 20) (.c (.i .i64 10000))))), 
  (.mk (some 0) none (.pure (.mv (.t 21))))])))))))) (.seq (.ops [
  (.mk (some 22) none (.pure (.mv (.t 4)))), 
  (.mk (some 23) none (.pure (.mv (.t 3)))), 
  (.mk (some 24) none (.call 87 [(.t 22), (.t 23)])), 
  (.mk none none (.st 2 (.t 2) (.t 24)))]) .ret))))))
def fn82 : AFn := (AFn.mk 23 [(.t 4)] (.seq (.ops [
  (.mk (some 2) none (.bx 75 2 (.t 0))), 
  (.mk (some 3) none (.bx 75 2 (.t 1))), 
  (.mk (some 4) none (.pure (.mv (.c (.i .i64 0)))))]) (.seq (.seq (.ops [
  (.mk (some 6) none (.pure (.faddr 0 (.t 2)))), 
  (.mk (some 7) none (.ld true 1 (.t 6))), 
  (.mk (some 8) none (.pure (.faddr 0 (.t 3)))), 
  (.mk (some 9) none (.ld true 1 (.t 8))), 
  (.mk (some 10) none (.pure (.beq true (.t 7) (.t 9))))]) (.cond (.t 10) (.seq (.seq (.ops [
  (.mk (some 11) none (.pure (.faddr 0 (.t 2)))), 
  (.mk (some 12) none (.ld true 1 (.t 11)))]) (.cond (.t 12) (.seq (.ops [
  (.mk (some 4) none (.pure (.mv (.c (.i .i64 (-1))))))]) .ret) .skip)) (.seq (.ops [
  (.mk (some 4) none (.pure (.mv (.c (.i .i64 1)))))]) .ret)) .skip)) (.seq (.ops [
  (.mk (some 13) none (.pure (.faddr 1 (.t 2)))), 
  (.mk (some 14) none (.ld true 1 (.t 13))), 
  (.mk (some 15) none (.pure (.faddr 1 (.t 3)))), 
  (.mk (some 16) none (.ld true 1 (.t 15))), 
  (.mk (some 17) none (.call 88 [(.t 14), (.t 16)])), 
  (.mk (some 5) none (.pure (.mv (.t 17))))]) (.seq (.seq (.ops [
  (.mk (some 18) none (.pure (.faddr 0 (.t 2)))), 
  (.mk (some 19) none (.ld true 1 (.t 18)))]) (.cond (.t 19) (.seq (.ops [
  (.mk (some 20) none (.pure (.mv (.t 5)))), 
  (.mk (some 21) none (.pure (.neg (.t 20)))), 
  (.mk (some 4) none (.pure (.mv (.t 21))))]) .ret) .skip)) (.seq (.ops [
  (.mk (some 22) none (.pure (.mv (.t 5)))), 
  (.mk (some 4) none (.pure (.mv (.t 22))))]) .ret))))))
def fn83 : AFn := (AFn.mk 16 [(.c 4 false 2)] (.seq (.ops [
  (.mk (some 2) none (.bx 75 2 (.t 0))), 
  (.mk (some 3) none (.bx 75 2 (.t 1))), 
  (.mk (some 4) none (.al 75 [(.b false), .nsl]))]) (.seq (.flt [(
  (.mk (some 5) none (.pure (.faddr 0 (.t 2)))), false), (
  (.mk (some 6) none (.ld true 1 (.t 5))), true), (
  (.mk (some 7) none (.pure (.faddr 0 (.t 3)))), false), (
  (.mk (some 8) none (.ld true 1 (.t 7))), true), (
  (.mk (some 9) none (.pure (.beq true (.t 6) (.t 8)))), false), (
  (.mk (some 10) none (.pure (.faddr 1 (.t 2)))), false), (
  (.mk (some 11) none (.ld true 1 (.t 10))), false), (
  (.mk (some 12) none (.pure (.faddr 1 (.t 3)))), false), (
  (.mk (some 13) none (.ld true 1 (.t 12))), false), (
  (.mk (some 14) none (.call 89 [(.t 11), (.t 13)])), false), (
  (.mk (some 15) none (.call 87 [(.t 9), (.t 14)])), true), (
  (.mk none none (.st 2 (.t 4) (.t 15))), true)]) .ret)))
def fn84 : AFn := (AFn.mk 40 [(.c 4 false 2)] (.seq (.ops [
  (.mk (some 2) none (.bx 75 2 (.t 0))), 
  (.mk (some 3) none (.bx 75 2 (.t 1))), 
  (.mk (some 4) none (.al 75 [(.b false), .nsl]))]) (.seq (.seq (.ops [
  (.mk (some 5) none (.pure (.faddr 0 (.t 2)))), 
  (.mk (some 6) none (.ld true 1 (.t 5))), 
  (.mk (some 7) none (.pure (.faddr 0 (.t 3)))), 
  (.mk (some 8) none (.ld true 1 (.t 7))), 
  (.mk (some 9) none (.pure (.beq false (.t 6) (.t 8))))]) (.cond (.t 9) (.seq (.flt [(
  (.mk (some 10) none (.pure (.faddr 0 (.t 2)))), false), (
  (.mk (some 11) none (.ld true 1 (.t 10))), true), (
  (.mk (some 12) none (.pure (.faddr 1 (.t 2)))), false), (
  (.mk (some 13) none (.ld true 1 (.t 12))), false), (
  (.mk (some 14) none (.pure (.faddr 1 (.t 3)))), false), (
  (.mk (some 15) none (.ld true 1 (.t 14))), false), (
  (.mk (some 16) none (.call 90 [(.t 13), (.t 15)])), false), (
  (.mk (some 17) none (.call 87 [(.t 11), (.t 16)])), true), (
  (.mk none none (.st 2 (.t 4) (.t 17))), true)]) .ret) .skip)) (.seq (.seq (.ops [
  (.mk (some 18) none (.pure (.faddr 1 (.t 2)))), 
  (.mk (some 19) none (.ld true 1 (.t 18))), 
  (.mk (some 20) none (.pure (.faddr 1 (.t 3)))), 
  (.mk (some 21) none (.ld true 1 (.t 20))), 
  (.mk (some 22) none (.call 88 [(.t 19), (.t 21)])), 
  (.mk (some 23) none (.pure (.bin .geq (.t 22) (.c (.i .i64 0)))))]) (.cond (.t 23) (.seq (.flt [(
  (.mk (some 24) none (.pure (.faddr 0 (.t 2)))), false), (
  (.mk (some 25) none (.ld true 1 (.t 24))), true), (
  (.mk (some 26) none (.pure (.faddr 1 (.t 2)))), false), (
  (.mk (some 27) none (.ld true 1 (.t 26))), false), (
  (.mk (some 28) none (.pure (.faddr 1 (.t 3)))), false), (
  (.mk (some 29) none (.ld true 1 (.t 28))), false), (
  (.mk (some 30) none (.call 91 [(.t 27), (.t 29)])), false), (
  (.mk (some 31) none (.call 87 [(.t 25), (.t 30)])), true), (
  (.mk none none (.st 2 (.t 4) (.t 31))), true)]) .ret) .skip)) (.seq (.flt [(
  (.mk (some 32) none (.pure (.faddr 0 (.t 3)))), false), (
  (.mk (some 33) none (.ld true 1 (.t 32))), true), (
  (.mk (some 34) none (.pure (.faddr 1 (.t 3)))), false), (
  (.mk (some 35) none (.ld true 1 (.t 34))), false), (
  (.mk (some 36) none (.pure (.faddr 1 (.t 2)))), false), (
  (.mk (some 37) none (.ld true 1 (.t 36))), false), (
  (.mk (some 38) none (.call 91 [(.t 35), (.t 37)])), false), (
  (.mk (some 39) none (.call 87 [(.t 33), (.t 38)])), true), (
  (.mk none none (.st 2 (.t 4) (.t 39))), true)]) .ret)))))
def fn85 : AFn := (AFn.mk 17 [(.t 4), (.t 5)] (.seq (.ops [
  (.mk (some 4) none (.pure (.mv (.c (.i .u32 0))))), 
  (.mk (some 5) none (.pure (.mv (.c (.i .u32 0)))))]) (.seq (.ops [
  (.mk (some 7) none (.pure (.mv (.t 0)))), 
  (.mk (some 8) none (.pure (.conv .u64 (.t 7)))), 
  (.mk (some 9) none (.pure (.mv (.t 1)))), 
  (.mk (some 10) none (.pure (.conv .u64 (.t 9)))), 
  (.mk (some 11) none (.pure (.bin .mul (.t 8) (.t 10)))), 
  (.mk (some 6) none (.pure (.mv (.t 11))))]) (.seq (.ops [
  (.mk (some 12) none (.pure (.mv (.t 6)))), 
  (.mk (some 13) none (.pure (.bin .shr (.t 12) (.c (.i .u64 32))))), 
  (.mk (some 14) none (.pure (.conv .u32 (.t 13)))), 
  (.mk (some 15) none (.pure (.mv (.t 6)))), 
  (.mk (some 16) none (.pure (.conv .u32 (.t 15)))), 
  (.mk (some 4) none (.pure (.mv (.t 14)))), 
  (.mk (some 5) none (.pure (.mv (.t 16))))]) .ret))))
def fn86 : AFn := (AFn.mk 51 [(.t 4), (.t 5)] (.seq (.ops [
  (.mk (some 4) none (.pure (.mv (.c (.i .u64 0))))), 
  (.mk (some 5) none (.pure (.mv (.c (.i .u64 0)))))]) (.seq (.ops [
  (.mk (some 14) none (.pure (.mv (.t 0)))), 
  (.mk (some 15) none (.pure (.bin .and (.t 14) (.c (.i .u64 4294967295))))), 
  (.mk (some 6) none (.pure (.mv (.t 15))))]) (.seq (.ops [
  (.mk (some 16) none (.pure (.mv (.t 0)))), 
  (.mk (some 17) none (.pure (.bin .shr (.t 16) (.c (.i .u64 32))))), 
  (.mk (some 7) none (.pure (.mv (.t 17))))]) (.seq (.ops [
  (.mk (some 18) none (.pure (.mv (.t 1)))), 
  (.mk (some 19) none (.pure (.bin .and (.t 18) (.c (.i .u64 4294967295))))), 
  (.mk (some 8) none (.pure (.mv (.t 19))))]) (.seq (.ops [
  (.mk (some 20) none (.pure (.mv (.t 1)))), 
  (.mk (some 21) none (.pure (.bin .shr (.t 20) (.c (.i .u64 32))))), 
  (.mk (some 9) none (.pure (.mv (.t 21))))]) (.seq (.ops [
  (.mk (some 22) none (.pure (.mv (.t 6)))), 
  (.mk (some 23) none (.pure (.mv (.t 8)))), 
  (.mk (some 24) none (.pure (.bin .mul (.t 22) (.t 23)))), 
  (.mk (some 10) none (.pure (.mv (.t 24))))]) (.seq (.ops [
  (.mk (some 25) none (.pure (.mv (.t 7)))), 
  (.mk (some 26) none (.pure (.mv (.t 8)))), 
  (.mk (some 27) none (.pure (.bin .mul (.t 25) (.t 26)))), 
  (.mk (some 28) none (.pure (.mv (.t 10)))), 
  (.mk (some 29) none (.pure (.bin .shr (.t 28) (.c (.i .u64 32))))), 
  (.mk (some 30) none (.pure (.bin .add (.t 27) (.t 29)))), 
  (.mk (some 11) none (.pure (.mv (.t 30))))]) (.seq (.ops [
  (.mk (some 31) none (.pure (.mv (.t 11)))), 
  (.mk (some 32) none (.pure (.bin .and (.t 31) (.c (.i .u64 4294967295))))), 
  (.mk (some 12) none (.pure (.mv (.t 32))))]) (.seq (.ops [
  (.mk (some 33) none (.pure (.mv (.t 11)))), 
  (.mk (some 34) none (.pure (.bin .shr (.t 33) (.c (.i .u64 32))))), 
  (.mk (some 13) none (.pure (.mv (.t 34))))]) (.seq (.ops [
  (.mk (some 35) none (.pure (.mv (.t 12)))), 
  (.mk (some 36) none (.pure (.mv (.t 6)))), 
  (.mk (some 37) none (.pure (.mv (.t 9)))), 
  (.mk (some 38) none (.pure (.bin .mul (.t 36) (.t 37)))), 
  (.mk (some 39) none (.pure (.bin .add (.t 35) (.t 38)))), 
  (.mk (some 12) none (.pure (.mv (.t 39))))]) (.seq (.ops [
  (.mk (some 40) none (.pure (.mv (.t 7)))), 
  (.mk (some 41) none (.pure (.mv (.t 9)))), 
  (.mk (some 42) none (.pure (.bin .mul (.t 40) (.t 41)))), 
  (.mk (some 43) none (.pure (.mv (.t 13)))), 
  (.mk (some 44) none (.pure (.bin .add (.t 42) (.t 43)))), 
  (.mk (some 45) none (.pure (.mv (.t 12)))), 
  (.mk (some 46) none (.pure (.bin .shr (.t 45) (.c (.i .u64 32))))), 
  (.mk (some 47) none (.pure (.bin .add (.t 44) (.t 46)))), 
  (.mk (some 4) none (.pure (.mv (.t 47))))]) (.seq (.ops [
  (.mk (some 48) none (.pure (.mv (.t 0)))), 
  (.mk (some 49) none (.pure (.mv (.t 1)))), 
  (.mk (some 50) none (.pure (.bin .mul (.t 48) (.t 49)))), 
  (.mk (some 5) none (.pure (.mv (.t 50))))]) .ret)))))))))))))
def fn87 : AFn := (AFn.mk 16 [(.c 4 false 2)] (.seq (.ops [
  (.mk (some 4) none (.al 75 [(.b false), .nsl]))]) (.seq (.ops [
  (.mk (some 6) none (.pure (.mv (.t 1)))), 
  (.mk (some 7) none (.call 92 [(.t 6)])), 
  (.mk (some 5) none (.pure (.mv (.t 7))))]) (.seq (.ops [
  (.mk (some 8) none (.pure (.mv (.t 0)))), 
  (.mk (some 9) none (.pure (.mv (.t 8)))), 
  (.mk (some 10) (some (9, true)) (.pure (.mv (.t 5)))), 
  (.mk (some 11) (some (9, true)) (.pure (.len false (.t 10)))), 
  (.mk (some 12) (some (9, true)) (.pure (.bin .gtr (.t 11) (.c (.i .i64 0))))), 
  (.mk (some 13) none (.pure (.pick (.t 9) (.t 12) (.c (.b false))))), 
  (.mk (some 14) none (.pure (.mv (.t 5)))), 
  (.mk (some 15) none (.pure (.build [(.b false), .nsl] [((0, 1), (.t 13)), ((1, 1), (.t 14))]))), 
  (.mk none none (.st 2 (.t 4) (.t 15)))]) .ret))))
def fn88 : AFn := (AFn.mk 41 [(.t 4)] (.seq (.ops [
  (.mk (some 4) none (.pure (.mv (.c (.i .i64 0)))))]) (.seq (.seq (.ops [
  (.mk (some 6) none (.pure (.mv (.t 0)))), 
  (.mk (some 7) none (.pure (.len false (.t 6)))), 
  (.mk (some 8) none (.pure (.mv (.t 1)))), 
  (.mk (some 9) none (.pure (.len false (.t 8)))), 
  (.mk (some 10) none (.pure (.bin .lss (.t 7) (.t 9))))]) (.cond (.t 10) (.seq (.ops [
  (.mk (some 4) none (.pure (.mv (.c (.i .i64 (-1))))))]) .ret) .skip)) (.seq (.seq (.ops [
  (.mk (some 11) none (.pure (.mv (.t 0)))), 
  (.mk (some 12) none (.pure (.len false (.t 11)))), 
  (.mk (some 13) none (.pure (.mv (.t 1)))), 
  (.mk (some 14) none (.pure (.len false (.t 13)))), 
  (.mk (some 15) none (.pure (.bin .gtr (.t 12) (.t 14))))]) (.cond (.t 15) (.seq (.ops [
  (.mk (some 4) none (.pure (.mv (.c (.i .i64 1)))))]) .ret) .skip)) (.seq (.seq (.ops [
  (.mk (some 16) none (.pure (.mv (.t 0)))), 
  (.mk (some 17) none (.pure (.len false (.t 16)))), 
  (.mk (some 18) none (.pure (.bin .sub (.t 17) (.c (.i .i64 1))))), 
  (.mk (some 5) none (.pure (.mv (.t 18))))]) (.block 0 (.loop (.seq (.seq (.ops [
  (.mk (some 19) none (.pure (.mv (.t 5)))), 
  (.mk (some 20) none (.pure (.bin .geq (.t 19) (.c (.i .i64 0)))))]) (.cond (.t 20) .skip (.exit 0))) (.seq (.block 1 (.seq (.seq (.any [(
  (.mk (some 23) none (.pure (.mv (.t 0)))), false), (
  (.mk (some 24) none (.pure (.mv (.t 5)))), false), (
  (.mk (some 25) none (.pure (.ixS 1 (.t 23) (.t 24)))), false), (
  (.mk (some 26) none (.ld true 1 (.t 25))), false), (
  (.mk (some 27) none (.pure (.mv (.t 1)))), false), (
  (.mk (some 28) none (.pure (.mv (.t 5)))), false), (
  (.mk (some 29) none (.pure (.ixS 1 (.t 27) (.t 28)))), false), (
  (.mk (some 30) none (.ld true 1 (.t 29))), false), (
  (.mk (some 31) none (.pure (.bin .lss (.t 26) (.t 30)))), false)]) (.cond (.t 31) (.seq (.ops [
  (.mk (some 4) none (.pure (.mv (.c (.i .i64 (-1))))))]) .ret) .skip)) (.seq (.any [(
  (.mk (some 32) none (.pure (.mv (.t 0)))), false), (
  (.mk (some 33) none (.pure (.mv (.t 5)))), false), (
  (.mk (some 34) none (.pure (.ixS 1 (.t 32) (.t 33)))), false), (
  (.mk (some 35) none (.ld true 1 (.t 34))), false), (
  (.mk (some 36) none (.pure (.mv (.t 1)))), false), (
  (.mk (some 37) none (.pure (.mv (.t 5)))), false), (
  (.mk (some 38) none (.pure (.ixS 1 (.t 36) (.t 37)))), false), (
  (.mk (some 39) none (.ld true 1 (.t 38))), false), (
  (.mk (some 40) none (.pure (.bin .gtr (.t 35) (.t 39)))), false)]) (.cond (.t 40) (.seq (.ops [
  (.mk (some 4) none (.pure (.mv (.c (.i .i64 1)))))]) .ret) .skip)))) (.ops [
  (.mk (some 21) none (.pure (.mv (.t 5)))), 
  (.mk (some 22) none (.pure (.bin .sub (.t 21) (.c (.i .i64 1))))), 
  (.mk (some 5) none (.pure (.mv (.t 22))))])))))) (.seq (.ops [
  (.mk (some 4) none (.pure (.mv (.c (.i .i64 0)))))]) .ret))))))
def fn89 : AFn := (AFn.mk 64 [(.t 4)] (.seq (.ops [
  (.mk (some 4) none (.pure (.mv (.c .nsl))))]) (.seq (.ops [
  (.mk (some 10) none (.pure (.mv (.t 0)))), 
  (.mk (some 11) none (.pure (.len false (.t 10)))), 
  (.mk (some 12) none (.pure (.mv (.t 1)))), 
  (.mk (some 13) none (.pure (.len false (.t 12)))), 
  (.mk (some 14) none (.pure (.bin .add (.t 11) (.t 13)))), 
  (.mk (some 15) none (.mk 3 1 8 [(.i .i64 0)] (.t 14) (.t 14))), 
  (.mk (some 5) none (.pure (.mv (.t 15))))]) (.seq (.seq (.ops [
  (.mk (some 6) none (.pure (.mv (.c (.i .i64 0)))))]) (.block 0 (.loop (.seq (.seq (.ops [
  (.mk (some 16) none (.pure (.mv (.t 6)))), 
  (.mk (some 17) none (.pure (.mv (.t 0)))), 
  (.mk (some 18) none (.pure (.len false (.t 17)))), 
  (.mk (some 19) none (.pure (.bin .lss (.t 16) (.t 18))))]) (.cond (.t 19) .skip (.exit 0))) (.seq (.block 1 (.seq (.ops [
  (.mk (some 7) none (.pure (.mv (.c (.i .i64 0)))))]) (.seq (.seq (.ops [
  (.mk (some 8) none (.pure (.mv (.c (.i .i64 0)))))]) (.block 2 (.loop (.seq (.seq (.ops [
  (.mk (some 22) none (.pure (.mv (.t 8)))), 
  (.mk (some 23) none (.pure (.mv (.t 1)))), 
  (.mk (some 24) none (.pure (.len false (.t 23)))), 
  (.mk (some 25) none (.pure (.bin .lss (.t 22) (.t 24))))]) (.cond (.t 25) .skip (.exit 2))) (.seq (.block 3 (.seq (.any [(
  (.mk (some 28) none (.pure (.mv (.t 5)))), false), (
  (.mk (some 29) none (.pure (.mv (.t 6)))), false), (
  (.mk (some 30) none (.pure (.mv (.t 8)))), false), (
  (.mk (some 31) none (.pure (.bin .add (.t 29) (.t 30)))), false), (
  (.mk (some 32) none (.pure (.ixS 1 (.t 28) (.t 31)))), false), (
  (.mk (some 33) none (.ld true 1 (.t 32))), false), (
  (.mk (some 34) none (.pure (.mv (.t 0)))), false), (
  (.mk (some 35) none (.pure (.mv (.t 6)))), false), (
  (.mk (some 36) none (.pure (.ixS 1 (.t 34) (.t 35)))), false), (
  (.mk (some 37) none (.ld true 1 (.t 36))), false), (
  (.mk (some 38) none (.pure (.mv (.t 1)))), false), (
  (.mk (some 39) none (.pure (.mv (.t 8)))), false), (
  (.mk (some 40) none (.pure (.ixS 1 (.t 38) (.t 39)))), false), (
  (.mk (some 41) none (.ld true 1 (.t 40))), false), (
  (.mk (some 42) none (.pure (.bin .mul (.t 37) (.t 41)))), false), (
  (.mk (some 43) none (.pure (.bin .add (.t 33) (.t 42)))), false), (
  (.mk (some 44) none (.pure (.mv (.t 7)))), false), (
  (.mk (some 45) none (.pure (.bin .add (.t 43) (.t 44)))), false), (
  (.mk (some 9) none (.pure (.mv (.t 45)))), false)]) (.seq (.ops [
  (.mk (some 46) none (.pure (.mv (.t 5)))), 
  (.mk (some 47) none (.pure (.mv (.t 6)))), 
  (.mk (some 48) none (.pure (.mv (.t 8)))), 
  (.mk (some 49) none (.pure (.bin .add (.t 47) (.t 48)))), 
  (.mk (some 50) none (.pure (.mv (.t 9)))), 
  (.mk (some 51) none (.pure (.bin .rem (.t 50) (.c (.i .i64 10000))))), 
  (.mk (some 52) none (.pure (.ixS 1 (.t 46) (.t 49)))), 
  (.mk none none (.st 1 (.t 52) (.t 51)))]) (.ops [
  (.mk (some 53) none (.pure (.mv (.t 9)))), 
  (.mk (some 54) none (.pure (.bin .quo (.t 53) (.c (.i .i64 10000))))), 
  (.mk (some 7) none (.pure (.mv (.t 54))))])))) (.ops [
  (.mk (some 26) none (.pure (.mv (.t 8)))), 
  (.mk (some 27) none (.pure (.bin .add (.t 26) (.c (.i .i64 1))))), 
  (.mk (some 8) none (.pure (.mv (.t 27))))])))))) (.ops [
  (.mk (some 55) none (.pure (.mv (.t 5)))), 
  (.mk (some 56) none (.pure (.mv (.t 6)))), 
  (.mk (some 57) none (.pure (.mv (.t 1)))), 
  (.mk (some 58) none (.pure (.len false (.t 57)))), 
  (.mk (some 59) none (.pure (.bin .add (.t 56) (.t 58)))), 
  (.mk (some 60) none (.pure (.mv (.t 7)))), 
  (.mk (some 61) none (.pure (.ixS 1 (.t 55) (.t 59)))), 
  (.mk none none (.st 1 (.t 61) (.t 60)))])))) (.ops [
  (.mk (some 20) none (.pure (.mv (.t 6)))), 
  (.mk (some 21) none (.pure (.bin .add (.t 20) (.c (.i .i64 1))))), 
  (.mk (some 6) none (.pure (.mv (.t 21))))])))))) (.seq (.ops [
  (.mk (some 62) none (.pure (.mv (.t 5)))), 
  (.mk (some 63) none (.call 92 [(.t 62)])), 
  (.mk (some 4) none (.pure (.mv (.t 63))))]) .ret)))))
def fn90 : AFn := (AFn.mk 54 [(.t 4)] (.seq (.ops [
  (.mk (some 4) none (.pure (.mv (.c .nsl))))]) (.seq (.ops [
  (.mk (some 5) none (.pure (.mv (.c .nsl))))]) (.seq (.ops [
  (.mk (some 6) none (.pure (.mv (.c (.i .i64 0)))))]) (.seq (.seq (.ops [
  (.mk (some 7) none (.pure (.mv (.c (.i .i64 0)))))]) (.block 0 (.loop (.seq (.seq (.ops [
  (.mk (some 9) none (.pure (.mv (.t 7)))), 
  (.mk (some 10) none (.pure (.mv (.t 0)))), 
  (.mk (some 11) none (.pure (.len false (.t 10)))), 
  (.mk (some 12) none (.pure (.bin .lss (.t 9) (.t 11)))), 
  (.mk (some 13) none (.pure (.mv (.t 12)))), 
  (.mk (some 14) (some (13, false)) (.pure (.mv (.t 7)))), 
  (.mk (some 15) (some (13, false)) (.pure (.mv (.t 1)))), 
  (.mk (some 16) (some (13, false)) (.pure (.len false (.t 15)))), 
  (.mk (some 17) (some (13, false)) (.pure (.bin .lss (.t 14) (.t 16)))), 
  (.mk (some 18) none (.pure (.pick (.t 13) (.c (.b true)) (.t 17)))), 
  (.mk (some 19) none (.pure (.mv (.t 18)))), 
  (.mk (some 20) (some (19, false)) (.pure (.mv (.t 6)))), 
  (.mk (some 21) (some (19, false)) (.pure (.bin .gtr (.t 20) (.c (.i .i64 0))))), 
  (.mk (some 22) none (.pure (.pick (.t 19) (.c (.b true)) (.t 21))))]) (.cond (.t 22) .skip (.exit 0))) (.seq (.block 1 (.seq (.ops [
  (.mk (some 25) none (.pure (.mv (.t 6)))), 
  (.mk (some 8) none (.pure (.mv (.t 25))))]) (.seq (.seq (.ops [
  (.mk (some 26) none (.pure (.mv (.t 7)))), 
  (.mk (some 27) none (.pure (.mv (.t 0)))), 
  (.mk (some 28) none (.pure (.len false (.t 27)))), 
  (.mk (some 29) none (.pure (.bin .lss (.t 26) (.t 28))))]) (.cond (.t 29) (.ops [
  (.mk (some 30) none (.pure (.mv (.t 8)))), 
  (.mk (some 31) none (.pure (.mv (.t 0)))), 
  (.mk (some 32) none (.pure (.mv (.t 7)))), 
  (.mk (some 33) none (.pure (.ixS 1 (.t 31) (.t 32)))), 
  (.mk (some 34) none (.ld true 1 (.t 33))), 
  (.mk (some 35) none (.pure (.bin .add (.t 30) (.t 34)))), 
  (.mk (some 8) none (.pure (.mv (.t 35))))]) .skip)) (.seq (.seq (.ops [
  (.mk (some 36) none (.pure (.mv (.t 7)))), 
  (.mk (some 37) none (.pure (.mv (.t 1)))), 
  (.mk (some 38) none (.pure (.len false (.t 37)))), 
  (.mk (some 39) none (.pure (.bin .lss (.t 36) (.t 38))))]) (.cond (.t 39) (.ops [
  (.mk (some 40) none (.pure (.mv (.t 8)))), 
  (.mk (some 41) none (.pure (.mv (.t 1)))), 
  (.mk (some 42) none (.pure (.mv (.t 7)))), 
  (.mk (some 43) none (.pure (.ixS 1 (.t 41) (.t 42)))), 
  (.mk (some 44) none (.ld true 1 (.t 43))), 
  (.mk (some 45) none (.pure (.bin .add (.t 40) (.t 44)))), 
  (.mk (some 8) none (.pure (.mv (.t 45))))]) .skip)) (.seq (.ops [
  (.mk (some 46) none (.pure (.mv (.t 5)))), 
  (.mk (some 47) none (.pure (.mv (.t 8)))), 
  (.mk (some 48) none (.pure (.bin .rem (.t 47) (.c (.i .i64 10000))))), 
  (.mk (some 49) none (.bsl 3 1 [(.i .i64 0)] 1 [((0, 1), (.t 48))])), 
  (.mk (some 50) none (.app 3 1 8 [(.i .i64 0)] (.t 46) (.t 49))), 
  (.mk (some 5) none (.pure (.mv (.t 50))))]) (.ops [
  (.mk (some 51) none (.pure (.mv (.t 8)))), 
  (.mk (some 52) none (.pure (.bin .quo (.t 51) (.c (.i .i64 10000))))), 
  (.mk (some 6) none (.pure (.mv (.t 52))))])))))) (.ops [
  (.mk (some 23) none (.pure (.mv (.t 7)))), 
  (.mk (some 24) none (.pure (.bin .add (.t 23) (.c (.i .i64 1))))), 
  (.mk (some 7) none (.pure (.mv (.t 24))))])))))) (.seq (.ops [
  (.mk (some 53) none (.pure (.mv (.t 5)))), 
  (.mk (some 4) none (.pure (.mv (.t 53))))]) .ret))))))
def fn91 : AFn := (AFn.mk 41 [(.t 4)] (.seq (.ops [
  (.mk (some 4) none (.pure (.mv (.c .nsl))))]) (.seq (.ops [
  (.mk (some 5) none (.pure (.mv (.c .nsl))))]) (.seq (.ops [
  (.mk (some 6) none (.pure (.mv (.c (.i .i64 0)))))]) (.seq (.seq (.ops [
  (.mk (some 7) none (.pure (.mv (.c (.i .i64 0)))))]) (.block 0 (.loop (.seq (.seq (.ops [
  (.mk (some 9) none (.pure (.mv (.t 7)))), 
  (.mk (some 10) none (.pure (.mv (.t 0)))), 
  (.mk (some 11) none (.pure (.len false (.t 10)))), 
  (.mk (some 12) none (.pure (.bin .lss (.t 9) (.t 11))))]) (.cond (.t 12) .skip (.exit 0))) (.seq (.block 1 (.seq (.ops [
  (.mk (some 15) none (.pure (.mv (.t 0)))), 
  (.mk (some 16) none (.pure (.mv (.t 7)))), 
  (.mk (some 17) none (.pure (.ixS 1 (.t 15) (.t 16)))), 
  (.mk (some 18) none (.ld true 1 (.t 17))), 
  (.mk (some 19) none (.pure (.mv (.t 6)))), 
  (.mk (some 20) none (.pure (.bin .sub (.t 18) (.t 19)))), 
  (.mk (some 8) none (.pure (.mv (.t 20))))]) (.seq (.seq (.ops [
  (.mk (some 21) none (.pure (.mv (.t 7)))), 
  (.mk (some 22) none (.pure (.mv (.t 1)))), 
  (.mk (some 23) none (.pure (.len false (.t 22)))), 
  (.mk (some 24) none (.pure (.bin .lss (.t 21) (.t 23))))]) (.cond (.t 24) (.ops [
  (.mk (some 25) none (.pure (.mv (.t 8)))), 
  (.mk (some 26) none (.pure (.mv (.t 1)))), 
  (.mk (some 27) none (.pure (.mv (.t 7)))), 
  (.mk (some 28) none (.pure (.ixS 1 (.t 26) (.t 27)))), 
  (.mk (some 29) none (.ld true 1 (.t 28))), 
  (.mk (some 30) none (.pure (.bin .sub (.t 25) (.t 29)))), 
  (.mk (some 8) none (.pure (.mv (.t 30))))]) .skip)) (.seq (.ops [
  (.mk (some 6) none (.pure (.mv (.c (.i .i64 0)))))]) (.seq (.seq (.ops [
  (.mk (some 31) none (.pure (.mv (.t 8)))), 
  (.mk (some 32) none (.pure (.bin .lss (.t 31) (.c (.i .i64 0)))))]) (.cond (.t 32) (.seq (.ops [
  (.mk (some 33) none (.pure (.mv (.t 8)))), 
  (.mk (some 34) none (.pure (.bin .add (.t 33) (.c (.i .i64 10000))))), 
  (.mk (some 8) none (.pure (.mv (.t 34))))]) (.ops [
  (.mk (some 6) none (.pure (.mv (.c (.i .i64 1)))))])) .skip)) (.ops [
  (.mk (some 35) none (.pure (.mv (.t 5)))), 
  (.mk (some 36) none (.pure (.mv (.t 8)))), 
  (.mk (some 37) none (.bsl 3 1 [(.i .i64 0)] 1 [((0, 1), (.t 36))])), 
  (.mk (some 38) none (.app 3 1 8 [(.i .i64 0)] (.t 35) (.t 37))), 
  (.mk (some 5) none (.pure (.mv (.t 38))))])))))) (.ops [
  (.mk (some 13) none (.pure (.mv (.t 7)))), 
  (.mk (some 14) none (.pure (.bin .add (.t 13) (.c (.i .i64 1))))), 
  (.mk (some 7) none (.pure (.mv (.t 14))))])))))) (.seq (.ops [
  (.mk (some 39) none (.pure (.mv (.t 5)))), 
  (.mk (some 40) none (.call 92 [(.t 39)])), 
  (.mk (some 4) none (.pure (.mv (.t 40))))]) .ret))))))
def fn92 : AFn := (AFn.mk 33 [(.t 2)] (.seq (.ops [
  (.mk (some 2) none (.pure (.mv (.c .nsl))))]) (.seq (.ops [
  (.mk (some 6) none (.pure (.mv (.t 0)))), 
  (.mk (some 7) none (.pure (.len false (.t 6)))), 
  (.mk (some 3) none (.pure (.mv (.t 7))))]) (.seq (.block 0 (.loop (.seq (.seq (.ops [
  (.mk (some 8) none (.pure (.mv (.t 3)))), 
  (.mk (some 9) none (.pure (.bin .gtr (.t 8) (.c (.i .i64 0))))), 
  (.mk (some 10) none (.pure (.mv (.t 9)))), 
  (.mk (some 11) (some (10, true)) (.pure (.mv (.t 0)))), 
  (.mk (some 12) (some (10, true)) (.pure (.mv (.t 3)))), 
  (.mk (some 13) (some (10, true)) (.pure (.bin .sub (.t 12) (.c (.i .i64 1))))), 
  (.mk (some 14) (some (10, true)) (.pure (.ixS 1 (.t 11) (.t 13)))), 
  (.mk (some 15) (some (10, true)) (.ld true 1 (.t 14))), 
  (.mk (some 16) (some (10, true)) (.pure (.bin .eql (.t 15) (.c (.i .i64 0))))), 
  (.mk (some 17) none (.pure (.pick (.t 10) (.t 16) (.c (.b false)))))]) (.cond (.t 17) .skip (.exit 0))) (.block 1 (.ops [
  (.mk (some 18) none (.pure (.mv (.t 3)))), 
  (.mk (some 19) none (.pure (.bin .sub (.t 18) (.c (.i .i64 1))))), 
  (.mk (some 3) none (.pure (.mv (.t 19))))]))))) (.seq (.ops [
  (.mk (some 4) none (.pure (.mv (.c .nsl))))]) (.seq (.seq (.ops [
  (.mk (some 5) none (.pure (.mv (.c (.i .i64 0)))))]) (.block 2 (.loop (.seq (.seq (.ops [
  (.mk (some 20) none (.pure (.mv (.t 5)))), 
  (.mk (some 21) none (.pure (.mv (.t 3)))), 
  (.mk (some 22) none (.pure (.bin .lss (.t 20) (.t 21))))]) (.cond (.t 22) .skip (.exit 2))) (.seq (.block 3 (.ops [
  (.mk (some 25) none (.pure (.mv (.t 4)))), 
  (.mk (some 26) none (.pure (.mv (.t 0)))), 
  (.mk (some 27) none (.pure (.mv (.t 5)))), 
  (.mk (some 28) none (.pure (.ixS 1 (.t 26) (.t 27)))), 
  (.mk (some 29) none (.ld true 1 (.t 28))), 
  (.mk (some 30) none (.bsl 3 1 [(.i .i64 0)] 1 [((0, 1), (.t 29))])), 
  (.mk (some 31) none (.app 3 1 8 [(.i .i64 0)] (.t 25) (.t 30))), 
  (.mk (some 4) none (.pure (.mv (.t 31))))])) (.ops [
  (.mk (some 23) none (.pure (.mv (.t 5)))), 
  (.mk (some 24) none (.pure (.bin .add (.t 23) (.c (.i .i64 1))))), 
  (.mk (some 5) none (.pure (.mv (.t 24))))])))))) (.seq (.ops [
  (.mk (some 32) none (.pure (.mv (.t 4)))), 
  (.mk (some 2) none (.pure (.mv (.t 32))))]) .ret)))))))
def F (f : Nat) : Option AFn := cond (Nat.blt f 68) (cond (Nat.blt f 38) (cond (Nat.blt f 33) (cond (Nat.blt f 19) (cond (Nat.blt f 18) (cond (Nat.beq f 7) (some fn7) none) (cond (Nat.beq f 18) (some fn18) none)) (cond (Nat.blt f 25) (cond (Nat.beq f 19) (some fn19) none) (cond (Nat.blt f 29) (cond (Nat.beq f 25) (some fn25) none) (cond (Nat.beq f 29) (some fn29) none)))) (cond (Nat.blt f 35) (cond (Nat.blt f 34) (cond (Nat.beq f 33) (some fn33) none) (cond (Nat.beq f 34) (some fn34) none)) (cond (Nat.blt f 36) (cond (Nat.beq f 35) (some fn35) none) (cond (Nat.blt f 37) (cond (Nat.beq f 36) (some fn36) none) (cond (Nat.beq f 37) (some fn37) none))))) (cond (Nat.blt f 59) (cond (Nat.blt f 51) (cond (Nat.blt f 39) (cond (Nat.beq f 38) (some fn38) none) (cond (Nat.beq f 39) (some fn39) none)) (cond (Nat.blt f 52) (cond (Nat.beq f 51) (some fn51) none) (cond (Nat.blt f 53) (cond (Nat.beq f 52) (some fn52) none) (cond (Nat.beq f 53) (some fn53) none)))) (cond (Nat.blt f 63) (cond (Nat.blt f 60) (cond (Nat.beq f 59) (some fn59) none) (cond (Nat.beq f 60) (some fn60) none)) (cond (Nat.blt f 66) (cond (Nat.beq f 63) (some fn63) none) (cond (Nat.blt f 67) (cond (Nat.beq f 66) (some fn66) none) (cond (Nat.beq f 67) (some fn67) none)))))) (cond (Nat.blt f 82) (cond (Nat.blt f 73) (cond (Nat.blt f 70) (cond (Nat.blt f 69) (cond (Nat.beq f 68) (some fn68) none) (cond (Nat.beq f 69) (some fn69) none)) (cond (Nat.blt f 71) (cond (Nat.beq f 70) (some fn70) none) (cond (Nat.blt f 72) (cond (Nat.beq f 71) (some fn71) none) (cond (Nat.beq f 72) (some fn72) none)))) (cond (Nat.blt f 77) (cond (Nat.blt f 75) (cond (Nat.beq f 73) (some fn73) none) (cond (Nat.beq f 75) (some fn75) none)) (cond (Nat.blt f 78) (cond (Nat.beq f 77) (some fn77) none) (cond (Nat.blt f 81) (cond (Nat.beq f 78) (some fn78) none) (cond (Nat.beq f 81) (some fn81) none))))) (cond (Nat.blt f 87) (cond (Nat.blt f 84) (cond (Nat.blt f 83) (cond (Nat.beq f 82) (some fn82) none) (cond (Nat.beq f 83) (some fn83) none)) (cond (Nat.blt f 85) (cond (Nat.beq f 84) (some fn84) none) (cond (Nat.blt f 86) (cond (Nat.beq f 85) (some fn85) none) (cond (Nat.beq f 86) (some fn86) none)))) (cond (Nat.blt f 90) (cond (Nat.blt f 88) (cond (Nat.beq f 87) (some fn87) none) (cond (Nat.blt f 89) (cond (Nat.beq f 88) (some fn88) none) (cond (Nat.beq f 89) (some fn89) none))) (cond (Nat.blt f 91) (cond (Nat.beq f 90) (some fn90) none) (cond (Nat.blt f 92) (cond (Nat.beq f 91) (some fn91) none) (cond (Nat.beq f 92) (some fn92) none))))))
end Go.Proofs.Ytobmcofkcfifkaa.T
